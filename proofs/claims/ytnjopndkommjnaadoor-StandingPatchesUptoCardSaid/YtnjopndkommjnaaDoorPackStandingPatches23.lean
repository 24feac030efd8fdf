/- The statement StandingPatches, proved for every input that its row reads: part 23 of 54. -/
import Derived.Test.YtnjopndkommjnaaDoorCellsG
import Derived.Test.YtnjopndkommjnaaDoorPackStandingPatches13
import Derived.Laws.AppendOwnNone
import Derived.Test.YtnjopndkommjnaaDoorPackStandingPatches10
/- append of rows of cells. -/
namespace Go.Proofs.YtnjopndkommjnaaDoor
open Go Go.RowKit
set_option linter.unusedVariables false
set_option maxRecDepth 1000000

section
variable {ops : Array Oper} {rest : List Oper} {o : Oper} {a : Act} {Q : Exit → Act → World → Prop}
/-- writes that lie somewhere, put behind writes of one's own -/
theorem wpList_chgs (w : World) (hg : o.guard = none) (s x : Operand) (ho : o.op = .call { callee := .builtin .append, args := #[s, x], argTypes := #[26, 26] })
    (B n : Nat) (xs : List Value) (v : Value) (hs : a.eval s = v) (hown : w.ownsRow B 30 3 v n xs) (b of m c : Nat) (L : List Chg) (hm : L.length = m) (hx : a.eval x = .slice (some ⟨b, of, none⟩) m c) (hl : w.rangeAt b of (ccl L))
    (hlen : n + m ≤ 1000000) (hB : B ≤ w.heap.size)
    (h : ∀ v' w', w'.ownsRow B 30 3 v' (n + m) (xs ++ ccl L) → w.grownBy w' v.ownBlock → wpList Tryd.prog ops Q rest (a.put o.dst v') w') : wpList Tryd.prog ops Q (o :: rest) a w := by
  subst hm
  obtain ⟨i0, hi, hz0, hz1, hz2⟩ := info_parts infoChg
  refine wpList_append_own _ hg s x 26 ho B 30 i0 _ 3 32 Tryd.underlying26 hi hz0 hz1 hz2 rfl (by decide) v n xs hs hown ⟨b, of, none⟩ L.length c (ccl L) hx (ccl_length L) ?_ (ccl_one L) (by unfold maxLen; omega) (by omega) hB ?_
  · intro j u hu
    rw [Addr.add_mid]; exact hl j u hu
  · intro v' w' h1 h2 _
    exact h v' w' h1 h2
theorem wpList_chgNone (w : World) (hg : o.guard = none) (s x : Operand) (ho : o.op = .call { callee := .builtin .append, args := #[s, x], argTypes := #[26, 26] })
    (B n : Nat) (xs : List Value) (v : Value) (hs : a.eval s = v) (hown : w.ownsRow B 30 3 v n xs) (hx : a.eval x = .slice none 0 0)
    (h : wpList Tryd.prog ops Q rest (a.put o.dst v) w) : wpList Tryd.prog ops Q (o :: rest) a w := by
  obtain ⟨i0, hi, hz0, hz1, hz2⟩ := info_parts infoChg
  exact wpList_append_own_none hg s x _ ho B 30 i0 3 Tryd.underlying26 hi v n xs hs hown hx h
/-- one write put behind writes of one's own -/
theorem wpList_chg (w : World) (hg : o.guard = none) (s x : Operand) (ho : o.op = .call { callee := .builtin .append, args := #[s, x], argTypes := #[26, 26] })
    (B n : Nat) (xs : List Value) (v : Value) (hs : a.eval s = v) (hown : w.ownsRow B 30 3 v n xs) (X : Chg) (hx : a.eval x = .slice (some ⟨w.heap.size, 0, none⟩) 1 1)
    (hlen : n + 1 ≤ 1000000) (hB : B ≤ w.heap.size)
    (h : ∀ v' w', w'.ownsRow B 30 3 v' (n + 1) (xs ++ X.cells) → w.grownBy w' v.ownBlock → wpList Tryd.prog ops Q rest (a.put o.dst v') w') : wpList Tryd.prog ops Q (o :: rest) a (w.alloc (.cells X.cells.toArray 30)) := by
  obtain ⟨i0, hi, hz0, hz1, hz2⟩ := info_parts infoChg
  refine wpList_append_own _ hg s x 26 ho B 30 i0 _ 3 32 Tryd.underlying26 hi hz0 hz1 hz2 rfl (by decide) v n xs hs (hown.alloc _) ⟨w.heap.size, 0, none⟩ 1 1 X.cells hx rfl ?_ X.cells_one (by unfold maxLen; omega) (by omega) (by simp; omega) ?_
  · intro j u hu
    rw [Addr.add_lit, Nat.zero_add, cell_of_row _ w.heap.size j _ _ _ (heap_alloc_new w (.cells X.cells.toArray 30))]
    simpa using hu
  · intro v' w' g1 g2 _
    refine h v' w' g1 ?_
    have g0 := World.grownBy_alloc w (.cells X.cells.toArray 30) v.ownBlock
    exact ⟨g2.os.trans g0.os, g2.tape.trans g0.tape, g2.output.trans g0.output, Nat.le_trans g0.size g2.size, fun i hi hne => (g2.block i (Nat.lt_of_lt_of_le hi g0.size) hne).trans (g0.block i hi hne)⟩
end
end Go.Proofs.YtnjopndkommjnaaDoor
/- append of rows of cells. -/
namespace Go.Proofs.YtnjopndkommjnaaDoor
open Go Go.RowKit
set_option linter.unusedVariables false
set_option maxRecDepth 1000000

section
variable {ops : Array Oper} {rest : List Oper} {o : Oper} {a : Act} {Q : Exit → Act → World → Prop}
/-- writes that lie somewhere, put behind writes of one's own -/
theorem wpList_hits (w : World) (hg : o.guard = none) (s x : Operand) (ho : o.op = .call { callee := .builtin .append, args := #[s, x], argTypes := #[22, 22] })
    (B n : Nat) (xs : List Value) (v : Value) (hs : a.eval s = v) (hown : w.ownsRow B 28 2 v n xs) (b of m c : Nat) (L : List Ht) (hm : L.length = m) (hx : a.eval x = .slice (some ⟨b, of, none⟩) m c) (hl : w.rangeAt b of (hcl L))
    (hlen : n + m ≤ 1000000) (hB : B ≤ w.heap.size)
    (h : ∀ v' w', w'.ownsRow B 28 2 v' (n + m) (xs ++ hcl L) → w.grownBy w' v.ownBlock → wpList Tryd.prog ops Q rest (a.put o.dst v') w') : wpList Tryd.prog ops Q (o :: rest) a w := by
  subst hm
  obtain ⟨i0, hi, hz0, hz1, hz2⟩ := info_parts infoHt
  refine wpList_append_own _ hg s x 22 ho B 28 i0 _ 2 24 Tryd.underlying22 hi hz0 hz1 hz2 rfl (by decide) v n xs hs hown ⟨b, of, none⟩ L.length c (hcl L) hx (hcl_length L) ?_ (hcl_one L) (by unfold maxLen; omega) (by omega) hB ?_
  · intro j u hu
    rw [Addr.add_mid]; exact hl j u hu
  · intro v' w' h1 h2 _
    exact h v' w' h1 h2
theorem wpList_hitNone (w : World) (hg : o.guard = none) (s x : Operand) (ho : o.op = .call { callee := .builtin .append, args := #[s, x], argTypes := #[22, 22] })
    (B n : Nat) (xs : List Value) (v : Value) (hs : a.eval s = v) (hown : w.ownsRow B 28 2 v n xs) (hx : a.eval x = .slice none 0 0)
    (h : wpList Tryd.prog ops Q rest (a.put o.dst v) w) : wpList Tryd.prog ops Q (o :: rest) a w := by
  obtain ⟨i0, hi, hz0, hz1, hz2⟩ := info_parts infoHt
  exact wpList_append_own_none hg s x _ ho B 28 i0 2 Tryd.underlying22 hi v n xs hs hown hx h
/-- one write put behind writes of one's own -/
theorem wpList_hit (w : World) (hg : o.guard = none) (s x : Operand) (ho : o.op = .call { callee := .builtin .append, args := #[s, x], argTypes := #[22, 22] })
    (B n : Nat) (xs : List Value) (v : Value) (hs : a.eval s = v) (hown : w.ownsRow B 28 2 v n xs) (X : Ht) (hx : a.eval x = .slice (some ⟨w.heap.size, 0, none⟩) 1 1)
    (hlen : n + 1 ≤ 1000000) (hB : B ≤ w.heap.size)
    (h : ∀ v' w', w'.ownsRow B 28 2 v' (n + 1) (xs ++ X.cells) → w.grownBy w' v.ownBlock → wpList Tryd.prog ops Q rest (a.put o.dst v') w') : wpList Tryd.prog ops Q (o :: rest) a (w.alloc (.cells X.cells.toArray 28)) := by
  obtain ⟨i0, hi, hz0, hz1, hz2⟩ := info_parts infoHt
  refine wpList_append_own _ hg s x 22 ho B 28 i0 _ 2 24 Tryd.underlying22 hi hz0 hz1 hz2 rfl (by decide) v n xs hs (hown.alloc _) ⟨w.heap.size, 0, none⟩ 1 1 X.cells hx rfl ?_ X.cells_one (by unfold maxLen; omega) (by omega) (by simp; omega) ?_
  · intro j u hu
    rw [Addr.add_lit, Nat.zero_add, cell_of_row _ w.heap.size j _ _ _ (heap_alloc_new w (.cells X.cells.toArray 28))]
    simpa using hu
  · intro v' w' g1 g2 _
    refine h v' w' g1 ?_
    have g0 := World.grownBy_alloc w (.cells X.cells.toArray 28) v.ownBlock
    exact ⟨g2.os.trans g0.os, g2.tape.trans g0.tape, g2.output.trans g0.output, Nat.le_trans g0.size g2.size, fun i hi hne => (g2.block i (Nat.lt_of_lt_of_le hi g0.size) hne).trans (g0.block i hi hne)⟩
end
end Go.Proofs.YtnjopndkommjnaaDoor
