/- The statement DocsReads, proved for every input that its row reads: part 15 of 54. -/
import Derived.Test.YtijmijokgenflaaGreatDoorPackDocsReads10
import Derived.Test.YtijmijokgenflaaGreatDoorMemStrs
import Derived.Laws.AppendOwnNone
/- append of dots, of texts: some, none, one. -/
namespace Go.Proofs.YtijmijokgenflaaGreatDoor
open Go Go.RowKit
set_option linter.unusedVariables false
set_option maxRecDepth 1000000

theorem dvs_one (d : Dt) : ∀ u ∈ dvs d, u.oneCell' = true := by
  intro u hu
  simp [dvs] at hu
  rcases hu with rfl | rfl <;> rfl
theorem dcl_takeK : ∀ (L : List Dt) (k : Nat), dcl (L.take k) = (dcl L).take (k * 2)
  | [], k => by simp [dcl]
  | x :: L, 0 => by simp [dcl]
  | x :: L, k + 1 => by
    have h := dcl_takeK L k
    rw [List.take_succ_cons, show dcl (x :: L.take k) = dvs x ++ dcl (L.take k) from rfl, show dcl (x :: L) = dvs x ++ dcl L from rfl, h, show (k + 1) * 2 = (dvs x).length + k * 2 by show _ = 2 + k * 2; omega, List.take_length_add_append]
theorem dcl_dropK : ∀ (L : List Dt) (k : Nat), dcl (L.drop k) = (dcl L).drop (k * 2)
  | [], k => by simp [dcl]
  | x :: L, 0 => by simp [dcl]
  | x :: L, k + 1 => by
    have h := dcl_dropK L k
    rw [List.drop_succ_cons, show dcl (x :: L) = dvs x ++ dcl L from rfl, h, show (k + 1) * 2 = (dvs x).length + k * 2 by show _ = 2 + k * 2; omega, List.drop_length_add_append]
theorem dcl_snoc (l : List Dt) (x : Dt) : dcl (l ++ [x]) = dcl l ++ dvs x := by rw [dcl_append]; simp [dcl]
theorem strs_takeK (L : List ByteArray) (k : Nat) : strs (L.take k) = (strs L).take (k * 1) := by rw [Nat.mul_one]; simp [strs]
theorem strs_dropK (L : List ByteArray) (k : Nat) : strs (L.drop k) = (strs L).drop (k * 1) := by rw [Nat.mul_one]; simp [strs]
theorem strs_lenK (L : List ByteArray) : (strs L).length = L.length * 1 := by rw [Nat.mul_one, strs_length]
theorem strs_snoc (l : List ByteArray) (x : ByteArray) : strs (l ++ [x]) = strs l ++ [.string x] := by rw [strs_append]; rfl
theorem str_one (x : ByteArray) : ∀ u ∈ [Value.string x], u.oneCell' = true := by
  intro u hu
  rw [List.mem_singleton.1 hu]; rfl
theorem infoStr : (Tryz.prog.info? 9).map (fun i => (i.zero, i.size, i.bytes)) = some (some (.string ByteArray.empty), 1, 16) := by kernel_rfl
section
variable {ops : Array Oper} {rest : List Oper} {o : Oper} {a : Act} {Q : Exit → Act → World → Prop}
/-- writes that lie somewhere, put behind writes of one's own -/
theorem wpList_dts (w : World) (hg : o.guard = none) (s x : Operand) (ho : o.op = .call { callee := .builtin .append, args := #[s, x], argTypes := #[41, 41] })
    (B n : Nat) (xs : List Value) (v : Value) (hs : a.eval s = v) (hown : w.ownsRow B 37 2 v n xs) (b of m c : Nat) (L : List Dt) (hm : L.length = m) (hx : a.eval x = .slice (some ⟨b, of, none⟩) m c) (hl : w.rangeAt b of (dcl L))
    (hlen : n + m ≤ 1000000) (hB : B ≤ w.heap.size)
    (h : ∀ v' w', w'.ownsRow B 37 2 v' (n + m) (xs ++ dcl L) → w.grownBy w' v.ownBlock → wpList Tryz.prog ops Q rest (a.put o.dst v') w') : wpList Tryz.prog ops Q (o :: rest) a w := by
  subst hm
  obtain ⟨i0, hi, hz0, hz1, hz2⟩ := info_parts infoDt
  refine wpList_append_own _ hg s x 41 ho B 37 i0 _ 2 16 Tryz.underlying41 hi hz0 hz1 hz2 rfl (by decide) v n xs hs hown ⟨b, of, none⟩ L.length c (dcl L) hx (dcl_length L) ?_ (dcl_one L) (by unfold maxLen; omega) (by omega) hB ?_
  · intro j u hu
    rw [Addr.add_mid]; exact hl j u hu
  · intro v' w' h1 h2 _
    exact h v' w' h1 h2
theorem wpList_dtNone (w : World) (hg : o.guard = none) (s x : Operand) (ho : o.op = .call { callee := .builtin .append, args := #[s, x], argTypes := #[41, 41] })
    (B n : Nat) (xs : List Value) (v : Value) (hs : a.eval s = v) (hown : w.ownsRow B 37 2 v n xs) (hx : a.eval x = .slice none 0 0)
    (h : wpList Tryz.prog ops Q rest (a.put o.dst v) w) : wpList Tryz.prog ops Q (o :: rest) a w := by
  obtain ⟨i0, hi, hz0, hz1, hz2⟩ := info_parts infoDt
  exact wpList_append_own_none hg s x _ ho B 37 i0 2 Tryz.underlying41 hi v n xs hs hown hx h
/-- one write put behind writes of one's own -/
theorem wpList_dt (w : World) (hg : o.guard = none) (s x : Operand) (ho : o.op = .call { callee := .builtin .append, args := #[s, x], argTypes := #[41, 41] })
    (B n : Nat) (xs : List Value) (v : Value) (hs : a.eval s = v) (hown : w.ownsRow B 37 2 v n xs) (X : Dt) (hx : a.eval x = .slice (some ⟨w.heap.size, 0, none⟩) 1 1)
    (hlen : n + 1 ≤ 1000000) (hB : B ≤ w.heap.size)
    (h : ∀ v' w', w'.ownsRow B 37 2 v' (n + 1) (xs ++ (dvs X)) → w.grownBy w' v.ownBlock → wpList Tryz.prog ops Q rest (a.put o.dst v') w') : wpList Tryz.prog ops Q (o :: rest) a (w.alloc (.cells (dvs X).toArray 37)) := by
  obtain ⟨i0, hi, hz0, hz1, hz2⟩ := info_parts infoDt
  refine wpList_append_own _ hg s x 41 ho B 37 i0 _ 2 16 Tryz.underlying41 hi hz0 hz1 hz2 rfl (by decide) v n xs hs (hown.alloc _) ⟨w.heap.size, 0, none⟩ 1 1 (dvs X) hx rfl ?_ (dvs_one X) (by unfold maxLen; omega) (by omega) (by simp; omega) ?_
  · intro j u hu
    rw [Addr.add_lit, Nat.zero_add, cell_of_row _ w.heap.size j _ _ _ (heap_alloc_new w (.cells (dvs X).toArray 37))]
    simpa using hu
  · intro v' w' g1 g2 _
    refine h v' w' g1 ?_
    have g0 := World.grownBy_alloc w (.cells (dvs X).toArray 37) v.ownBlock
    exact ⟨g2.os.trans g0.os, g2.tape.trans g0.tape, g2.output.trans g0.output, Nat.le_trans g0.size g2.size, fun i hi hne => (g2.block i (Nat.lt_of_lt_of_le hi g0.size) hne).trans (g0.block i hi hne)⟩
end
section
variable {ops : Array Oper} {rest : List Oper} {o : Oper} {a : Act} {Q : Exit → Act → World → Prop}
/-- writes that lie somewhere, put behind writes of one's own -/
theorem wpList_strs (w : World) (hg : o.guard = none) (s x : Operand) (ho : o.op = .call { callee := .builtin .append, args := #[s, x], argTypes := #[44, 44] })
    (B n : Nat) (xs : List Value) (v : Value) (hs : a.eval s = v) (hown : w.ownsRow B 9 1 v n xs) (b of m c : Nat) (L : List ByteArray) (hm : L.length = m) (hx : a.eval x = .slice (some ⟨b, of, none⟩) m c) (hl : w.rangeAt b of (strs L))
    (hlen : n + m ≤ 1000000) (hB : B ≤ w.heap.size)
    (h : ∀ v' w', w'.ownsRow B 9 1 v' (n + m) (xs ++ strs L) → w.grownBy w' v.ownBlock → wpList Tryz.prog ops Q rest (a.put o.dst v') w') : wpList Tryz.prog ops Q (o :: rest) a w := by
  subst hm
  obtain ⟨i0, hi, hz0, hz1, hz2⟩ := info_parts infoStr
  refine wpList_append_own _ hg s x 44 ho B 9 i0 _ 1 16 Tryz.underlying44 hi hz0 hz1 hz2 rfl (by decide) v n xs hs hown ⟨b, of, none⟩ L.length c (strs L) hx (strs_lenK L) ?_ (strs_one L) (by unfold maxLen; omega) (by omega) hB ?_
  · intro j u hu
    rw [Addr.add_mid]; exact hl j u hu
  · intro v' w' h1 h2 _
    exact h v' w' h1 h2
theorem wpList_strNone (w : World) (hg : o.guard = none) (s x : Operand) (ho : o.op = .call { callee := .builtin .append, args := #[s, x], argTypes := #[44, 44] })
    (B n : Nat) (xs : List Value) (v : Value) (hs : a.eval s = v) (hown : w.ownsRow B 9 1 v n xs) (hx : a.eval x = .slice none 0 0)
    (h : wpList Tryz.prog ops Q rest (a.put o.dst v) w) : wpList Tryz.prog ops Q (o :: rest) a w := by
  obtain ⟨i0, hi, hz0, hz1, hz2⟩ := info_parts infoStr
  exact wpList_append_own_none hg s x _ ho B 9 i0 1 Tryz.underlying44 hi v n xs hs hown hx h
/-- one write put behind writes of one's own -/
theorem wpList_str (w : World) (hg : o.guard = none) (s x : Operand) (ho : o.op = .call { callee := .builtin .append, args := #[s, x], argTypes := #[44, 44] })
    (B n : Nat) (xs : List Value) (v : Value) (hs : a.eval s = v) (hown : w.ownsRow B 9 1 v n xs) (X : ByteArray) (hx : a.eval x = .slice (some ⟨w.heap.size, 0, none⟩) 1 1)
    (hlen : n + 1 ≤ 1000000) (hB : B ≤ w.heap.size)
    (h : ∀ v' w', w'.ownsRow B 9 1 v' (n + 1) (xs ++ [Value.string X]) → w.grownBy w' v.ownBlock → wpList Tryz.prog ops Q rest (a.put o.dst v') w') : wpList Tryz.prog ops Q (o :: rest) a (w.alloc (.cells #[Value.string X] 9)) := by
  obtain ⟨i0, hi, hz0, hz1, hz2⟩ := info_parts infoStr
  refine wpList_append_own _ hg s x 44 ho B 9 i0 _ 1 16 Tryz.underlying44 hi hz0 hz1 hz2 rfl (by decide) v n xs hs (hown.alloc _) ⟨w.heap.size, 0, none⟩ 1 1 [Value.string X] hx rfl ?_ (str_one X) (by unfold maxLen; omega) (by omega) (by simp; omega) ?_
  · intro j u hu
    rw [Addr.add_lit, Nat.zero_add, cell_of_row _ w.heap.size j _ _ _ (heap_alloc_new w (.cells #[Value.string X] 9))]
    simpa using hu
  · intro v' w' g1 g2 _
    refine h v' w' g1 ?_
    have g0 := World.grownBy_alloc w (.cells #[Value.string X] 9) v.ownBlock
    exact ⟨g2.os.trans g0.os, g2.tape.trans g0.tape, g2.output.trans g0.output, Nat.le_trans g0.size g2.size, fun i hi hne => (g2.block i (Nat.lt_of_lt_of_le hi g0.size) hne).trans (g0.block i hi hne)⟩
end
end Go.Proofs.YtijmijokgenflaaGreatDoor
