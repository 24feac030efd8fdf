/- Rows of the call's own, side by side: what an append turns, and where the row is then. -/
import Derived.Test.YtiadljcfcncbkaaMemOne
import Derived.Test.YtiadljcfcncbkaaMemIntsOwn
import Derived.Maps.AppendAt
namespace Go.Proofs.Ytiadljcfcncbkaa
open Go Go.RowKit
set_option linter.unusedVariables false

theorem below_grown {w w' : World} {row : Option Nat} (h : Below w.heap.size w w') : w.grownBy w' row := ⟨h.os, h.tape, h.output, h.size, fun k hk _ => h.block k hk⟩
theorem LiesI.grown {w w' : World} {p : Option Addr} {l : List Int} {row : Option Nat} (h : LiesI w p l) (hg : w.grownBy w' row) (hne : ∀ b o, p = some ⟨b, o, none⟩ → some b ≠ row) : LiesI w' p l := by
  intro h0
  obtain ⟨b, o, rfl, hc⟩ := h h0
  exact ⟨b, o, rfl, fun i hi => hg.cell (hc i hi) (hne b o rfl)⟩
/-- where a row of one's own lies -/
def AtRow (v v' : Value) (n : Nat) : Prop := v'.ownBlock = v.ownBlock ∨ ∃ k, n ≤ k ∧ v'.ownBlock = some k
section
variable {P : Program} {t e : TypeId} {z : Value} {b : Nat} {ops : Array Oper} {rest : List Oper} {o : Oper} {a : Act} {Q : Exit → Act → World → Prop}
/-- 'out = append(out, x)', out the call's own -/
theorem wpList_oneAt (ht : P.underlying t = some (.slice e)) (hinf : (P.info? e).map (fun i => (i.zero, i.size, i.bytes)) = some (some z, 1, b)) (hz : z.cells.size = 1) (hb : b ≤ 24) (w : World) (hg : o.guard = none) (s x : Operand) (ho : o.op = .call { callee := .builtin .append, args := #[s, x], argTypes := #[t, t] })
    (B n : Nat) (xs : List Value) (v : Value) (hs : a.eval s = v) (hown : w.ownsRow B e 1 v n xs) (X : Value) (h1 : X.oneCell' = true) (hx : a.eval x = .slice (some ⟨w.heap.size, 0, none⟩) 1 1)
    (hlen : n + 1 ≤ 1000000000000) (hB : B ≤ w.heap.size)
    (h : ∀ v' w', w'.ownsRow B e 1 v' (n + 1) (xs ++ [X]) → Below B w w' → w.grownBy w' v.ownBlock → AtRow v v' w.heap.size → wpList P ops Q rest (a.put o.dst v') w') : wpList P ops Q (o :: rest) a (w.alloc (.cells #[X] e)) := by
  obtain ⟨i0, hi, hz0, hz1, hz2⟩ := info_parts hinf
  have hm : (n + 1) * b ≤ 140737488355328 := Nat.le_trans (Nat.mul_le_mul_left _ hb) (by omega)
  refine wpList_append_own_at (w := w.alloc (.cells #[X] e)) hg s x t ho B e i0 z 1 b ht hi hz0 hz1 hz2 hz (by decide) v n xs hs (hown.alloc _) ⟨w.heap.size, 0, none⟩ 1 1 [X] hx rfl ?_ (by intro u hu; simp at hu; subst hu; exact h1) (by unfold maxLen; omega) hm (by simp; omega) ?_
  · intro j u hu
    match j, hu with
    | 0, hu => simp at hu; subst hu; simp [Addr.add]
  · intro v' w' g1 g2 _ g4
    refine h v' w' g1 ?_ ?_ ?_
    · exact ((Below.refl B w).alloc hB _).grown g2 (by simp; omega) (fun k hk => (hown.lt k hk).1)
    · have g0 := World.grownBy_alloc w (.cells #[X] e) v.ownBlock
      exact ⟨g2.os.trans g0.os, g2.tape.trans g0.tape, g2.output.trans g0.output, Nat.le_trans g0.size g2.size, fun i hi hne => (g2.block i (Nat.lt_of_lt_of_le hi g0.size) hne).trans (g0.block i hi hne)⟩
    · rcases g4 with g4 | g4
      · exact .inl g4
      · exact .inr ⟨_, by simp, g4⟩
/-- ints put behind a row of ints of the call's own -/
theorem wpList_catAt (U : I64 P t e) (w : World) (hg : o.guard = none) (s x : Operand) (ho : o.op = .call { callee := .builtin .append, args := #[s, x], argTypes := #[t, t] })
    (B : Nat) (l : List Int) (v : Value) (hs : a.eval s = v) (hown : w.ownsRow B e 1 v l.length (ints l)) (p : Option Addr) (m c : Nat) (l2 : List Int) (hx : a.eval x = .slice p m c) (hl : LiesI w p l2) (hm : m = l2.length) (hp : p = none → m = 0 ∧ c = 0)
    (hlen : l.length + m ≤ 1000000) (hB : B ≤ w.heap.size)
    (h : ∀ v' w', w'.ownsRow B e 1 v' (l ++ l2).length (ints (l ++ l2)) → Below B w w' → w.grownBy w' v.ownBlock → AtRow v v' w.heap.size → wpList P ops Q rest (a.put o.dst v') w') : wpList P ops Q (o :: rest) a w := by
  obtain ⟨i0, hi, hz0, hz1, hz2⟩ := info_parts U.info
  rw [List.length_append] at h
  cases p with
  | none =>
    obtain ⟨rfl, rfl⟩ := hp rfl
    obtain rfl : l2 = [] := List.eq_nil_of_length_eq_zero hm.symm
    exact wpList_append_own_none hg s x t ho B e i0 1 U.slice hi v l.length (ints l) hs hown hx (h v w (by simpa using hown) (Below.refl _ _) ⟨rfl, rfl, rfl, Nat.le_refl _, fun _ _ _ => rfl⟩ (.inl rfl))
  | some ad =>
    refine wpList_append_own_at (w := w) hg s x t ho B e i0 (.int .i64 0) 1 8 U.slice hi hz0 hz1 hz2 rfl (by decide) v l.length (ints l) hs hown ad m c (ints l2) hx (by rw [ints_length]; omega) ?_ (ints_one _) (by unfold maxLen; omega) (by omega) hB ?_
    · by_cases h0 : l2 = []
      · subst h0; intro j u hu; simp [ints] at hu
      · obtain ⟨bk, of, e1, hc⟩ := hl h0
        obtain rfl := Option.some.inj e1
        intro j u hu
        have hj : j < l2.length := by rw [← ints_length]; exact (List.getElem?_eq_some_iff.1 hu).1
        rw [ints_get l2 j hj] at hu
        cases hu
        rw [Addr.add_lit]
        exact hc j hj
    · intro v' w' h1 h2 _ h4
      refine h v' w' (by rw [ints_append, ← hm]; exact h1) ?_ h2 (h4.imp id fun h => ⟨_, Nat.le_refl _, h⟩)
      exact (Below.refl B w).grown h2 hB (fun k hk => (hown.lt k hk).1)
end
end Go.Proofs.Ytiadljcfcncbkaa
