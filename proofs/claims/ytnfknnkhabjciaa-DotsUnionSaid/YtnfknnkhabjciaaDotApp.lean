/- append of dots that lie somewhere. -/
import Derived.Test.YtnfknnkhabjciaaDotTidyN
import Derived.Laws.AppendOwnNone
namespace Go.Proofs.Ytnfknnkhabjciaa
open Go Go.RowKit
set_option linter.unusedVariables false

/-- 'out = append(out, l...)', out the call's own -/
theorem wpList_dots {ops : Array Oper} {rest : List Oper} {o : Oper} {a : Act} {Q : Exit → Act → World → Prop} (w : World) (hg : o.guard = none) (s x : Operand) (ho : o.op = .call { callee := .builtin .append, args := #[s, x], argTypes := #[24, 24] })
    (B : Nat) (l : List Dt) (v : Value) (hs : a.eval s = v) (hown : w.ownsRow B 28 2 v l.length (dcl l)) (p : Option Addr) (m c : Nat) (l2 : List Dt) (hx : a.eval x = .slice p m c) (hl : DRow w p l2) (hm : m = l2.length) (hp : p = none → m = 0 ∧ c = 0)
    (hlen : l.length + m ≤ 1000000) (hB : B ≤ w.heap.size)
    (h : ∀ v' w', w'.ownsRow B 28 2 v' (l ++ l2).length (dcl (l ++ l2)) → Below B w w' → wpList Try.prog ops Q rest (a.put o.dst v') w') : wpList Try.prog ops Q (o :: rest) a w := by
  obtain ⟨i0, hi, hz0, hz1, hz2⟩ := info_parts infoDt
  cases p with
  | none =>
    obtain ⟨rfl, rfl⟩ := hp rfl
    obtain rfl : l2 = [] := List.eq_nil_of_length_eq_zero hm.symm
    exact wpList_append_own_none hg s x _ ho B 28 i0 2 Try.underlying24 hi v l.length (dcl l) hs hown hx (h v w (by simpa using hown) (Below.refl _ _))
  | some ad =>
    refine wpList_append_own _ hg s x _ ho B 28 i0 _ 2 16 Try.underlying24 hi hz0 hz1 hz2 rfl (by decide) v l.length (dcl l) hs hown ad m c (dcl l2) hx (by rw [dcl_length]; omega) ?_ (dcl_one _) (by unfold maxLen; omega) (by omega) hB ?_
    · by_cases h0 : l2 = []
      · subst h0; intro j u hu; simp [dcl] at hu
      · obtain ⟨b, of, e1, hc⟩ := hl h0
        obtain rfl := Option.some.inj e1
        intro j u hu
        rw [Addr.add_mid]; exact hc j u hu
    · intro v' w' h1 h2 _
      refine h v' w' (by rw [dcl_append, List.length_append, ← hm]; exact h1) ?_
      exact (Below.refl B w).grown h2 hB (fun k hk => (hown.lt k hk).1)
/-- a part of a row lies where it lies -/
theorem DRow.take {w : World} {g : Nat} {l : List Dt} (h : OwnD w g l) (n : Nat) : DRow w (some ⟨g, 0, none⟩) (l.take n) := fun hn =>
  ⟨g, 0, rfl, fun j u hu => by
    obtain ⟨i, hi, hc⟩ := dcl_at _ j u hu
    rw [List.length_take] at hi
    have hr := h.range
    obtain ⟨d1, d2⟩ := dcl_get l i (by omega)
    rw [List.getElem_take] at hc
    rcases hc with ⟨rfl, rfl⟩ | ⟨rfl, rfl⟩
    · exact hr _ _ d1
    · exact hr _ _ d2⟩
theorem DRow.drop {w : World} {g : Nat} {l : List Dt} (h : OwnD w g l) (n : Nat) : DRow w (some ⟨g, n * 2, none⟩) (l.drop n) := fun hn =>
  ⟨g, n * 2, rfl, fun j u hu => by
    obtain ⟨i, hi, hc⟩ := dcl_at _ j u hu
    rw [List.length_drop] at hi
    have hr := h.range
    obtain ⟨d1, d2⟩ := dcl_get l (n + i) (by omega)
    rw [List.getElem_drop] at hc
    rcases hc with ⟨rfl, rfl⟩ | ⟨rfl, rfl⟩
    · have := hr _ _ d1; rw [show n * 2 + i * 2 = (n + i) * 2 from by omega, ← Nat.zero_add ((n + i) * 2)]; exact this
    · have := hr _ _ d2; rw [show n * 2 + (i * 2 + 1) = (n + i) * 2 + 1 from by omega, ← Nat.zero_add ((n + i) * 2 + 1)]; exact this⟩
theorem drow_one (w : World) (x : Dt) : DRow (w.alloc (.cells #[.int .i64 x.1, .int .i64 x.2] 28)) (some ⟨w.heap.size, 0, none⟩) [x] := fun _ =>
  ⟨w.heap.size, 0, rfl, fun j u hu => by
    rw [Nat.zero_add, cell_of_row _ w.heap.size j _ _ _ (heap_alloc_new w _)]
    simpa [dcl, dvs] using hu⟩
/-- the search for a dot's own place -/
structure Srch (o : List Dt) (d : Dt) (j at_ : Nat) : Prop where
  le : at_ ≤ j
  lo : ∀ i, (hi : i < o.length) → i < at_ → ltD o[i] d = true
  hi : ∀ i, (hi : i < o.length) → at_ ≤ i → i < j → ltD o[i] d = false
theorem Srch.start (o : List Dt) (d : Dt) : Srch o d 0 0 := ⟨Nat.le_refl _, fun _ _ h => absurd h (Nat.not_lt_zero _), fun _ _ _ h => absurd h (Nat.not_lt_zero _)⟩
theorem Srch.yes {o : List Dt} {d : Dt} {j at_ : Nat} (h : Srch o d j at_) (hr : Rises o) (hj : j < o.length) (hl : ltD o[j] d = true) : Srch o d (j + 1) (j + 1) where
  le := Nat.le_refl _
  lo i hi hij := by
    by_cases e : i = j
    · subst e; exact hl
    · exact ltD_trans (List.pairwise_iff_getElem.1 hr i j hi hj (by omega)) hl
  hi i hi h1 h2 := by omega
theorem Srch.no {o : List Dt} {d : Dt} {j at_ : Nat} (h : Srch o d j at_) (hj : j < o.length) (hl : ltD o[j] d = false) : Srch o d (j + 1) at_ where
  le := Nat.le_succ_of_le h.le
  lo := h.lo
  hi i hi h1 h2 := by
    by_cases e : i = j
    · subst e; exact hl
    · exact h.hi i hi h1 (by omega)
end Go.Proofs.Ytnfknnkhabjciaa
