/- Terms that came in. -/
import Derived.Test.YtnmigbbokmibnaaDoorThings
import Derived.Test.YtnmigbbokmibnaaDoorSugAll
namespace Go.Proofs.YtnmigbbokmibnaaDoor
open Go Go.ChangeShapes Go.WideShapes Go.ChangeAt Go.RowKit
set_option linter.unusedVariables false

def IsTerm (cs : List Value) : Prop := ∃ (s : ByteArray) (q : Option Addr) (n c : Nat), cs = [.string s, .slice q n c]
section
variable {H : Type} {enc : TypeId × Value → H} {P : Program} {w : World} {base : Nat} {sp : Nat → Bool} {held : Bool} {fuel : Nat} {t s u e : TypeId} {cs : List Value} {x : DataW H × List MemPlace}
theorem trod_slice_cells (hu : P.underlying u = some (.slice e)) (h : DataW.trod enc P w base sp held fuel u cs = some x) : ∃ q n c, cs = [.slice q n c] := by
  rcases DataW.trod_slice hu h with ⟨hc, _⟩ | ⟨a, len, cap, elems, rs, k, _, rfl, _⟩
  · exact ⟨none, 0, 0, hc⟩
  · exact ⟨_, _, _, rfl⟩
theorem trod_term {f0 f1 : Field} (ht : P.underlying t = some (.struct #[f0, f1])) (hs : P.underlying s = some .string) (hu : P.underlying u = some (.slice e))
    (hc : P.cellsOf t = 2) (hcs : P.cellsOf s = 1) (hcu : P.cellsOf u = 1) (h0 : f0.type = s ∧ f0.offset = 0) (h1 : f1.type = u ∧ f1.offset = 1)
    (h : DataW.trod enc P w base sp held fuel t cs = some x) : IsTerm cs := by
  obtain ⟨ys, n, _, _, hl, hn, hg⟩ := DataW.trod_struct ht h
  rw [hc] at hl
  simp at hn
  have k0 := hg 0 f0 rfl
  rw [h0.1, h0.2, hcs, List.getElem?_eq_getElem (by omega)] at k0
  obtain ⟨z0, e0, _, _⟩ := DataW.trod_string hs k0
  have k1 := hg 1 f1 rfl
  rw [h1.1, h1.2, hcu, List.getElem?_eq_getElem (by omega)] at k1
  obtain ⟨q, m, c, e1⟩ := trod_slice_cells hu k1
  have c0 := take_one e0
  have c1 := take_one e1
  refine ⟨z0, q, m, c, ?_⟩
  match cs, hl, c0, c1 with
  | [a0, a1], _, c0, c1 =>
    simp at c0 c1
    rw [c0, c1]
theorem terms_lie {p : Option Addr} {n c : Nat} {E : Nat → List Value} (h : CameR w p n c 2 IsTerm E) : ∃ l : List ByteArray, n = l.length ∧ LiesT w p l ∧ l.length ≤ c ∧ l.length ≤ maxLen := by
  have hf : ∀ j, ∃ d : ByteArray × Option Addr × Nat × Nat, j < n → E j = [.string d.1, .slice d.2.1 d.2.2.1 d.2.2.2] := fun j => by
    by_cases hj : j < n
    · obtain ⟨⟨s, q, m, c, e⟩, _⟩ := h.each j hj
      exact ⟨(s, q, m, c), fun _ => e⟩
    · exact ⟨(noW, none, 0, 0), fun hj' => absurd hj' hj⟩
  obtain ⟨f, hf⟩ := Classical.axiomOfChoice hf
  have hlen : ((List.range n).map fun j => (f j).1).length = n := by simp
  have hle := h.le; have hmx := h.max
  refine ⟨(List.range n).map fun j => (f j).1, hlen.symm, fun h0 => ?_, by rw [hlen]; exact hle, by rw [hlen]; omega⟩
  have hpos : 0 < n := by
    rcases Nat.eq_zero_or_pos n with e | e
    · subst e; simp at h0
    · exact e
  obtain ⟨b, o, rfl, hb, hc⟩ := h.at hpos (by omega)
  refine ⟨b, o, rfl, fun j hj => ?_⟩
  rw [hlen] at hj
  have hr := hc j hj
  rw [hf j hj] at hr
  have hg : ((List.range n).map fun j => (f j).1).getD j noW = (f j).1 := by simp [List.getD, List.getElem?_range hj]
  rw [hg]
  exact ⟨by have := hr 0 _ rfl; simpa using this, _, _, _, by have := hr 1 _ rfl; simpa [Nat.add_assoc] using this⟩
end
end Go.Proofs.YtnmigbbokmibnaaDoor
