/- The statement AuditLooks, proved for every input that its row reads: part 53 of 54. -/
import Derived.Test.YtkpldjiloinaoaaDoorPackAuditLooks42
import Derived.Test.YtkpldjiloinaoaaDoorPackAuditLooks48
import Derived.Test.YtkpldjiloinaoaaDoorVecOpen
import Derived.Test.YtkpldjiloinaoaaDoorPackAuditLooks9
/- Troubles that came in. -/
namespace Go.Proofs.YtkpldjiloinaoaaDoor
open Go Go.ChangeShapes Go.WideShapes Go.ChangeAt Go.RowKit
set_option linter.unusedVariables false
set_option maxRecDepth 1000000

def IsTr (cs : List Value) : Prop := ∃ t : Tr, cs = trV t ∧ OkT t
section
variable {H : Type} {enc : TypeId × Value → H} {P : Program} {W : World} {base fuel : Nat} {t e s a i dt st : TypeId} {v : Value} {d : DataW H} {ps : List MemPlace} {cs : List Value} {x : DataW H × List MemPlace}
theorem trod_trouble {s0 s1 : Field} {f0 f1 : Field} (ht : P.underlying t = some (.struct #[f0, f1])) (hd : P.underlying dt = some (.struct #[s0, s1])) (hi : P.underlying i = some (.int .i64))
    (hc : P.cellsOf t = 3) (hcd : P.cellsOf dt = 2) (hci : P.cellsOf i = 1) (g0 : s0.type = i ∧ s0.offset = 0) (g1 : s1.type = i ∧ s1.offset = 1)
    (h0 : f0.type = i ∧ f0.offset = 0) (h1 : f1.type = dt ∧ f1.offset = 1)
    (h : DataW.trod enc P W 0 (fun _ => true) true fuel t cs = some x) : IsTr cs := by
  obtain ⟨ys, n, _, _, hl, hn, hg⟩ := DataW.trod_struct ht h
  rw [hc] at hl
  simp at hn
  have k0 := hg 0 f0 rfl
  rw [h0.1, h0.2, hci, List.getElem?_eq_getElem (by omega)] at k0
  obtain ⟨z0, e0, _, _⟩ := DataW.trod_int hi k0
  have k1 := hg 1 f1 rfl
  rw [h1.1, h1.2, hcd, List.getElem?_eq_getElem (by omega)] at k1
  obtain ⟨r, m, e1, wr, wm⟩ := trod_dot hd hi hcd hci g0 g1 k1
  have c0 := take_one e0
  match cs, hl, c0, e1 with
  | [a0, a1, a2], _, c0, e1 =>
    simp at c0 e1
    obtain ⟨rfl, rfl⟩ := e1
    subst c0
    exact ⟨(z0, r, m), rfl, wr, wm⟩
end
/-- troubles that came in lie where they are -/
theorem trs_lie {W : World} {p : Option Addr} {n c : Nat} {E : Nat → List Value} (h : CameR W p n c 3 IsTr E) : ∃ T : List Tr, T.length = n ∧ TrAt W p T ∧ ∀ t ∈ T, OkT t := by
  have each : ∀ i, ∃ x : Tr, i < n → E i = trV x ∧ OkT x := fun i => by
    by_cases hi : i < n
    · obtain ⟨x, he, hx⟩ := (h.each i hi).1
      exact ⟨x, fun _ => ⟨he, hx⟩⟩
    · exact ⟨(0, 0, 0), fun h => absurd h hi⟩
  obtain ⟨f, hf⟩ := Classical.axiomOfChoice each
  have hlen : ((List.range n).map f).length = n := by simp
  refine ⟨(List.range n).map f, hlen, fun hne => ?_, fun x hx => ?_⟩
  · have h0 : 0 < n := by
      rcases Nat.eq_zero_or_pos n with e | e
      · subst e; simp at hne
      · exact e
    obtain ⟨b, o, rfl, hr⟩ := h.lies h0
    refine ⟨b, o, rfl, fun j u hu => ?_⟩
    have hl : ∀ T : List Tr, (trs T).length = T.length * 3 := fun T => by
      induction T with
      | nil => rfl
      | cons t T ih => simp only [trs, List.flatMap_cons, List.length_append, List.length_cons] at ih ⊢; rw [ih]; simp [trV]; omega
    have hj : j < n * 3 := by
      have := (List.getElem?_eq_some_iff.1 hu).1
      rw [hl, hlen] at this; exact this
    have hi : j / 3 < n := by omega
    have h1 := flat_get trV_len ((List.range n).map f) (j / 3) (by rw [hlen]; exact hi) (j % 3) (by omega)
    rw [show j / 3 * 3 + j % 3 = j by omega] at h1
    change (trs _)[j]? = _ at h1
    rw [h1] at hu
    simp only [List.getElem_map, List.getElem_range] at hu
    have h2 := hr (j / 3) hi
    rw [(hf (j / 3) hi).1] at h2
    have h3 := h2 (j % 3) u hu
    rw [show o + j / 3 * 3 + j % 3 = o + j by omega] at h3
    exact h3
  · obtain ⟨i, hi, rfl⟩ := List.mem_map.1 hx
    exact (hf i (List.mem_range.1 hi)).2
/-- a slice of troubles that came in -/
theorem open_trs {H : Type} {enc : TypeId × Value → H} {W : World} {base : Nat} {v : Value} {d : DataW H} {ps : List MemPlace} (hv : Value.okWide Tryd.prog W .any base 30 v)
    (h : DataW.Trod enc Tryd.prog W 0 (fun _ => true) true 30 v d ps) : ∃ (p : Option Addr) (c : Nat) (T : List Tr), v = .slice p T.length c ∧ TrAt W p T ∧ ∀ t ∈ T, OkT t := by
  obtain ⟨p, n, c, E, rfl, hC⟩ := open_things Tryd.underlying30 (k := 3) (Q := IsTr) (by kernel_rfl) (by omega) (fun n cs x h => trod_trouble Tryd.underlying39 Tryd.underlying37 Tryd.underlying3 (by kernel_rfl) (by kernel_rfl) (by kernel_rfl) ⟨rfl, rfl⟩ ⟨rfl, rfl⟩ ⟨rfl, rfl⟩ ⟨rfl, rfl⟩ h) hv h
  obtain ⟨T, hl, hT, hO⟩ := trs_lie hC
  exact ⟨p, c, T, by rw [hl], hT, hO⟩
end Go.Proofs.YtkpldjiloinaoaaDoor
