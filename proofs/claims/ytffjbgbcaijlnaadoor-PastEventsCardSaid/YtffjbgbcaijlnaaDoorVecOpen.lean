/- Rows of 64 numbers that came in, by value. No number of a program stands here. -/
import Derived.Test.YtffjbgbcaijlnaaDoorVec
import Derived.Test.YtffjbgbcaijlnaaDoorOpen
import Derived.ChangeSame
namespace Go.Proofs.YtffjbgbcaijlnaaDoor
open Go Go.ChangeShapes Go.WideShapes Go.ChangeAt Go.RowKit
set_option linter.unusedVariables false

/-- numbers of 64 bits -/
def Wide (f : Nat → Int) : Prop := ∀ i, -9223372036854775808 ≤ f i ∧ f i ≤ 9223372036854775807
section
variable {H : Type} {enc : TypeId × Value → H} {P : Program} {w : World} {base : Nat} {sp : Nat → Bool} {held : Bool} {fuel : Nat} {t e : TypeId} {cs : List Value} {x : DataW H × List MemPlace}

theorem vec_cells (V : Vec P t e) (hce : P.cellsOf e = 1) (hct : P.cellsOf t = 64) (h : DataW.trod enc P w base sp held fuel t cs = some x) : ∃ f : Nat → Int, cs = (vf f).toList ∧ Wide f := by
  obtain ⟨xs, m, _, _, hl, hn, hi⟩ := DataW.trod_array V.array h
  rw [hct] at hl
  have each : ∀ i, ∃ z : Int, (i < 64 → cs[i]? = some (.int .i64 z)) ∧ (-9223372036854775808 ≤ z ∧ z ≤ 9223372036854775807) := by
    intro i
    by_cases hil : i < 64
    · have h1 := hi i hil
      have hxi : xs[i]? = some (xs[i]'(by omega)) := List.getElem?_eq_getElem (by omega)
      rw [hce, Nat.mul_one, hxi] at h1
      obtain ⟨z, hc, _, wz⟩ := DataW.trod_int V.elem h1
      refine ⟨z, fun _ => ?_, ?_⟩
      · have := congrArg (·[0]?) hc
        simpa [List.getElem?_take, List.getElem?_drop] using this
      · simp [Lit.wf, IntKind.min, IntKind.max, IntKind.bits, IntKind.signed] at wz; omega
    · exact ⟨0, fun h => absurd h hil, by omega, by omega⟩
  obtain ⟨f, hf⟩ := Classical.axiomOfChoice each
  refine ⟨f, ?_, fun i => (hf i).2⟩
  apply List.ext_getElem?
  intro i
  by_cases hil : i < 64
  · rw [(hf i).1 hil, Array.getElem?_toList, vf_get f i hil]
  · rw [List.getElem?_eq_none (by omega), Array.getElem?_toList, vf_none f i (by omega)]
theorem open_vec {W : World} {v : Value} {d : DataW H} {ps : List MemPlace} (V : Vec P t e) (hce : P.cellsOf e = 1) (hct : P.cellsOf t = 64) (hv : Value.okWide P W .any base t v)
    (h : DataW.Trod enc P W 0 (fun _ => true) true t v d ps) : ∃ f : Nat → Int, v = .agg (vf f) ∧ Wide f := by
  obtain ⟨fuel, hf⟩ := h
  obtain ⟨f, hc, hw⟩ := vec_cells V hce hct hf
  simp only [Value.okWide, V.array] at hv
  obtain ⟨xs, rfl, _⟩ := hv
  refine ⟨f, ?_, hw⟩
  simp only [Value.cells] at hc
  rw [Array.toList_inj.1 hc]
end
end Go.Proofs.YtffjbgbcaijlnaaDoor
