/- Which vectors may be; a vector within bounds. -/
import Derived.Test.YtffjbgbcaijlnaaDoorDotOne
namespace Go.Proofs.YtffjbgbcaijlnaaDoor
open Go Go.RowKit
set_option linter.unusedVariables false

def clampF (f : Nat → Int) : Nat → Int := fun i => min (max (f i) 0) 1073741824
def goodB (f : Nat → Int) : Bool := veq f (clampF f)
theorem good_iff (f : Nat → Int) : goodB f = true ↔ ∀ i, i < 64 → 0 ≤ f i ∧ f i ≤ 1073741824 := by
  unfold goodB clampF
  rw [veq_iff]
  exact ⟨fun h i hi => by have := h i hi; omega, fun h i hi => by have := h i hi; omega⟩
theorem good_no {f : Nat → Int} (i : Nat) (hi : i < 64) (h : f i < 0 ∨ 1073741824 < f i) : goodB f = false := by
  cases e : goodB f with
  | false => rfl
  | true => exact absurd ((good_iff f).1 e i hi) (by omega)
set_option maxHeartbeats 1000000 in
set_option maxRecDepth 100000 in
theorem refGood_is (f : Nat → Int) (w : World) : Calls Tryd.prog 34 #[.agg (vf f)] w (RetBool w (goodB f)) := by
  go_enter Tryd.func34, Tryd.ntmps34
  go_wp2_with (refine wpList_vbox vecI rfl _ rfl f rfl ?_)
  intro ga w2 la ra hb1
  have B2 := Lib.hid hb1; have RA2 := Lib.hid ra
  clear hb1 ra
  go_wp2_with (refine wpList_vload vecI rfl _ rfl ga rfl _ f RA2.out ?_)
  go_wp2
  go_loop [6] (fun i => ∃ k : Nat, k ≤ 64 ∧ i = .int .i64 k ∧ ∀ i, i < k → 0 ≤ f i ∧ f i ≤ 1073741824) (fun i => 64 - (intOf i).toNat)
  case atStart => exact ⟨0, by omega, rfl, fun i h => by omega⟩
  case round =>
    obtain ⟨k, hk, rfl, hle⟩ := hrel
    have LE := Lib.hid hle
    clear hle
    by_cases hlt : k < 64
    · have hi := vecI.index f .i64 k k rfl hlt
      have hkI : (k : Int) < 64 := by omega
      rcases (show f k < 0 ∨ (0 ≤ f k ∧ 1073741824 < f k) ∨ (0 ≤ f k ∧ f k ≤ 1073741824) by omega) with h1 | ⟨h1, h2⟩ | ⟨h1, h2⟩
      case' inl =>
        have NO := Lib.hid (good_no k hlt (.inl h1))
        generalize f k = y at hi h1
      case' inr.inl =>
        have NO := Lib.hid (good_no k hlt (.inr h2))
        generalize f k = y at hi h1 h2
      case' inr.inr =>
        have hS : Hid (∀ i, i < k + 1 → 0 ≤ f i ∧ f i ≤ 1073741824) := by
          intro i h
          by_cases e : i = k
          · subst e; omega
          · exact LE.out i (by omega)
        generalize f k = y at hi h1 h2
        go_wp2
        go_round
        case rel => exact ⟨k + 1, by omega, by go_num, hS.out⟩
        case measure => simp [intOf]; omega
      all_goals
        go_wp2
        go_ret
        exact ⟨by rw [NO.out]; rfl, B2.out⟩
    · obtain rfl : k = 64 := by omega
      have YES := Lib.hid ((good_iff f).2 LE.out)
      go_wp2
      go_ret
      exact ⟨by rw [YES.out]; rfl, B2.out⟩
end Go.Proofs.YtffjbgbcaijlnaaDoor
