/- Which vectors may be; a vector within bounds. -/
import Derived.Test.YtnfknnkhabjciaaDotOne
namespace Go.Proofs.Ytnfknnkhabjciaa
open Go Go.RowKit
set_option linter.unusedVariables false

def clampF (f : Nat → Int) : Nat → Int := fun i => min (max (f i) 0) 1073741824
set_option maxHeartbeats 1000000 in
set_option maxRecDepth 100000 in
theorem inBounds_is (f : Nat → Int) (w : World) : Calls Try.prog 17 #[.agg (vf f)] w (RetVec w (clampF f)) := by
  go_enter Try.func17, Try.ntmps17
  go_wp2_with (refine wpList_vbox vecI rfl _ rfl f rfl ?_)
  intro ga w1 la ra hb1
  have B1 := Lib.hid hb1; have RA1 := Lib.hid ra
  clear hb1 ra
  go_wp2_with (refine wpList_valloc vecI zeroV rfl rfl ?_)
  intro gr w3 lr rr hb3
  have B3 := Lib.hid (thenBelow B1.out hb3); have RA3 := Lib.hid (RA1.out.later hb3); have RR3 := Lib.hid rr
  have har : ga < gr := Nat.lt_of_lt_of_le RA1.out.lt lr
  have hlow := Nat.le_trans B1.out.size lr
  have hwa : w.heap.size ≤ ga := la
  clear hb3 rr
  go_wp2_with (refine wpList_vload vecI rfl _ rfl ga rfl _ f RA3.out ?_)
  go_wp2
  go_loopw [6] (fun i wr => ∃ k : Nat, k ≤ 64 ∧ i = .int .i64 k ∧ Row wr ga 23 (upto k (clampF f) f) ∧ Row wr gr 23 (fun _ => 0) ∧ Below w.heap.size w wr) (fun i _ => 64 - (intOf i).toNat)
  case atStart => exact ⟨0, by omega, rfl, by rw [upto_zero]; exact RA3.out, RR3.out, B3.out⟩
  case round =>
    obtain ⟨k, hk, rfl, hra, hrr, hb⟩ := hrel
    have RA := Lib.hid hra; have RR := Lib.hid hrr; have B := Lib.hid hb
    clear hra hrr hb
    by_cases hlt : k < 64
    · have hi := vecI.index f .i64 k k rfl hlt
      have hc := RA.out.cell k hlt
      have hfr := RA.out.free k
      have hkI : (k : Int) < 64 := by omega
      have hS : Hid (Row (wr.setCell ⟨ga, k, none⟩ (.int .i64 (min (max (f k) 0) 1073741824))) ga 23 (upto (k + 1) (clampF f) f)) := by
        show Row _ _ _ _
        rw [← upto_set]
        exact RA.out.set k (clampF f k)
      have hG := Lib.hid (grown_cell wr ga k (.int .i64 (min (max (f k) 0) 1073741824)))
      generalize f k = x at hi hS hG
      go_wp2
      go_roundw
      case rel => exact ⟨k + 1, by omega, by go_num, hS.out, RR.out.kept hG.out (by simp; omega), B.out.trans (grown_below hG.out B.out.size hwa)⟩
      case measure => simp [intOf]; omega
    · obtain rfl : k = 64 := by omega
      have RE := Lib.hid (RA.out.congr (upto_all _ _))
      clear RA hk
      go_wp2_with (first | refine wpList_vload vecI rfl _ rfl ga rfl _ _ RE.out ?_ | refine wpList_vstore vecI rfl _ _ rfl gr rfl _ rfl _ _ RR.out ?_)
      intro w5 r5 g5 _
      have R5 := Lib.hid r5; have B5 := Lib.hid (B.out.trans (grown_below g5 B.out.size hlow))
      clear r5 g5
      go_wp2
      exact vec_ret vecI rfl rfl rfl R5.out (fun _ _ => rfl) B5.out
def goodB (f : Nat → Int) : Bool := veq f (clampF f)
theorem good_iff (f : Nat → Int) : goodB f = true ↔ ∀ i, i < 64 → 0 ≤ f i ∧ f i ≤ 1073741824 := by
  unfold goodB clampF
  rw [veq_iff]
  exact ⟨fun h i hi => by have := h i hi; omega, fun h i hi => by have := h i hi; omega⟩
theorem good_no {f : Nat → Int} (i : Nat) (hi : i < 64) (h : f i < 0 ∨ 1073741824 < f i) : goodB f = false := by
  cases e : goodB f with
  | false => rfl
  | true => exact absurd ((good_iff f).1 e i hi) (by omega)
end Go.Proofs.Ytnfknnkhabjciaa
