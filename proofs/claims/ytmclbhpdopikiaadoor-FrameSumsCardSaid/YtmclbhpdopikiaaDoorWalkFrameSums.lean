/- The walk of FrameSums. -/
import Derived.Test.YtmclbhpdopikiaaDoorFrameAwake
import Derived.Test.YtmclbhpdopikiaaDoorOpen
namespace Go.Proofs.YtmclbhpdopikiaaDoor
open Go Go.RowKit

set_option maxHeartbeats 2000000 in
theorem frameSums_walk (p : Option Addr) (c : Nat) (l : List UInt8) (W : World) (h : Came W p c l) (hT : Table W) :
    Calls Tryd.prog 3 #[.slice p l.length c] W (Yes W) := by
  have HL := Lib.hid h.lies
  have HN := Lib.hid h.none
  have hr := h.reach
  have hle := h.le
  have HT := Lib.hid hT; clear hT h
  go_enter Tryd.func3, Tryd.ntmps3
  go_wp2_with fail
  refine (clone_any p c l W HL.out (fun e => (HN.out e).1) (by omega)).mono ?_
  rintro e w1 ⟨p1, c1, rfl, le1, _, n1, lies1, b1⟩
  have L1 := Lib.hid lies1; have N1 := Lib.hid n1; have B1 := Lib.hid b1; clear lies1 n1
  go_wp2_with fail
  refine (sum_any p c l w1 (HL.out.below B1.out) (HT.out.below B1.out) (by omega)).mono ?_
  rintro e w' ⟨rfl, rfl⟩
  go_wp2_with fail
  refine (sum2_any p1 c1 l w1 L1.out (by omega)).mono ?_
  rintro e w' ⟨rfl, rfl⟩
  go_wp2_with fail
  refine (seal_any p c l w1 (HL.out.below B1.out) HN.out (HT.out.below B1.out) (by omega)).mono ?_
  rintro e w2 ⟨p2, c2, rfl, _, _, _, lies2, b2⟩
  have L2 := Lib.hid lies2; have B2 := Lib.hid b2; clear lies2
  go_wp2_with fail
  refine (seal2_any p1 c1 l w2 (L1.out.below B2.out) N1.out (by omega)).mono ?_
  rintro e w3 ⟨p3, c3, rfl, _, _, _, lies3, b3⟩
  have L3 := Lib.hid lies3; have B3 := Lib.hid b3; clear lies3
  go_wp2_with fail
  refine (equal_any p2 p3 _ _ c2 c3 (sealed l) (sealed l) w3 (L2.out.below B3.out) L3.out rfl rfl).mono ?_
  rintro e w' ⟨rfl, rfl⟩
  go_wp2_with fail
  refine (equal_any p p1 _ _ c c1 l l w3 (HL.out.below (thenBelow (thenBelow B1.out B2.out) B3.out)) (L1.out.below (thenBelow B2.out B3.out)) rfl rfl).mono ?_
  rintro e w' ⟨rfl, rfl⟩
  go_wp2_with fail
  refine (awake_any w3 (HT.out.below (thenBelow (thenBelow B1.out B2.out) B3.out))).mono ?_
  rintro e w4 ⟨rfl, b4⟩
  have B4 := Lib.hid b4
  go_wp2_with fail
  go_ret
  exact ⟨rfl, thenBelow (thenBelow (thenBelow B1.out B2.out) B3.out) B4.out⟩
end Go.Proofs.YtmclbhpdopikiaaDoor
