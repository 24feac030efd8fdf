/- The walk of FrameOpens. -/
import Derived.Test.YtmclbhpdopikiaaDoorFrameAwake
import Derived.Test.YtmclbhpdopikiaaDoorOpen
namespace Go.Proofs.YtmclbhpdopikiaaDoor
open Go Go.RowKit

set_option maxHeartbeats 2000000 in
theorem frameOpens_walk (p : Option Addr) (c : Nat) (l : List UInt8) (W : World) (h : Came W p c l) (hT : Table W) :
    Calls Tryd.prog 4 #[.slice p l.length c] W (Yes W) := by
  have HL := Lib.hid h.lies
  have hr := h.reach
  have hle := h.le
  have HT := Lib.hid hT; clear hT h
  obtain ⟨r, hre⟩ : ∃ r, r = opens l := ⟨_, rfl⟩
  have H1 := fun w L T => open_any p c l w L hle T (by omega)
  have H2 := fun w L => open2_any p c l w L hle (by omega)
  rw [← hre] at H1 H2
  have H1 := Lib.hid H1; have H2 := Lib.hid H2; clear hre
  obtain ⟨out, n⟩ := r
  go_enter Tryd.func4, Tryd.ntmps4
  go_wp2_with fail
  refine (H1.out W HL.out HT.out).mono ?_
  rintro e w1 ⟨p1, c1, rfl, le1, n1, lies1, b1⟩
  have L1 := Lib.hid lies1; have B1 := Lib.hid b1; clear lies1 n1
  go_wp2_with fail
  refine (H2.out w1 (HL.out.below B1.out)).mono ?_
  rintro e w2 ⟨p2, c2, rfl, le2, n2, lies2, b2⟩
  have L2 := Lib.hid lies2; have B2 := Lib.hid b2; clear lies2 n2
  go_wp2_with fail
  refine (equal_any p1 p2 _ _ c1 c2 out out w2 (L1.out.below B2.out) L2.out rfl rfl).mono ?_
  rintro e w' ⟨rfl, rfl⟩
  go_wp2_with fail
  refine (awake_any w2 (HT.out.below (thenBelow B1.out B2.out))).mono ?_
  rintro e w4 ⟨rfl, b4⟩
  have B4 := Lib.hid b4
  go_wp2_with fail
  go_ret
  exact ⟨rfl, thenBelow (thenBelow B1.out B2.out) B4.out⟩
end Go.Proofs.YtmclbhpdopikiaaDoor
