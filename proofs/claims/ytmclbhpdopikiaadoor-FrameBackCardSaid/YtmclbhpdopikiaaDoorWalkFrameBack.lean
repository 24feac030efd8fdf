/- The walk of FrameBack. -/
import Derived.Test.YtmclbhpdopikiaaDoorFrameAwake
import Derived.Test.YtmclbhpdopikiaaDoorOpen
namespace Go.Proofs.YtmclbhpdopikiaaDoor
open Go Go.RowKit

theorem opens_sealed (l : List UInt8) : opens (sealed l) = (l, 0) := by
  have h1 : (sealed l).drop 4 = l := by simp [sealed, be4]
  have h2 : (sealed l).take 4 = be4 (Frm.crc l) := by simp [sealed, be4]
  unfold opens
  rw [if_neg (by rw [sealed_length]; omega), h1, if_pos h2]

set_option maxHeartbeats 2000000 in
theorem frameBack_walk (p : Option Addr) (c : Nat) (l : List UInt8) (W : World) (h : Came W p c l) (hT : Table W) :
    Calls Tryd.prog 5 #[.slice p l.length c] W (Yes W) := by
  have HL := Lib.hid h.lies
  have HN := Lib.hid h.none
  have hr := h.reach
  have hle := h.le
  have HT := Lib.hid hT; clear hT h
  have hsl := sealed_length l
  have hso := opens_sealed l
  have H1 := fun p c w L e T => open_any p c (sealed l) w L e T (by omega)
  rw [hso] at H1
  have H1 := Lib.hid H1; have HS := Lib.hid hsl; clear hso hsl
  go_enter Tryd.func5, Tryd.ntmps5
  go_wp2_with fail
  refine (seal_any p c l W HL.out HN.out HT.out (by omega)).mono ?_
  rintro e w1 ⟨p1, c1, rfl, le1, m1, n1, lies1, b1⟩
  have L1 := Lib.hid lies1; have B1 := Lib.hid b1; clear lies1 n1
  go_wp2_with fail
  refine (H1.out p1 c1 w1 L1.out le1 (HT.out.below B1.out)).mono ?_
  rintro e w2 ⟨p2, c2, rfl, le2, n2, lies2, b2⟩
  have L2 := Lib.hid lies2; have B2 := Lib.hid b2; clear lies2 n2
  go_wp2_with fail
  refine (equal_any p2 p _ _ c2 c l l w2 L2.out (HL.out.below (thenBelow B1.out B2.out)) rfl rfl).mono ?_
  rintro e w' ⟨rfl, rfl⟩
  go_wp2_with fail
  refine (awake_any w2 (HT.out.below (thenBelow B1.out B2.out))).mono ?_
  rintro e w4 ⟨rfl, b4⟩
  have B4 := Lib.hid b4
  go_wp2_with fail
  go_ret
  exact ⟨rfl, thenBelow (thenBelow B1.out B2.out) B4.out⟩
end Go.Proofs.YtmclbhpdopikiaaDoor
