/- The example that each law ends with. -/
import Derived.Test.YtmclbhpdopikiaaDoorFrameOpen2
import Derived.Lib.SlBytesConst
namespace Go.Proofs.YtmclbhpdopikiaaDoor
open Go Go.RowKit

def digits : List UInt8 := [49, 50, 51, 52, 53, 54, 55, 56, 57]
/-- a law's end: it answers true, and nothing that was there is other -/
def Yes (w : World) (e : Ending) (w' : World) : Prop := e = .returned (.bool true) ∧ Below w.heap.size w w'

theorem ret_bool {a b : Bool} (h : a = b) : Ending.returned (.bool a) = .returned (.bool b) := by rw [h]

set_option maxHeartbeats 1000000 in
theorem awake_any (w : World) (hT : Table w) : Calls Tryd.prog 14 #[] w (Yes w) := by
  have HT := Lib.hid hT; clear hT
  have kc := fun (w : World) (C : Array Value) (n c : Nat) => Lib.run_convert_bytes_const (P := Tryd.prog) w 22 5 C n c Tryd.underlying22 Tryd.underlying5
  go_enter Tryd.func14, Tryd.ntmps14
  go_wp2_with (go_at_call 9; refine (sum_of _ _ _ digits _ rfl (lies_lit _ _ _ digits _ rfl) (HT.out.below ((Below.refl _ _).alloc (Nat.le_refl _) _)) (by decide)).mono ?_; rintro e w' ⟨rfl, rfl⟩)
  go_ret
  exact ⟨ret_bool (by rw [show Frm.crc digits = 3421780262 from Frm.crc_example]; rfl), (Below.refl _ _).alloc (Nat.le_refl _) _⟩
end Go.Proofs.YtmclbhpdopikiaaDoor
