/- The example that each law of layer 32 ends with. -/
import Derived.Test.YtnmigbbokmibnaaDoorSugDist
namespace Go.Proofs.YtnmigbbokmibnaaDoor
open Go Go.RowKit
set_option linter.unusedVariables false

def wFox : ByteArray := ⟨#[102, 111, 120]⟩
def wFxo : ByteArray := ⟨#[102, 120, 111]⟩
def wRed : ByteArray := ⟨#[114, 101, 100]⟩
def wBred : ByteArray := ⟨#[98, 114, 101, 100]⟩
theorem far1 : farL (sgOf wFox) (sgOf wFxo) = 1 := by decide +kernel
theorem far2 : farL (sgOf wRed) (sgOf wBred) = 1 := by decide +kernel
set_option maxHeartbeats 4000000 in
theorem awake32 (w : World) (hT : Shapes w) : Calls Tryd.prog 6 #[] w (Yes w) := by
  have D1 := dist_is wFox wFxo w (by decide) (by decide) hT
  rw [far1] at D1
  have D2 := fun W (hW : Shapes W) => dist_is wRed wBred W (by decide) (by decide) hW
  rw [far2] at D2
  have E1 := Lib.hid D1; have E2 := Lib.hid D2; have TT := Lib.hid hT
  clear D1 D2 hT
  go_enter Tryd.func6, Tryd.ntmps6
  go_wp2_with fail
  refine E1.out.mono ?_
  rintro e w1 ⟨rfl, hb1⟩
  have B1 := Lib.hid hb1
  have F2 := Lib.hid (E2.out w1 (TT.out.below hb1))
  clear hb1 E1 E2
  go_wp2_with fail
  refine F2.out.mono ?_
  rintro e w2 ⟨rfl, hb2⟩
  have B2 := Lib.hid (thenBelow B1.out hb2)
  clear hb2 F2
  go_wp2
  go_ret
  exact ⟨rfl, B2.out⟩
end Go.Proofs.YtnmigbbokmibnaaDoor
