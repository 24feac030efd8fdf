/- The table of eight out of what the rows list; a world that holds it. -/
import Derived.Test.YtmclbhpdopikiaaDoorRows
import Derived.Test.YtmclbhpdopikiaaDoorFrameSum
import Derived.ProofKit
import Derived.Lib.LaidTab
import Derived.Deep.DeepHandedRow
namespace Go.Proofs.YtmclbhpdopikiaaDoor
open Go Go.ChangeShapes Go.WideShapes Go.ChangeAt Go.RowKit

def lefts : List Int := [1996959894, 3993919788, 124634137, 249268274, 498536548, 997073096, 1994146192, 3988292384]
theorem gTab : Tryd.prog.globalNamed "scholia/frame.left" = some 0 := by kernel_rfl
theorem gTabType : (Tryd.prog.globals[0]?).map (·.type) = some 36 := by kernel_rfl
theorem cellsTab : Tryd.prog.cellsOf 36 = 8 := by kernel_rfl
theorem cellsU32 : Tryd.prog.cellsOf 24 = 1 := by kernel_rfl

theorem laid_of {W : World} (h : laidMetH Tryd.prog [("scholia/frame.left", Rows.laid_scholia_frame_left)] W) : Table W := by
  have hT : Lib.TabIs Tryd.prog W "scholia/frame.left" .u32 lefts := Lib.tabIs_of_head (rest := []) gTab gTabType Tryd.underlying36 Tryd.underlying24 cellsU32 cellsTab h
  intro i hi
  rw [hT.cell gTab i (by simpa [lefts] using hi)]
  match i, hi with
  | 0, _ => rfl
  | 1, _ => rfl
  | 2, _ => rfl
  | 3, _ => rfl
  | 4, _ => rfl
  | 5, _ => rfl
  | 6, _ => rfl
  | 7, _ => rfl

noncomputable def laidWorld (os : Os) : World :=
  { World.holding Tryd.prog os ⟨#[], #[], []⟩ with heap := (World.holding Tryd.prog os ⟨#[], #[], []⟩).heap.modify 0 fun
      | .cells _ t frozen => .cells (lefts.map (Value.int .u32)).toArray t frozen
      | o => o }
theorem laid_met (os : Os) (args : Array Value) : laidMet Tryd.prog [("scholia/frame.left", Rows.laid_scholia_frame_left)] ((laidWorld os).forCall (fun _ _ => 0) ⟨#[], args, []⟩).memory :=
  laidMet_of_run' 8 (by kernel_rfl) (by kernel_rfl)
end Go.Proofs.YtmclbhpdopikiaaDoor
