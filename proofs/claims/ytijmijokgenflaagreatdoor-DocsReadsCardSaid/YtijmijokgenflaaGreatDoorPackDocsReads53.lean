/- The statement DocsReads, proved for every input that its row reads: part 53 of 54. -/
import Derived.Test.YtijmijokgenflaaGreatDoorRows
import Derived.Test.YtijmijokgenflaaGreatDoorMemRows
import Derived.Test.YtijmijokgenflaaGreatDoorPackDocsReads17
import Derived.ProofKit
import Derived.Lib.LaidTab
import Derived.Deep.DeepHandedRow
/- The table of shapes out of what the rows list; a world that holds it. -/
namespace Go.Proofs.YtijmijokgenflaaGreatDoor
open Go Go.ChangeShapes Go.WideShapes Go.ChangeAt Go.RowKit

def shapeRows : List (List Int) := [[127, 0, 0], [2047, 192, 1], [65535, 224, 2], [1114111, 240, 3]]
theorem gShapes : Tryz.prog.globalNamed "scholia/utf.shapes" = some 0 := by kernel_rfl
theorem gShapesType : (Tryz.prog.globals[0]?).map (·.type) = some 135 := by kernel_rfl

theorem shapes_of {W : World} {l : List (String × DataW Unit)} (h : laidMet Tryz.prog l W) (hm : ("scholia/utf.shapes", Rows.laid_scholia_utf_shapes) ∈ l) : Shapes W := by
  obtain ⟨ps, hv, _⟩ := h
  obtain ⟨g, t, cs, fuel, p, h1, h2, h3, h4⟩ := laid_mem hv hm
  obtain rfl := Option.some.inj (gShapes.symm.trans h1)
  obtain rfl := Option.some.inj (gShapesType.symm.trans h2)
  have hr := rows_array (m := 3) (e := 3) (rows := shapeRows) Tryz.underlying135 Tryz.underlying134 Tryz.underlying3 (by kernel_rfl) (by kernel_rfl) rfl
    (fun i f h => by
      match i, h with
      | 0, h => cases h; exact ⟨rfl, rfl⟩
      | 1, h => cases h; exact ⟨rfl, rfl⟩
      | 2, h => cases h; exact ⟨rfl, rfl⟩
      | n + 3, h => simp at h)
    (by decide) h4
  have hc : ∀ i, i < 4 → ∀ j, j < 3 → W.cell? ⟨0, i * 3 + j, none⟩ = some (.int .i64 ((shapeRows.getD i []).getD j 0)) := fun i hi j hj => by
    have := hr i hi j hj
    rw [World.var?_cell gShapes h3, ← Array.getElem?_toList]
    exact this
  exact ⟨hc 0 (by omega) 0 (by omega), hc 0 (by omega) 1 (by omega), hc 0 (by omega) 2 (by omega), hc 1 (by omega) 0 (by omega), hc 1 (by omega) 1 (by omega), hc 1 (by omega) 2 (by omega),
    hc 2 (by omega) 0 (by omega), hc 2 (by omega) 1 (by omega), hc 2 (by omega) 2 (by omega), hc 3 (by omega) 0 (by omega), hc 3 (by omega) 1 (by omega), hc 3 (by omega) 2 (by omega)⟩

theorem laid_of {W : World} (h : laidMetH Tryz.prog [("scholia/utf.shapes", Rows.laid_scholia_utf_shapes)] W) : Shapes W := shapes_of h (by simp)

noncomputable def laidWorld (os : Os) : World :=
  { World.holding Tryz.prog os ⟨#[], #[], []⟩ with heap := (World.holding Tryz.prog os ⟨#[], #[], []⟩).heap.modify 0 fun
      | .cells _ t frozen => .cells ((shapeRows.flatten).map (Value.int .i64)).toArray t frozen
      | o => o }
theorem laid_met (os : Os) (args : Array Value) : laidMet Tryz.prog [("scholia/utf.shapes", Rows.laid_scholia_utf_shapes)] ((laidWorld os).forCall (fun _ _ => 0) ⟨#[], args, []⟩).memory :=
  laidMet_of_run' 8 (by kernel_rfl) (by kernel_rfl)
end Go.Proofs.YtijmijokgenflaaGreatDoor
