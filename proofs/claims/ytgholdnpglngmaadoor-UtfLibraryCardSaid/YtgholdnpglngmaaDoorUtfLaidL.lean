/- The tables of shapes, and of the library's decoder, out of what the rows list; a world that holds them. -/
import Derived.Test.YtgholdnpglngmaaDoorRows
import Derived.Test.YtgholdnpglngmaaDoorMemRows
import Derived.Test.YtgholdnpglngmaaDoorUtfSigns
import Derived.Test.YtgholdnpglngmaaDoorLays
import Derived.ProofKit
import Derived.Lib.LaidTab
import Derived.Lib.LaidU8T
import Derived.Deep.DeepHandedRow
namespace Go.Proofs.YtgholdnpglngmaaDoor
open Go Go.ChangeShapes Go.WideShapes Go.ChangeAt Go.RowKit

def shapeRows : List (List Int) := [[127, 0, 0], [2047, 192, 1], [65535, 224, 2], [1114111, 240, 3]]
theorem gShapes : Tryd.prog.globalNamed "scholia/utf.shapes" = some 2 := by kernel_rfl
theorem gShapesType : (Tryd.prog.globals[2]?).map (·.type) = some 36 := by kernel_rfl
theorem shapes_of {W : World} {l : List (String × DataW Unit)} (h : laidMet Tryd.prog l W) (hm : ("scholia/utf.shapes", Rows.laid_scholia_utf_shapes) ∈ l) : Shapes W := by
  obtain ⟨ps, hv, _⟩ := h
  obtain ⟨g, t, cs, fuel, p, h1, h2, h3, h4⟩ := laid_mem hv hm
  obtain rfl := Option.some.inj (gShapes.symm.trans h1)
  obtain rfl := Option.some.inj (gShapesType.symm.trans h2)
  have hr := rows_array (m := 3) (e := 3) (rows := shapeRows) Tryd.underlying36 Tryd.underlying35 Tryd.underlying3 (by kernel_rfl) (by kernel_rfl) rfl
    (fun i f h => by
      match i, h with
      | 0, h => cases h; exact ⟨rfl, rfl⟩
      | 1, h => cases h; exact ⟨rfl, rfl⟩
      | 2, h => cases h; exact ⟨rfl, rfl⟩
      | n + 3, h => simp at h)
    (by decide) h4
  have hc : ∀ i, i < 4 → ∀ j, j < 3 → W.cell? ⟨2, i * 3 + j, none⟩ = some (.int .i64 ((shapeRows.getD i []).getD j 0)) := fun i hi j hj => by
    have := hr i hi j hj
    rw [World.var?_cell gShapes h3, ← Array.getElem?_toList]
    exact this
  exact ⟨hc 0 (by omega) 0 (by omega), hc 0 (by omega) 1 (by omega), hc 0 (by omega) 2 (by omega), hc 1 (by omega) 0 (by omega), hc 1 (by omega) 1 (by omega), hc 1 (by omega) 2 (by omega),
    hc 2 (by omega) 0 (by omega), hc 2 (by omega) 1 (by omega), hc 2 (by omega) 2 (by omega), hc 3 (by omega) 0 (by omega), hc 3 (by omega) 1 (by omega), hc 3 (by omega) 2 (by omega)⟩
theorem extraU8 : U8Extra Tryd.prog Tryd.laysValid_ren := ⟨by kernel_rfl, by kernel_rfl, by kernel_rfl, by kernel_rfl, by kernel_rfl, by kernel_rfl, by kernel_rfl⟩
theorem first_is : Rows.laid_unicode_utf8_first = Lib.firstData := by kernel_rfl
theorem accept_is : (Rows.laid_unicode_utf8_acceptRanges : DataW Unit) = Lib.acceptData := by kernel_rfl
/-- what the rows list, met -/
def LaidU (W : World) : Prop := Shapes W ∧ Lib.Utf8Tabs (Tryd.laysValid_ren.g 3) (Tryd.laysValid_ren.g 4) W
theorem laid_of {W : World} (h : laidMetH Tryd.prog [("unicode/utf8.acceptRanges", Rows.laid_unicode_utf8_acceptRanges), ("scholia/utf.shapes", Rows.laid_scholia_utf_shapes), ("unicode/utf8.first", Rows.laid_unicode_utf8_first)] W) : LaidU W := by
  refine ⟨shapes_of h (by simp), utf8Tabs_of_readsT (U8Types.of196 Tryd.laysValid) extraU8 ?_ ?_⟩
  · rw [← first_is]; exact Lib.laidMet.reads h (by simp)
  · rw [← accept_is]; exact Lib.laidMet.reads h (by simp)
noncomputable def setVar (w : World) (g : Nat) (cs : List Value) : World :=
  { w with heap := w.heap.modify g fun
      | .cells _ t frozen => .cells cs.toArray t frozen
      | o => o }
noncomputable def laidWorld (os : Os) : World :=
  setVar (setVar (setVar (World.holding Tryd.prog os ⟨#[], #[], []⟩) 2 ((shapeRows.flatten).map (Value.int .i64)))
    0 (Lib.firstTab.map fun z => Value.int .u8 z)) 1 ((List.range 16).flatMap fun i => [Value.int .u8 (Lib.accLo i : Int), Value.int .u8 (Lib.accHi i : Int)])
theorem laid_met (os : Os) (args : Array Value) : laidMet Tryd.prog [("unicode/utf8.acceptRanges", Rows.laid_unicode_utf8_acceptRanges), ("scholia/utf.shapes", Rows.laid_scholia_utf_shapes), ("unicode/utf8.first", Rows.laid_unicode_utf8_first)] ((laidWorld os).forCall (fun _ _ => 0) ⟨#[], args, []⟩).memory :=
  laidMet_of_run' 8 (by kernel_rfl) (by kernel_rfl)
end Go.Proofs.YtgholdnpglngmaaDoor
