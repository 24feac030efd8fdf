/- The table of ends out of what the rows list; a world that holds it. -/
import Derived.Test.YtgdjkddljnjckaaDoorRows
import Derived.Test.YtgdjkddljnjckaaDoorMemLits
import Derived.Test.YtgdjkddljnjckaaDoorStemChange
import Derived.ProofKit
import Derived.Lib.LaidTab
import Derived.Deep.DeepHandedRow
import Derived.Deep.DeepWitnessRowRef
namespace Go.Proofs.YtgdjkddljnjckaaDoor
open Go Go.ChangeShapes Go.WideShapes Go.ChangeAt Go.RowKit

theorem gEnds : Tryd.prog.globalNamed "scholia/stem.endings" = some 0 := by kernel_rfl
theorem gEndsType : (Tryd.prog.globals[0]?).map (·.type) = some 31 := by kernel_rfl
def endLits : List (List Lit) := Stm.rows.map fun r => [.int .i64 r.step, .string r.fin, .int .i64 (r.ahead : Int), .string r.put]
theorem endLits_data {H : Type} : (Rows.laid_scholia_stem_endings : DataW H) = .slice (endLits.map litD) [] := rfl
theorem laid_of {W : World} (h : laidMetH Tryd.prog [("scholia/stem.endings", Rows.laid_scholia_stem_endings)] W) : Ends W := by
  obtain ⟨ps, hv, _⟩ := h
  obtain ⟨g, t, cs, fuel, p, h1, h2, h3, h4⟩ := laid_mem (name := "scholia/stem.endings") (d := Rows.laid_scholia_stem_endings) hv (by simp)
  obtain rfl := Option.some.inj (gEnds.symm.trans h1)
  obtain rfl := Option.some.inj (gEndsType.symm.trans h2)
  rw [endLits_data] at h4
  obtain ⟨b, o, c, hcs, hle, hr⟩ := lits_slice (m := 4) (rows := endLits) (rest := []) Tryd.underlying31 Tryd.underlying33 (by kernel_rfl) rfl
    (fun i f h => by
      match i, h with
      | 0, h => cases h; exact ⟨rfl, by kernel_rfl, .inl Tryd.underlying3⟩
      | 1, h => cases h; exact ⟨rfl, by kernel_rfl, .inr Tryd.underlying9⟩
      | 2, h => cases h; exact ⟨rfl, by kernel_rfl, .inl Tryd.underlying3⟩
      | 3, h => cases h; exact ⟨rfl, by kernel_rfl, .inr Tryd.underlying9⟩
      | n + 4, h => simp at h)
    (by decide) (by decide) (by decide) h4
  refine ⟨b, o, c, ?_, hle, fun i hi j hj => ?_⟩
  · rw [World.var?_cell gEnds h3, ← Array.getElem?_toList, hcs]; rfl
  · rw [hr i hi j hj]
    have hi' : i < Stm.rows.length := hi
    have e1 : endLits.getD i [] = [.int .i64 (Stm.rows.getD i default).step, .string (Stm.rows.getD i default).fin, .int .i64 ((Stm.rows.getD i default).ahead : Int), .string (Stm.rows.getD i default).put] := by
      simp [endLits, List.getD, List.getElem?_eq_getElem hi']
    rw [e1]; rfl

noncomputable def laidWorld (os : Os) : World :=
  let N := (World.settled Tryd.prog os).heap.size
  let w0 := World.holding Tryd.prog os ⟨#[.cells ((endLits.flatten).map Lit.value).toArray 33], #[], []⟩
  { w0 with heap := w0.heap.modify 0 fun
    | .cells _ t frozen => .cells #[.slice (some ⟨N, 0, none⟩) 15 15] t frozen
    | o => o }
theorem laid_met (os : Os) (args : Array Value) : laidMet Tryd.prog [("scholia/stem.endings", Rows.laid_scholia_stem_endings)] ((laidWorld os).forCall (fun _ _ => 0) ⟨#[], args, []⟩).memory :=
  laidMet_of_run' 8 (by kernel_rfl) (by kernel_rfl)
end Go.Proofs.YtgdjkddljnjckaaDoor
