/- The tables of shapes, great letters and letters out of what the rows list; a world that holds them. -/
import Derived.Test.YtldfomggeleolaaDoorUtfLaid
import Derived.Test.YtldfomggeleolaaDoorFoldSigns
import Derived.Deep.DeepWitnessRowRef
namespace Go.Proofs.YtldfomggeleolaaDoor
open Go Go.ChangeShapes Go.WideShapes Go.ChangeAt Go.RowKit

theorem gGreat : Tryd.prog.globalNamed "scholia/fold.great" = some 1 := by kernel_rfl
theorem gGreatType : (Tryd.prog.globals[1]?).map (·.type) = some 75 := by kernel_rfl
theorem gLetters : Tryd.prog.globalNamed "scholia/fold.letters" = some 2 := by kernel_rfl
theorem gLettersType : (Tryd.prog.globals[2]?).map (·.type) = some 83 := by kernel_rfl

theorem great_of {W : World} {l : List (String × DataW Unit)} (h : laidMet Tryd.prog l W) (hm : ("scholia/fold.great", Rows.laid_scholia_fold_great) ∈ l) : Great W := by
  obtain ⟨ps, hv, _⟩ := h
  obtain ⟨g, t, cs, fuel, p, h1, h2, h3, h4⟩ := laid_mem hv hm
  obtain rfl := Option.some.inj (gGreat.symm.trans h1)
  obtain rfl := Option.some.inj (gGreatType.symm.trans h2)
  obtain ⟨b, o, c, hcs, hle, hr⟩ := rows_slice (m := 4) (e := 3) (rows := Fol.great) (rest := []) Tryd.underlying75 Tryd.underlying77 Tryd.underlying3 (by kernel_rfl) (by kernel_rfl) rfl
    (fun i f h => by
      match i, h with
      | 0, h => cases h; exact ⟨rfl, rfl⟩
      | 1, h => cases h; exact ⟨rfl, rfl⟩
      | 2, h => cases h; exact ⟨rfl, rfl⟩
      | 3, h => cases h; exact ⟨rfl, rfl⟩
      | n + 4, h => simp at h)
    (by decide) (by decide) (by decide) h4
  refine ⟨b, o, c, ?_, hle, hr⟩
  rw [World.var?_cell gGreat h3, ← Array.getElem?_toList, hcs]; rfl
theorem letters_of {W : World} {l : List (String × DataW Unit)} (h : laidMet Tryd.prog l W) (hm : ("scholia/fold.letters", Rows.laid_scholia_fold_letters) ∈ l) : Letters W := by
  obtain ⟨ps, hv, _⟩ := h
  obtain ⟨g, t, cs, fuel, p, h1, h2, h3, h4⟩ := laid_mem hv hm
  obtain rfl := Option.some.inj (gLetters.symm.trans h1)
  obtain rfl := Option.some.inj (gLettersType.symm.trans h2)
  obtain ⟨b, o, c, hcs, hle, hr⟩ := rows_slice (m := 2) (e := 3) (rows := Fol.letters) (rest := []) Tryd.underlying83 Tryd.underlying85 Tryd.underlying3 (by kernel_rfl) (by kernel_rfl) rfl
    (fun i f h => by
      match i, h with
      | 0, h => cases h; exact ⟨rfl, rfl⟩
      | 1, h => cases h; exact ⟨rfl, rfl⟩
      | n + 2, h => simp at h)
    (by decide) (by decide) (by decide) h4
  refine ⟨b, o, c, ?_, hle, hr⟩
  rw [World.var?_cell gLetters h3, ← Array.getElem?_toList, hcs]; rfl

structure Tables (W : World) : Prop where
  shapes : Shapes W
  great : Great W
  letters : Letters W
theorem Tables.below {w w' : World} (h : Tables w) (hb : Below w.heap.size w w') : Tables w' := ⟨h.shapes.below hb, RowsAt.below h.great hb, RowsAt.below h.letters hb⟩
def tables : List (String × DataW Unit) := [("scholia/utf.shapes", Rows.laid_scholia_utf_shapes), ("scholia/fold.great", Rows.laid_scholia_fold_great), ("scholia/fold.letters", Rows.laid_scholia_fold_letters)]
theorem fold_of {W : World} (h : laidMetH Tryd.prog tables W) : Tables W := ⟨shapes_of h (by simp [tables]), great_of h (by simp [tables]), letters_of h (by simp [tables])⟩

noncomputable def foldWorld (os : Os) : World :=
  let N := (World.settled Tryd.prog os).heap.size
  let w0 := World.holding Tryd.prog os ⟨#[.cells ((Fol.great.flatten).map (Value.int .i64)).toArray 77, .cells ((Fol.letters.flatten).map (Value.int .i64)).toArray 85], #[], []⟩
  let put (h : Array Obj) (g : Nat) (cs : Array Value) : Array Obj := h.modify g fun
    | .cells _ t frozen => .cells cs t frozen
    | o => o
  let h1 := put w0.heap 0 ((shapeRows.flatten).map (Value.int .i64)).toArray
  let h2 := put h1 1 #[.slice (some ⟨N, 0, none⟩) 13 13]
  let h3 := put h2 2 #[.slice (some ⟨N + 1, 0, none⟩) 8 8]
  { w0 with heap := h3 }
theorem fold_met (os : Os) (args : Array Value) : laidMet Tryd.prog tables ((foldWorld os).forCall (fun _ _ => 0) ⟨#[], args, []⟩).memory :=
  laidMet_of_run' 8 (by kernel_rfl) (by kernel_rfl)
end Go.Proofs.YtldfomggeleolaaDoor
