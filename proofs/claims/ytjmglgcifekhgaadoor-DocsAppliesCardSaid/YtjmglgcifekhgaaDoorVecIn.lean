/- Within of rows of 64, of both. -/
import Derived.Test.YtjmglgcifekhgaaDoorVecJoin
namespace Go.Proofs.YtjmglgcifekhgaaDoor
open Go Go.RowKit

/-- what a call that hands back a bool, and turns nothing that was, comes to -/
def RetBool (w : World) (b : Bool) (e : Ending) (w' : World) : Prop := e = .returned (.bool b) ∧ Below w.heap.size w w'
/-- is each number of one at most that of another one at all places of a list? -/
def vle (f g : Nat → Int) : Bool := (List.range 64).all fun i => f i ≤ g i
theorem vle_iff (f g : Nat → Int) : vle f g = true ↔ ∀ i, i < 64 → f i ≤ g i := by simp [vle]
theorem vle_no {f g : Nat → Int} (i : Nat) (hi : i < 64) (h : g i < f i) : vle f g = false := by
  cases e : vle f g with
  | false => rfl
  | true => exact absurd ((vle_iff f g).1 e i hi) (by omega)
theorem vle_eq (f g : Nat → Int) : veq (fun i => max (f i) (g i)) g = vle f g := by
  rw [Bool.eq_iff_iff, veq_iff, vle_iff]
  exact ⟨fun h i hi => by have := h i hi; omega, fun h i hi => by have := h i hi; omega⟩

end Go.Proofs.YtjmglgcifekhgaaDoor
