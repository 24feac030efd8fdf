/- The statement DocsReads, proved for every input that its row reads: part 4 of 54. -/
import Derived.Test.YtijmijokgenflaaGreatDoorVecWalk
import Derived.Test.YtijmijokgenflaaGreatDoorProg
import Derived.Deep.QuietTactic
import Derived.BigQuiet
import Derived.RegionTactic
import Derived.Deep.RegionHeld3
import Derived.Deep.RegionLaw
import Derived.Deep.RegionWith
import Derived.Lib.Hide
/- Join, Meet of rows of 64, the program's and the document's. -/
namespace Go.Proofs.YtijmijokgenflaaGreatDoor
open Go Go.RowKit
set_option linter.unusedVariables false

theorem vecI : Vec Tryz.prog 23 3 := ⟨Tryz.underlying23, Tryz.underlying3, by kernel_rfl, by kernel_rfl⟩
theorem zeroV (w : World) : (zeroValue 23).run Tryz.prog w = .ok (.agg (vf fun _ => 0)) w := by
  rw [vf_zero]; kernel_rfl
/-- what a call that hands back a row of 64 comes to -/
def RetVec (w : World) (f : Nat → Int) (e : Ending) (w' : World) : Prop := e = .returned (.agg (vf f)) ∧ Below w.heap.size w w'
theorem vec_ret {P : Program} {t e : TypeId} (V : Vec P t e) {fn : Func} {p : Tmp} (h : fn.results = #[.cell p t]) {a : Act} {w0 w : World} {g : Nat} {ty : TypeId} {f f' : Nat → Int} (hp : a.tmps.getD p undef = .pointer (some ⟨g, 0, none⟩)) (hd : a.defers = []) (hr : Row w g ty f)
    (he : ∀ i, i < 64 → f i = f' i) (hb : Below w0.heap.size w0 w) : bodyPost P fn (RetVec w0 f') .ret a w :=
  bodyPost_ret (v := .agg (vf f)) (results_cell_row h a.tmps w g ty (vf f) (0, 0) _ hp hr V.array rfl (by rw [vf_size]; exact V.whole)) hd ⟨by rw [vf_congr he], hb⟩
theorem grown_drew {w w' : World} {r : Option Nat} (h : w.grownBy w' r) : w.grownBy w'.drew r := ⟨h.os, h.tape, h.output, h.size, h.block⟩
/-- a row of which the first k places are of one, the others of another one -/
def upto (k : Nat) (f g : Nat → Int) : Nat → Int := fun i => if i < k then f i else g i
theorem upto_zero (f g : Nat → Int) : upto 0 f g = g := by funext i; simp [upto]
theorem upto_at (k : Nat) (f g : Nat → Int) : upto k f g k = g k := by simp [upto]
theorem upto_all (f g : Nat → Int) (i : Nat) (h : i < 64) : upto 64 f g i = f i := by simp [upto, h]
theorem upto_set (k : Nat) (f g : Nat → Int) : vset (upto k f g) k (f k) = upto (k + 1) f g := by
  funext i
  simp only [vset, upto]
  by_cases h : i = k
  · subst h; simp
  · rw [if_neg h]
    by_cases h2 : i < k
    · rw [if_pos h2, if_pos (by omega)]
    · rw [if_neg h2, if_neg (by omega)]
theorem upto_keep (k : Nat) (f g : Nat → Int) (h : f k = g k) : upto k f g = upto (k + 1) f g := by
  funext i
  simp only [upto]
  by_cases e : i = k
  · subst e; simp [h]
  · by_cases h2 : i < k
    · rw [if_pos h2, if_pos (by omega)]
    · rw [if_neg h2, if_neg (by omega)]

end Go.Proofs.YtijmijokgenflaaGreatDoor
/- Within of rows of 64, of both. -/
namespace Go.Proofs.YtijmijokgenflaaGreatDoor
open Go Go.RowKit

/-- what a call that hands back a bool, and turns nothing that was, comes to -/
def RetBool (w : World) (b : Bool) (e : Ending) (w' : World) : Prop := e = .returned (.bool b) ∧ Below w.heap.size w w'
/-- is each number of one at most that of another one at all places of a list? -/
def vle (f g : Nat → Int) : Bool := (List.range 64).all fun i => f i ≤ g i
theorem vle_iff (f g : Nat → Int) : vle f g = true ↔ ∀ i, i < 64 → f i ≤ g i := by simp [vle]
theorem vle_no {f g : Nat → Int} (i : Nat) (hi : i < 64) (h : g i < f i) : vle f g = false := by
  cases e : vle f g with
  | false => rfl
  | true => exact absurd ((vle_iff f g).1 e i hi) (by omega)
theorem vle_eq (f g : Nat → Int) : veq (fun i => max (f i) (g i)) g = vle f g := by
  rw [Bool.eq_iff_iff, veq_iff, vle_iff]
  exact ⟨fun h i hi => by have := h i hi; omega, fun h i hi => by have := h i hi; omega⟩

end Go.Proofs.YtijmijokgenflaaGreatDoor
