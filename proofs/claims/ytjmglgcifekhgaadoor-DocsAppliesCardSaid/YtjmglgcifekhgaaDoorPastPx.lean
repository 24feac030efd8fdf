/- A past by value: its events' slice, and its floor. -/
import Derived.Test.YtjmglgcifekhgaaDoorPastMem
import Derived.Test.YtjmglgcifekhgaaDoorDotCmp
import Derived.Deep.Upon
namespace Go.Proofs.YtjmglgcifekhgaaDoor
open Go Go.RowKit
set_option linter.unusedVariables false

/-! Some cells of a block written at once -/
def setL (cs : Array Value) : Nat → List Value → Array Value
  | _, [] => cs
  | o, v :: r => setL (cs.setIfInBounds o v) (o + 1) r
theorem setL_size : ∀ (vs : List Value) (cs : Array Value) (o : Nat), (setL cs o vs).size = cs.size
  | [], _, _ => rfl
  | v :: r, cs, o => by rw [setL, setL_size r]; simp
theorem setL_get : ∀ (vs : List Value) (cs : Array Value) (o : Nat) (hle : o + vs.length ≤ cs.size) (i : Nat), (setL cs o vs)[i]? = if o ≤ i ∧ i < o + vs.length then vs[i - o]? else cs[i]?
  | [], cs, o, _, i => by
    have : ¬ (o ≤ i ∧ i < o + ([] : List Value).length) := by simp
    rw [if_neg this]; rfl
  | v :: r, cs, o, hle, i => by
    rw [List.length_cons] at hle ⊢
    rw [setL, setL_get r _ _ (by simp; omega)]
    by_cases h1 : o + 1 ≤ i ∧ i < o + 1 + r.length
    · rw [if_pos h1, if_pos (by omega), show i - o = (i - (o + 1)) + 1 from by omega, List.getElem?_cons_succ]
    · rw [if_neg h1]
      by_cases h2 : o = i
      · subst h2
        rw [if_pos (by omega), Array.getElem?_setIfInBounds, if_pos rfl, if_pos (by omega), Nat.sub_self]; rfl
      · rw [if_neg (by omega), Array.getElem?_setIfInBounds, if_neg h2]
theorem heap_setCells {g : Nat} {ty : TypeId} {m : Nat × Nat} : ∀ (vs : List Value) (w : World) (cs : Array Value) (o : Nat), w.heap[g]? = some (.cells cs ty m) → (w.setCells g o vs).heap[g]? = some (.cells (setL cs o vs) ty m)
  | [], _, _, _, h => h
  | v :: r, w, cs, o, h => by
    rw [World.setCells, setL]
    exact heap_setCells r _ _ _ (block_setCell h v)
theorem grown_setCells (g : Nat) : ∀ (vs : List Value) (w : World) (o : Nat), w.grownBy (w.setCells g o vs) (some g)
  | [], w, _ => ⟨rfl, rfl, rfl, Nat.le_refl _, fun _ _ _ => rfl⟩
  | v :: r, w, o => by
    rw [World.setCells]
    have h1 := grown_cell w g o v
    have h2 := grown_setCells g r (w.setCell ⟨g, o, none⟩ v) (o + 1)
    exact ⟨h2.os.trans h1.os, h2.tape.trans h1.tape, h2.output.trans h1.output, Nat.le_trans h1.size h2.size, fun i hi hne => (h2.block i (Nat.lt_of_lt_of_le hi h1.size) hne).trans (h1.block i hi hne)⟩

def pcs (v : Value) (f : Nat → Int) : Array Value := (v :: (vf f).toList).toArray
theorem pcs_size (v : Value) (f : Nat → Int) : (pcs v f).size = 65 := by simp [pcs, vf_size]
theorem pcs_zero (v : Value) (f : Nat → Int) : (pcs v f)[0]? = some v := rfl
theorem pcs_succ (v : Value) (f : Nat → Int) (k : Nat) : (pcs v f)[k + 1]? = (vf f)[k]? := by simp [pcs]
theorem pcs_congr (v : Value) {f g : Nat → Int} (h : ∀ i, i < 64 → f i = g i) : pcs v f = pcs v g := by rw [pcs, vf_congr h, pcs]
theorem pcs_oneV (f : Nat → Int) {v : Value} (h : ∃ p n c, v = .slice p n c) : ∀ u ∈ (pcs v f).toList, u.oneCell' = true := by
  intro u hu
  simp only [pcs, List.mem_cons] at hu
  rcases hu with rfl | hu
  · obtain ⟨p, n, c, rfl⟩ := h; rfl
  · exact (Array.all_eq_true_iff_forall_mem.1 (vf_one f)) u (by simpa using hu)
theorem sizeVc (f : Nat → Int) : (Tryd.prog.info? 23).map (·.size) = some (vf f).size := by rw [vf_size]; kernel_rfl
theorem sizeVcl (f : Nat → Int) : (Tryd.prog.info? 23).map (·.size) = some (vf f).toList.length := by rw [Array.length_toList, vf_size]; kernel_rfl
end Go.Proofs.YtjmglgcifekhgaaDoor
