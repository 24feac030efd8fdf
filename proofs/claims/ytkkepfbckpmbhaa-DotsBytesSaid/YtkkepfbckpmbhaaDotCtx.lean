/- Contexts in memory: a row of 64 and a slice, by value. -/
import Derived.Test.YtkkepfbckpmbhaaDotTidy3
namespace Go.Proofs.Ytkkepfbckpmbhaa
open Go Go.RowKit
set_option linter.unusedVariables false

/-- a context's cells -/
def ccs (f : Nat → Int) (v : Value) : Array Value := (vf f).push v
theorem ccs_size (f : Nat → Int) (v : Value) : (ccs f v).size = 65 := by simp [ccs, vf_size]
theorem ccs_one (f : Nat → Int) (p : Option Addr) (n c : Nat) : ∀ v ∈ (ccs f (.slice p n c)).toList, v.oneCell' = true := by
  intro v hv
  simp only [ccs, Array.toList_push, List.mem_append, List.mem_singleton] at hv
  rcases hv with hv | rfl
  · exact vl_one f v hv
  · rfl
theorem builtC (f : Nat → Int) (w : World) : (Instr.build 55 #[(0, .agg (vf f))]).run Try.prog w = .ok (.agg (ccs f (.slice none 0 0))) w := run_build w _ _ _ (by kernel_rfl)
theorem builtC2 (f : Nat → Int) (p : Option Addr) (n c : Nat) (w : World) : (Instr.build 55 #[(0, .agg (vf f)), (1, .slice p n c)]).run Try.prog w = .ok (.agg (ccs f (.slice p n c))) w := run_build w _ _ _ (by kernel_rfl)
theorem zeroC (w : World) : (zeroValue 55).run Try.prog w = .ok (.agg (ccs (fun _ => 0) (.slice none 0 0))) w := by
  unfold ccs; rw [vf_zero]; kernel_rfl
theorem sizeC (f : Nat → Int) (v : Value) : (Try.prog.info? 55).map (·.size) = some (ccs f v).size := by rw [ccs_size]; kernel_rfl
/-- a context at g -/
def Cx (w : World) (g : Nat) (f : Nat → Int) (v : Value) : Prop := w.heap[g]? = some (.cells (ccs f v) 55 (0, 0))
theorem Cx.lt {w : World} {g : Nat} {f : Nat → Int} {v : Value} (h : Cx w g f v) : g < w.heap.size := (Array.getElem?_eq_some_iff.1 h).1
theorem Cx.later {w w' : World} {g : Nat} {f : Nat → Int} {v : Value} (h : Cx w g f v) (hb : Below w.heap.size w w') : Cx w' g f v := (hb.block g h.lt).trans h
theorem Cx.kept {w w' : World} {g : Nat} {f : Nat → Int} {v : Value} (h : Cx w g f v) {row : Option Nat} (hg : w.grownBy w' row) (hne : some g ≠ row) : Cx w' g f v := (hg.block g h.lt hne).trans h
theorem Cx.cell {w : World} {g : Nat} {f : Nat → Int} {v : Value} (h : Cx w g f v) (k : Nat) (hk : k < 64) : w.cell? ⟨g, k, none⟩ = some (.int .i64 (f k)) := by
  rw [cell_of_row w g k _ _ _ h, ccs, Array.getElem?_push_lt (by rw [vf_size]; exact hk), ← vf_get f k hk, Array.getElem?_eq_getElem]
theorem Cx.slot {w : World} {g : Nat} {f : Nat → Int} {v : Value} (h : Cx w g f v) : w.cell? ⟨g, 64, none⟩ = some v := by
  rw [cell_of_row w g 64 _ _ _ h, ccs]
  have := Array.getElem?_push_size (xs := vf f) (x := v)
  rwa [vf_size] at this
theorem Cx.free {w : World} {g : Nat} {f : Nat → Int} {v : Value} (h : Cx w g f v) (k : Nat) : w.frozen? ⟨g, k, none⟩ = false := frozen_of_row _ _ _ _ _ h
theorem Cx.range {w : World} {g : Nat} {f : Nat → Int} {v : Value} (h : Cx w g f v) : w.rangeAt g 0 (vf f).toList := fun j u hu => by
  have hj : j < 64 := by have := (List.getElem?_eq_some_iff.1 hu).1; rw [vl_length] at this; exact this
  rw [Nat.zero_add, h.cell j hj]
  rw [vl_get f j hj] at hu
  exact hu
theorem Cx.set {w : World} {g : Nat} {f : Nat → Int} {v : Value} (h : Cx w g f v) (k : Nat) (hk : k < 64) (x : Int) : Cx (w.setCell ⟨g, k, none⟩ (.int .i64 x)) g (vset f k x) v := by
  unfold Cx
  rw [block_setCell h]
  congr 2
  unfold ccs
  rw [← vf_set]
  apply Array.ext_getElem?
  intro i
  simp only [Array.getElem?_setIfInBounds, Array.getElem?_push, Array.size_push, Array.size_setIfInBounds, vf_size]
  by_cases h1 : k = i
  · subst h1
    simp [hk, show ¬ k = 64 by omega, show k < 65 by omega]
  · simp [h1]
theorem Cx.setSlot {w : World} {g : Nat} {f : Nat → Int} {v : Value} (h : Cx w g f v) (u : Value) : Cx (w.setCell ⟨g, 64, none⟩ u) g f u := by
  unfold Cx
  rw [block_setCell h]
  suffices h2 : (ccs f v).setIfInBounds 64 u = ccs f u by rw [h2]
  unfold ccs
  apply Array.ext_getElem?
  intro i
  simp only [Array.getElem?_setIfInBounds, Array.getElem?_push, Array.size_push, vf_size]
  by_cases h1 : 64 = i
  · subst h1; simp
  · simp [h1, show ¬ i = 64 from fun e => h1 e.symm]
end Go.Proofs.Ytkkepfbckpmbhaa
