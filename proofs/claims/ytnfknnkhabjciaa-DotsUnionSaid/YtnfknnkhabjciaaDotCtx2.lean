/- Contexts in memory: a row of 64 and a slice, by value. -/
import Derived.Test.YtnfknnkhabjciaaDotCompact
import Derived.Test.YtnfknnkhabjciaaVecIn
import Derived.Test.YtnfknnkhabjciaaGen
import Derived.Great.Walk
namespace Go.Proofs.Ytnfknnkhabjciaa
open Go Go.RowKit
set_option linter.unusedVariables false

/-- a context's cells -/
def ccs (f : Nat → Int) (v : Value) : Array Value := (vf f).push v
theorem ccs_size (f : Nat → Int) (v : Value) : (ccs f v).size = 65 := by simp [ccs, vf_size]
theorem ccs_one (f : Nat → Int) (p : Option Addr) (n c : Nat) : ∀ v ∈ (ccs f (.slice p n c)).toList, v.oneCell' = true := by
  intro v hv
  simp only [ccs, Array.toList_push, List.mem_append, List.mem_singleton] at hv
  rcases hv with hv | rfl
  · exact vl_one f v hv
  · rfl
theorem builtC (f : Nat → Int) (w : World) : (Instr.build 26 #[(0, .agg (vf f))]).run Try.prog w = .ok (.agg (ccs f (.slice none 0 0))) w := run_build w _ _ _ (by kernel_rfl)
theorem builtC2 (f : Nat → Int) (p : Option Addr) (n c : Nat) (w : World) : (Instr.build 26 #[(0, .agg (vf f)), (1, .slice p n c)]).run Try.prog w = .ok (.agg (ccs f (.slice p n c))) w := run_build w _ _ _ (by kernel_rfl)
theorem zeroC (w : World) : (zeroValue 26).run Try.prog w = .ok (.agg (ccs (fun _ => 0) (.slice none 0 0))) w := by
  unfold ccs; rw [vf_zero]; kernel_rfl
theorem sizeC (f : Nat → Int) (v : Value) : (Try.prog.info? 26).map (·.size) = some (ccs f v).size := by rw [ccs_size]; kernel_rfl
/-- a context at g -/
def Cx (w : World) (g : Nat) (f : Nat → Int) (v : Value) : Prop := w.heap[g]? = some (.cells (ccs f v) 26 (0, 0))
theorem Cx.lt {w : World} {g : Nat} {f : Nat → Int} {v : Value} (h : Cx w g f v) : g < w.heap.size := (Array.getElem?_eq_some_iff.1 h).1
theorem Cx.later {w w' : World} {g : Nat} {f : Nat → Int} {v : Value} (h : Cx w g f v) (hb : Below w.heap.size w w') : Cx w' g f v := (hb.block g h.lt).trans h
theorem Cx.kept {w w' : World} {g : Nat} {f : Nat → Int} {v : Value} (h : Cx w g f v) {row : Option Nat} (hg : w.grownBy w' row) (hne : some g ≠ row) : Cx w' g f v := (hg.block g h.lt hne).trans h
theorem Cx.cell {w : World} {g : Nat} {f : Nat → Int} {v : Value} (h : Cx w g f v) (k : Nat) (hk : k < 64) : w.cell? ⟨g, k, none⟩ = some (.int .i64 (f k)) := by
  rw [cell_of_row w g k _ _ _ h, ccs, Array.getElem?_push_lt (by rw [vf_size]; exact hk), ← vf_get f k hk, Array.getElem?_eq_getElem]
theorem Cx.slot {w : World} {g : Nat} {f : Nat → Int} {v : Value} (h : Cx w g f v) : w.cell? ⟨g, 64, none⟩ = some v := by
  rw [cell_of_row w g 64 _ _ _ h, ccs]
  have := Array.getElem?_push_size (xs := vf f) (x := v)
  rwa [vf_size] at this
theorem Cx.free {w : World} {g : Nat} {f : Nat → Int} {v : Value} (h : Cx w g f v) (k : Nat) : w.frozen? ⟨g, k, none⟩ = false := frozen_of_row _ _ _ _ _ h
theorem Cx.range {w : World} {g : Nat} {f : Nat → Int} {v : Value} (h : Cx w g f v) : w.rangeAt g 0 (vf f).toList := fun j u hu => by
  have hj : j < 64 := by have := (List.getElem?_eq_some_iff.1 hu).1; rw [vl_length] at this; exact this
  rw [Nat.zero_add, h.cell j hj]
  rw [vl_get f j hj] at hu
  exact hu
theorem Cx.set {w : World} {g : Nat} {f : Nat → Int} {v : Value} (h : Cx w g f v) (k : Nat) (hk : k < 64) (x : Int) : Cx (w.setCell ⟨g, k, none⟩ (.int .i64 x)) g (vset f k x) v := by
  unfold Cx
  rw [block_setCell h]
  congr 2
  unfold ccs
  rw [← vf_set]
  apply Array.ext_getElem?
  intro i
  simp only [Array.getElem?_setIfInBounds, Array.getElem?_push, Array.size_push, Array.size_setIfInBounds, vf_size]
  by_cases h1 : k = i
  · subst h1
    simp [hk, show ¬ k = 64 by omega, show k < 65 by omega]
  · simp [h1]
theorem Cx.setSlot {w : World} {g : Nat} {f : Nat → Int} {v : Value} (h : Cx w g f v) (u : Value) : Cx (w.setCell ⟨g, 64, none⟩ u) g f u := by
  unfold Cx
  rw [block_setCell h]
  suffices h2 : (ccs f v).setIfInBounds 64 u = ccs f u by rw [h2]
  unfold ccs
  apply Array.ext_getElem?
  intro i
  simp only [Array.getElem?_setIfInBounds, Array.getElem?_push, Array.size_push, vf_size]
  by_cases h1 : 64 = i
  · subst h1; simp
  · simp [h1, show ¬ i = 64 from fun e => h1 e.symm]
theorem zeroD (w : World) : (zeroValue 28).run Try.prog w = .ok (.agg (dcs 0 0)) w := by kernel_rfl
theorem sizeD (r n : Int) : (Try.prog.info? 28).map (·.size) = some (dcs r n).size := by kernel_rfl
theorem sizeDl (r n : Int) : (Try.prog.info? 28).map (·.size) = some (dcs r n).toList.length := by kernel_rfl
theorem dcs_one (r n : Int) : ∀ v ∈ (dcs r n).toList, v.oneCell' = true := by
  intro v hv
  simp [dcs] at hv
  rcases hv with rfl | rfl <;> rfl

/-- what a call owns stays where another block is written -/
theorem own_kept {w w' : World} {B : Nat} {T : TypeId} {k n g : Nat} {v : Value} {xs : List Value} (h : w.ownsRow B T k v n xs) (hg : w.grownBy w' (some g)) (hB : g < B) : w'.ownsRow B T k v n xs := by
  refine ⟨h.1, ?_⟩
  rcases h.2 with q | ⟨b, cap, cur, q1, q2, q3, q4⟩
  · exact .inl q
  · exact .inr ⟨b, cap, cur, q1, q2, (hg.block b (Array.getElem?_eq_some_iff.1 q3).1 (by intro e; have := Option.some.inj e; omega)).trans q3, q4⟩
theorem own_lat {w w' : World} {B : Nat} {T : TypeId} {k n : Nat} {v : Value} {xs : List Value} (h : w.ownsRow B T k v n xs) (hb : Below w.heap.size w w') : w'.ownsRow B T k v n xs := by
  refine ⟨h.1, ?_⟩
  rcases h.2 with q | ⟨b, cap, cur, q1, q2, q3, q4⟩
  · exact .inl q
  · exact .inr ⟨b, cap, cur, q1, q2, (hb.block b (Array.getElem?_eq_some_iff.1 q3).1).trans q3, q4⟩
theorem own_down {w : World} {B B' : Nat} {T : TypeId} {k n : Nat} {v : Value} {xs : List Value} (h : w.ownsRow B T k v n xs) (hB : B' ≤ B) : w.ownsRow B' T k v n xs := by
  refine ⟨h.1, ?_⟩
  rcases h.2 with q | ⟨b, cap, cur, q1, q2, q3, q4⟩
  · exact .inl q
  · exact .inr ⟨b, cap, cur, q1, Nat.le_trans hB q2, q3, q4⟩
theorem own_shape {w : World} {B : Nat} {T : TypeId} {k n : Nat} {v : Value} {xs : List Value} (h : w.ownsRow B T k v n xs) : ∃ p c, v = .slice p n c := by
  rcases h.2 with ⟨rfl, rfl⟩ | ⟨b, cap, cur, rfl, _⟩
  · exact ⟨none, 0, rfl⟩
  · exact ⟨_, cap, rfl⟩
theorem ccs_oneV (f : Nat → Int) {v : Value} (h : ∃ p n c, v = .slice p n c) : ∀ u ∈ (ccs f v).toList, u.oneCell' = true := by
  obtain ⟨p, n, c, rfl⟩ := h
  exact ccs_one f p n c
theorem compactNone_is (p : Option Addr) (cap : Nat) (w : World) : Calls Try.prog 21 #[.slice p 0 cap] w fun e w' => e = .returned (.slice p 0 cap) ∧ w = w' := by
  go_enter Try.func21, Try.ntmps21
  go_wp2
  go_ret
  exact ⟨rfl, rfl⟩
end Go.Proofs.Ytnfknnkhabjciaa
