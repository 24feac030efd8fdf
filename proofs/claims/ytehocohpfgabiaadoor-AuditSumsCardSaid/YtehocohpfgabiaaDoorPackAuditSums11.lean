/- The statement AuditSums, proved for every input that its row reads: part 11 of 54. -/
import Derived.Test.YtehocohpfgabiaaDoorPackAuditSums10
import Derived.Test.YtehocohpfgabiaaDoorPackAuditSums7
import Derived.Deep.Upon
/- A past by value: its events' slice, and its floor. -/
namespace Go.Proofs.YtehocohpfgabiaaDoor
open Go Go.RowKit
set_option linter.unusedVariables false

/-! Some cells of a block written at once -/
def setL (cs : Array Value) : Nat → List Value → Array Value
  | _, [] => cs
  | o, v :: r => setL (cs.setIfInBounds o v) (o + 1) r
theorem setL_size : ∀ (vs : List Value) (cs : Array Value) (o : Nat), (setL cs o vs).size = cs.size
  | [], _, _ => rfl
  | v :: r, cs, o => by rw [setL, setL_size r]; simp
theorem setL_get : ∀ (vs : List Value) (cs : Array Value) (o : Nat) (hle : o + vs.length ≤ cs.size) (i : Nat), (setL cs o vs)[i]? = if o ≤ i ∧ i < o + vs.length then vs[i - o]? else cs[i]?
  | [], cs, o, _, i => by
    have : ¬ (o ≤ i ∧ i < o + ([] : List Value).length) := by simp
    rw [if_neg this]; rfl
  | v :: r, cs, o, hle, i => by
    rw [List.length_cons] at hle ⊢
    rw [setL, setL_get r _ _ (by simp; omega)]
    by_cases h1 : o + 1 ≤ i ∧ i < o + 1 + r.length
    · rw [if_pos h1, if_pos (by omega), show i - o = (i - (o + 1)) + 1 from by omega, List.getElem?_cons_succ]
    · rw [if_neg h1]
      by_cases h2 : o = i
      · subst h2
        rw [if_pos (by omega), Array.getElem?_setIfInBounds, if_pos rfl, if_pos (by omega), Nat.sub_self]; rfl
      · rw [if_neg (by omega), Array.getElem?_setIfInBounds, if_neg h2]
theorem heap_setCells {g : Nat} {ty : TypeId} {m : Nat × Nat} : ∀ (vs : List Value) (w : World) (cs : Array Value) (o : Nat), w.heap[g]? = some (.cells cs ty m) → (w.setCells g o vs).heap[g]? = some (.cells (setL cs o vs) ty m)
  | [], _, _, _, h => h
  | v :: r, w, cs, o, h => by
    rw [World.setCells, setL]
    exact heap_setCells r _ _ _ (block_setCell h v)
theorem grown_setCells (g : Nat) : ∀ (vs : List Value) (w : World) (o : Nat), w.grownBy (w.setCells g o vs) (some g)
  | [], w, _ => ⟨rfl, rfl, rfl, Nat.le_refl _, fun _ _ _ => rfl⟩
  | v :: r, w, o => by
    rw [World.setCells]
    have h1 := grown_cell w g o v
    have h2 := grown_setCells g r (w.setCell ⟨g, o, none⟩ v) (o + 1)
    exact ⟨h2.os.trans h1.os, h2.tape.trans h1.tape, h2.output.trans h1.output, Nat.le_trans h1.size h2.size, fun i hi hne => (h2.block i (Nat.lt_of_lt_of_le hi h1.size) hne).trans (h1.block i hi hne)⟩

def pcs (v : Value) (f : Nat → Int) : Array Value := (v :: (vf f).toList).toArray
theorem pcs_size (v : Value) (f : Nat → Int) : (pcs v f).size = 65 := by simp [pcs, vf_size]
theorem pcs_zero (v : Value) (f : Nat → Int) : (pcs v f)[0]? = some v := rfl
theorem pcs_succ (v : Value) (f : Nat → Int) (k : Nat) : (pcs v f)[k + 1]? = (vf f)[k]? := by simp [pcs]
theorem pcs_congr (v : Value) {f g : Nat → Int} (h : ∀ i, i < 64 → f i = g i) : pcs v f = pcs v g := by rw [pcs, vf_congr h, pcs]
theorem pcs_oneV (f : Nat → Int) {v : Value} (h : ∃ p n c, v = .slice p n c) : ∀ u ∈ (pcs v f).toList, u.oneCell' = true := by
  intro u hu
  simp only [pcs, List.mem_cons] at hu
  rcases hu with rfl | hu
  · obtain ⟨p, n, c, rfl⟩ := h; rfl
  · exact (Array.all_eq_true_iff_forall_mem.1 (vf_one f)) u (by simpa using hu)
theorem sizeP (v : Value) (f : Nat → Int) : (Tryd.prog.info? 29).map (·.size) = some (pcs v f).size := by rw [pcs_size]; kernel_rfl
theorem sizePl (v : Value) (f : Nat → Int) : (Tryd.prog.info? 29).map (·.size) = some (pcs v f).toList.length := by rw [Array.length_toList, pcs_size]; kernel_rfl
theorem sizeVc (f : Nat → Int) : (Tryd.prog.info? 23).map (·.size) = some (vf f).size := by rw [vf_size]; kernel_rfl
theorem sizeVcl (f : Nat → Int) : (Tryd.prog.info? 23).map (·.size) = some (vf f).toList.length := by rw [Array.length_toList, vf_size]; kernel_rfl
theorem builtP (f : Nat → Int) (w : World) : (Instr.build 29 #[(1, .agg (vf f))]).run Tryd.prog w = .ok (.agg (pcs (.slice none 0 0) f)) w := run_build w _ _ _ (by kernel_rfl)
theorem zeroP (w : World) : (zeroValue 29).run Tryd.prog w = .ok (.agg (pcs (.slice none 0 0) (fun _ => 0))) w := by kernel_rfl
/-- a past in a block of its own -/
def Px (w : World) (g : Nat) (v : Value) (f : Nat → Int) : Prop := w.heap[g]? = some (.cells (pcs v f) 29 (0, 0))
theorem Px.lt {w : World} {g : Nat} {v : Value} {f : Nat → Int} (h : Px w g v f) : g < w.heap.size := (Array.getElem?_eq_some_iff.1 h).1
theorem Px.later {w w' : World} {g : Nat} {v : Value} {f : Nat → Int} (h : Px w g v f) (hb : Below w.heap.size w w') : Px w' g v f := (hb.block g h.lt).trans h
theorem Px.kept {w w' : World} {g : Nat} {v : Value} {f : Nat → Int} (h : Px w g v f) {row : Option Nat} (hg : w.grownBy w' row) (hne : some g ≠ row) : Px w' g v f := (hg.block g h.lt hne).trans h
theorem Px.slot {w : World} {g : Nat} {v : Value} {f : Nat → Int} (h : Px w g v f) : w.cell? ⟨g, 0, none⟩ = some v := (cell_of_row w g 0 _ _ _ h).trans (pcs_zero v f)
theorem Px.cell {w : World} {g : Nat} {v : Value} {f : Nat → Int} (h : Px w g v f) (k : Nat) (hk : k < 64) : w.cell? ⟨g, k + 1, none⟩ = some (.int .i64 (f k)) :=
  (cell_of_row w g (k + 1) _ _ _ h).trans ((pcs_succ v f k).trans (vf_get f k hk))
theorem Px.free {w : World} {g : Nat} {v : Value} {f : Nat → Int} (h : Px w g v f) (k : Nat) : w.frozen? ⟨g, k, none⟩ = false := frozen_of_row _ _ _ _ _ h
theorem Px.whole {w : World} {g : Nat} {v : Value} {f : Nat → Int} (h : Px w g v f) : w.rangeAt g 0 (pcs v f).toList := range_of_block h
theorem Px.floor {w : World} {g : Nat} {v : Value} {f : Nat → Int} (h : Px w g v f) : w.rangeAt g 1 (vf f).toList := fun j u hu => by
  rw [cell_of_row w g (1 + j) _ _ _ h, Nat.add_comm 1 j, pcs_succ]
  simpa using hu
theorem Px.setSlot {w : World} {g : Nat} {v : Value} {f : Nat → Int} (h : Px w g v f) (u : Value) : Px (w.setCell ⟨g, 0, none⟩ u) g u f := by
  unfold Px
  rw [block_setCell h]
  have e : (pcs v f).setIfInBounds 0 u = pcs u f := by
    apply Array.ext_getElem?
    intro i
    rw [Array.getElem?_setIfInBounds, pcs_size]
    cases i with
    | zero => simp [pcs_zero]
    | succ i => rw [if_neg (by omega), pcs_succ, pcs_succ]
  rw [e]
theorem Px.there {w : World} {g : Nat} {v : Value} {f : Nat → Int} (h : Px w g v f) (f' : Nat → Int) : w.there g 1 (vf f').size := fun j hj => by
  rw [vf_size] at hj
  rw [Nat.add_comm 1 j, h.cell j hj]
  exact ⟨rfl, h.free _⟩
theorem Px.setFloor {w : World} {g : Nat} {v : Value} {f : Nat → Int} (h : Px w g v f) (f' : Nat → Int) : Px (w.setCells g 1 (vf f').toList) g v f' := by
  unfold Px
  rw [heap_setCells _ _ _ _ h]
  have e : setL (pcs v f) 1 (vf f').toList = pcs v f' := by
    apply Array.ext_getElem?
    intro i
    rw [setL_get _ _ _ (by rw [Array.length_toList, vf_size, pcs_size]; omega)]
    cases i with
    | zero =>
      rw [if_neg (by omega), pcs_zero, pcs_zero]
    | succ i =>
      rw [pcs_succ, pcs_succ]
      split
      · simp
      · rename_i h1
        rw [Array.length_toList, vf_size] at h1
        rw [vf_none f i (by omega), vf_none f' i (by omega)]
  rw [e]
/-- a past that is handed back -/
theorem past_ret {fn : Func} {p : Tmp} (h : fn.results = #[.cell p 29]) {a : Act} {w : World} {g : Nat} {v : Value} {f : Nat → Int} {ty : TypeId} {Post : Ending → World → Prop}
    (hp : a.tmps.getD p undef = .pointer (some ⟨g, 0, none⟩)) (hd : a.defers = []) (hr : w.heap[g]? = some (.cells (pcs v f) ty (0, 0))) (hq : Post (.returned (.agg (pcs v f))) w) : bodyPost Tryd.prog fn Post .ret a w :=
  bodyPost_ret (v := .agg (pcs v f)) (results_cell_row h a.tmps w g ty (pcs v f) (0, 0) _ hp hr Tryd.underlying29 rfl (sizeP v f)) hd hq
end Go.Proofs.YtehocohpfgabiaaDoor
