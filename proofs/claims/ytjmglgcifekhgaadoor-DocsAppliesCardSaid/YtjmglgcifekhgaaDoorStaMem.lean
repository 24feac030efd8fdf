/- States by value: a vector, and writes. -/
import Derived.Test.YtjmglgcifekhgaaDoorWrIns
import Derived.Test.YtjmglgcifekhgaaDoorWrOut
import Derived.Test.YtjmglgcifekhgaaDoorDcGo
import Derived.Test.YtjmglgcifekhgaaDoorPastTrim
namespace Go.Proofs.YtjmglgcifekhgaaDoor
open Go Go.RowKit
set_option linter.unusedVariables false
set_option maxRecDepth 1000000

/-- a state's cells -/
def scs (f : Nat → Int) (v : Value) : Array Value := ((vf f).toList ++ [v]).toArray
theorem scs_size (f : Nat → Int) (v : Value) : (scs f v).size = 65 := by simp [scs, vf_size]
theorem scs_slot (f : Nat → Int) (v : Value) : (scs f v)[64]? = some v := by
  simp only [scs, List.getElem?_toArray]
  rw [List.getElem?_append_right (by rw [Array.length_toList, vf_size]; omega), Array.length_toList, vf_size]; rfl
theorem scs_vec (f : Nat → Int) (v : Value) (i : Nat) (h : i < 64) : (scs f v)[i]? = (vf f)[i]? := by
  simp only [scs, List.getElem?_toArray]
  rw [List.getElem?_append_left (by rw [Array.length_toList, vf_size]; exact h), Array.getElem?_toList]
theorem scs_congr (v : Value) {f g : Nat → Int} (h : ∀ i, i < 64 → f i = g i) : scs f v = scs g v := by rw [scs, vf_congr h, scs]
theorem scs_one (f : Nat → Int) {v : Value} (h : v.oneCell' = true) : ∀ u ∈ (scs f v).toList, u.oneCell' = true := by
  intro u hu
  simp only [scs, List.toList_toArray, List.mem_append, List.mem_singleton] at hu
  rcases hu with hu | rfl
  · have hp := pcs_oneV f (v := .slice none 0 0) ⟨none, 0, 0, rfl⟩ u
    exact hp (by simp [pcs, hu])
  · exact h
theorem sizeSt (f : Nat → Int) (v : Value) : (Tryd.prog.info? 26).map (·.size) = some (scs f v).size := by rw [scs_size]; kernel_rfl
theorem sizeStl (f : Nat → Int) (v : Value) : (Tryd.prog.info? 26).map (·.size) = some (scs f v).toList.length := by rw [Array.length_toList, scs_size]; kernel_rfl
theorem zeroSt (w : World) : (zeroValue 26).run Tryd.prog w = .ok (.agg (scs (fun _ => 0) (.slice none 0 0))) w := by kernel_rfl
theorem builtSt (f : Nat → Int) (p : Option Addr) (n c : Nat) (w : World) : (Instr.build 26 #[(0, .agg (vf f)), (1, .slice p n c)]).run Tryd.prog w = .ok (.agg (scs f (.slice p n c))) w := run_build w _ _ _ (by kernel_rfl)
theorem builtSt0 (w : World) : (Instr.build 26 #[]).run Tryd.prog w = .ok (.agg (scs (fun _ => 0) (.slice none 0 0))) w := run_build w _ _ _ (by kernel_rfl)
/-- a state in a variable of its own -/
def Sx (w : World) (g : Nat) (f : Nat → Int) (v : Value) : Prop := w.heap[g]? = some (.cells (scs f v) 26 (0, 0))
theorem Sx.lt {w : World} {g : Nat} {f : Nat → Int} {v : Value} (h : Sx w g f v) : g < w.heap.size := (Array.getElem?_eq_some_iff.1 h).1
theorem Sx.later {w w' : World} {g : Nat} {f : Nat → Int} {v : Value} (h : Sx w g f v) (hb : Below w.heap.size w w') : Sx w' g f v := (hb.block g h.lt).trans h
theorem Sx.kept {w w' : World} {g : Nat} {f : Nat → Int} {v : Value} (h : Sx w g f v) {row : Option Nat} (hg : w.grownBy w' row) (hne : some g ≠ row) : Sx w' g f v := (hg.block g h.lt hne).trans h
theorem Sx.slot {w : World} {g : Nat} {f : Nat → Int} {v : Value} (h : Sx w g f v) : w.cell? ⟨g, 64, none⟩ = some v := (cell_of_row w g 64 _ _ _ h).trans (scs_slot f v)
theorem Sx.vec {w : World} {g : Nat} {f : Nat → Int} {v : Value} (h : Sx w g f v) : w.rangeAt g 0 (vf f).toList := fun j u hu => by
  have hj : j < 64 := by have := (List.getElem?_eq_some_iff.1 hu).1; rwa [Array.length_toList, vf_size] at this
  rw [Nat.zero_add, cell_of_row w g j _ _ _ h, scs_vec f v j hj, ← Array.getElem?_toList]; exact hu
theorem Sx.whole {w : World} {g : Nat} {f : Nat → Int} {v : Value} (h : Sx w g f v) : w.rangeAt g 0 (scs f v).toList := range_of_block h
/-- a whole variable written anew -/
theorem set_whole {w : World} {g : Nat} {old cs : Array Value} {ty : TypeId} {m : Nat × Nat} (h : w.heap[g]? = some (.cells old ty m)) (hs : old.size = cs.size) : (w.setCells g 0 cs.toList).heap[g]? = some (.cells cs ty m) := by
  rw [heap_setCells _ _ _ _ h]
  have e : setL old 0 cs.toList = cs := by
    apply Array.ext_getElem?
    intro i
    rw [setL_get _ _ _ (by rw [Array.length_toList]; omega)]
    split
    · simp
    · rename_i h1
      rw [Array.length_toList] at h1
      rw [Array.getElem?_eq_none (by omega), Array.getElem?_eq_none (by omega)]
  rw [e]
theorem exec_wstore {P : Program} {o : Oper} {a : Act} {w : World} (t : TypeId) (x y : Operand) (ho : o.op = .store t x y) (g : Nat) (hx : a.eval x = .pointer (some ⟨g, 0, none⟩)) (cs : Array Value) (hy : a.eval y = .agg cs) (hi : (P.info? t).map (·.size) = some cs.size) (h1 : ∀ v ∈ cs.toList, v.oneCell' = true)
    {old : Array Value} {ty : TypeId} (h : w.heap[g]? = some (.cells old ty (0, 0))) (hs : old.size = cs.size) :
    (execOp a.eval o).run P w = .ok .skip (w.setCells g 0 cs.toList) := by
  have ht : w.there g 0 cs.size := fun j hj => by
    rw [Nat.zero_add]
    refine ⟨?_, frozen_of_row w g j _ _ h⟩
    rw [cell_of_row w g j _ _ _ h, Array.getElem?_eq_getElem (by omega)]
    rfl
  unfold execOp
  simp only [ho, hx, hy, Sem.run_bind, run_storeAt_mid w g 0 t cs ht hi (Array.all_eq_true_iff_forall_mem.2 (fun u hu => h1 u (by simpa using hu))), Result.andThen_ok]
  rfl
theorem exec_build {P : Program} {o : Oper} {a : Act} {w : World} (t : TypeId) (parts : Array (Nat × Operand)) (ho : o.op = .build t parts) (cs : Array Value) (hb : (Instr.build t (parts.map fun (i, x) => (i, a.eval x))).run P w = .ok (.agg cs) w) :
    (execOp a.eval o).run P w = .ok (.value (.agg cs)) w := by
  unfold execOp
  simp only [ho, Sem.run_bind, hb, Result.andThen_ok]
  rfl
theorem own_keepT {w w' : World} {B0 : Nat} {ty : TypeId} {k n : Nat} {v : Value} {xs : List Value} (h : w.ownsRow B0 ty k v n xs) {g : Nat} {cs : Array Value} {T : TypeId} {m : Nat × Nat} (hg : w.heap[g]? = some (.cells cs T m)) (hne : T ≠ ty) (hw : w.grownBy w' (some g)) : w'.ownsRow B0 ty k v n xs := by
  refine h.kept hw ?_
  rcases h.2 with ⟨rfl, _⟩ | ⟨g', cap, cur, rfl, _, q3, _⟩
  · exact .inl rfl
  · right
    intro e
    have : g' = g := by simpa [Value.ownBlock] using e
    subst this
    rw [q3] at hg
    injection hg with hg
    injection hg with _ h2
    exact hne h2.symm
theorem results_cell_two {P : Program} {fn : Func} {p q : Tmp} {ty : TypeId} (h : fn.results = #[.cell p ty, .tmp q]) (tmps : Array Value) (w : World) (g : Nat) (t : TypeId) (cs : Array Value) (fr : Nat × Nat) (d : TypeDesc)
    (hp : tmps.getD p undef = .pointer (some ⟨g, 0, none⟩)) (hg : w.heap[g]? = some (.cells cs t fr))
    (hu : P.underlying ty = some d) (hd : (match d with | .struct _ | .array _ _ => true | _ => false) = true) (hi : (P.info? ty).map (·.size) = some cs.size) (u : Value) (hq : tmps.getD q undef = u) :
    (results fn tmps).run P w = .ok (.tuple #[.agg cs, u]) w := by
  subst hq
  have hp' : tmps[p]?.getD undef = .pointer (some ⟨g, 0, none⟩) := by simpa using hp
  simp [results, h, hp', asAddr, run_loadVar_row w g t ty cs fr d hg hu hd hi]
theorem fromD {w w' : World} (h : Below w.drew.heap.size w.drew w') : Below w.heap.size w w' := ⟨h.os, h.tape, h.output, h.size, h.block⟩
theorem cell_hold2 {w U : World} {a : Addr} {v : Value} (h : w.cell? a = some v) (hb : Below w.heap.size w U) : U.cell? a = some v := (hb.cell (p := a) (World.block_lt_of_cell? w _ h)).trans h
/-- what a Put writes -/
def wrote (e : Ev) : Wr := ⟨e.rep, e.n, e.time, e.doc, e.field, e.text⟩
/-- what is left of writes behind an event that takes dots away -/
def leftOf (L : List Wr) (e : Ev) : List Wr := L.filter (fun y => !decide (y.dot ∈ e.gone))
/-- a state behind an event -/
noncomputable def apErr (e : Ev) : Int := chk e
noncomputable def apSkip (F : Nat → Int) (e : Ev) : Bool := !decide (chk e = 0) || hasB F e.rep e.n
noncomputable def apSeen (F : Nat → Int) (e : Ev) : Nat → Int := if apSkip F e then F else withF F e.rep e.n
noncomputable def apLive (F : Nat → Int) (L : List Wr) (e : Ev) : List Wr := if apSkip F e then L else if e.kind = 1 then insW (leftOf L e) (wrote e) else leftOf L e
/-- a state that is handed back, and an error -/
def StR (w : World) (F : Nat → Int) (L : List Wr) (k : Int) (e : Ending) (w' : World) : Prop := ∃ v, e = .returned (.tuple #[.agg (scs F v), .int .i64 k]) ∧ w'.ownsRow w.heap.size 50 6 v L.length (wcl L) ∧ Below w.heap.size w w'
end Go.Proofs.YtjmglgcifekhgaaDoor
