/- The statement DocsJoins, proved for every input that its row reads: part 30 of 54. -/
import Derived.Test.YtdnkhcbglmfjbaaDoorPackDocsJoins16
import Derived.Test.YtdnkhcbglmfjbaaDoorPackDocsJoins28
import Derived.Test.YtdnkhcbglmfjbaaDoorPackDocsJoins20
import Derived.Test.YtdnkhcbglmfjbaaDoorPackDocsJoins12
import Derived.Test.YtdnkhcbglmfjbaaDoorStsPlain
import Derived.Test.YtdnkhcbglmfjbaaDoorRegionFree
import Derived.Test.YtdnkhcbglmfjbaaDoorRgMore
/- States by value: a vector, and writes. -/
namespace Go.Proofs.YtdnkhcbglmfjbaaDoor
open Go Go.RowKit
set_option linter.unusedVariables false
set_option maxRecDepth 1000000

/-- a state's cells -/
def scs (f : Nat → Int) (v : Value) : Array Value := ((vf f).toList ++ [v]).toArray
theorem scs_size (f : Nat → Int) (v : Value) : (scs f v).size = 65 := by simp [scs, vf_size]
theorem scs_slot (f : Nat → Int) (v : Value) : (scs f v)[64]? = some v := by
  simp only [scs, List.getElem?_toArray]
  rw [List.getElem?_append_right (by rw [Array.length_toList, vf_size]; omega), Array.length_toList, vf_size]; rfl
theorem scs_vec (f : Nat → Int) (v : Value) (i : Nat) (h : i < 64) : (scs f v)[i]? = (vf f)[i]? := by
  simp only [scs, List.getElem?_toArray]
  rw [List.getElem?_append_left (by rw [Array.length_toList, vf_size]; exact h), Array.getElem?_toList]
theorem scs_congr (v : Value) {f g : Nat → Int} (h : ∀ i, i < 64 → f i = g i) : scs f v = scs g v := by rw [scs, vf_congr h, scs]
theorem scs_one (f : Nat → Int) {v : Value} (h : v.oneCell' = true) : ∀ u ∈ (scs f v).toList, u.oneCell' = true := by
  intro u hu
  simp only [scs, List.toList_toArray, List.mem_append, List.mem_singleton] at hu
  rcases hu with hu | rfl
  · have hp := pcs_oneV f (v := .slice none 0 0) ⟨none, 0, 0, rfl⟩ u
    exact hp (by simp [pcs, hu])
  · exact h
theorem sizeSt (f : Nat → Int) (v : Value) : (Tryd.prog.info? 26).map (·.size) = some (scs f v).size := by rw [scs_size]; kernel_rfl
theorem sizeStl (f : Nat → Int) (v : Value) : (Tryd.prog.info? 26).map (·.size) = some (scs f v).toList.length := by rw [Array.length_toList, scs_size]; kernel_rfl
theorem zeroSt (w : World) : (zeroValue 26).run Tryd.prog w = .ok (.agg (scs (fun _ => 0) (.slice none 0 0))) w := by kernel_rfl
theorem builtSt (f : Nat → Int) (p : Option Addr) (n c : Nat) (w : World) : (Instr.build 26 #[(0, .agg (vf f)), (1, .slice p n c)]).run Tryd.prog w = .ok (.agg (scs f (.slice p n c))) w := run_build w _ _ _ (by kernel_rfl)
theorem builtSt0 (w : World) : (Instr.build 26 #[]).run Tryd.prog w = .ok (.agg (scs (fun _ => 0) (.slice none 0 0))) w := run_build w _ _ _ (by kernel_rfl)
/-- a state in a variable of its own -/
def Sx (w : World) (g : Nat) (f : Nat → Int) (v : Value) : Prop := w.heap[g]? = some (.cells (scs f v) 26 (0, 0))
theorem Sx.lt {w : World} {g : Nat} {f : Nat → Int} {v : Value} (h : Sx w g f v) : g < w.heap.size := (Array.getElem?_eq_some_iff.1 h).1
theorem Sx.later {w w' : World} {g : Nat} {f : Nat → Int} {v : Value} (h : Sx w g f v) (hb : Below w.heap.size w w') : Sx w' g f v := (hb.block g h.lt).trans h
theorem Sx.kept {w w' : World} {g : Nat} {f : Nat → Int} {v : Value} (h : Sx w g f v) {row : Option Nat} (hg : w.grownBy w' row) (hne : some g ≠ row) : Sx w' g f v := (hg.block g h.lt hne).trans h
theorem Sx.slot {w : World} {g : Nat} {f : Nat → Int} {v : Value} (h : Sx w g f v) : w.cell? ⟨g, 64, none⟩ = some v := (cell_of_row w g 64 _ _ _ h).trans (scs_slot f v)
theorem Sx.vec {w : World} {g : Nat} {f : Nat → Int} {v : Value} (h : Sx w g f v) : w.rangeAt g 0 (vf f).toList := fun j u hu => by
  have hj : j < 64 := by have := (List.getElem?_eq_some_iff.1 hu).1; rwa [Array.length_toList, vf_size] at this
  rw [Nat.zero_add, cell_of_row w g j _ _ _ h, scs_vec f v j hj, ← Array.getElem?_toList]; exact hu
theorem Sx.whole {w : World} {g : Nat} {f : Nat → Int} {v : Value} (h : Sx w g f v) : w.rangeAt g 0 (scs f v).toList := range_of_block h
/-- a whole variable written anew -/
theorem set_whole {w : World} {g : Nat} {old cs : Array Value} {ty : TypeId} {m : Nat × Nat} (h : w.heap[g]? = some (.cells old ty m)) (hs : old.size = cs.size) : (w.setCells g 0 cs.toList).heap[g]? = some (.cells cs ty m) := by
  rw [heap_setCells _ _ _ _ h]
  have e : setL old 0 cs.toList = cs := by
    apply Array.ext_getElem?
    intro i
    rw [setL_get _ _ _ (by rw [Array.length_toList]; omega)]
    split
    · simp
    · rename_i h1
      rw [Array.length_toList] at h1
      rw [Array.getElem?_eq_none (by omega), Array.getElem?_eq_none (by omega)]
  rw [e]
theorem exec_wstore {P : Program} {o : Oper} {a : Act} {w : World} (t : TypeId) (x y : Operand) (ho : o.op = .store t x y) (g : Nat) (hx : a.eval x = .pointer (some ⟨g, 0, none⟩)) (cs : Array Value) (hy : a.eval y = .agg cs) (hi : (P.info? t).map (·.size) = some cs.size) (h1 : ∀ v ∈ cs.toList, v.oneCell' = true)
    {old : Array Value} {ty : TypeId} (h : w.heap[g]? = some (.cells old ty (0, 0))) (hs : old.size = cs.size) :
    (execOp a.eval o).run P w = .ok .skip (w.setCells g 0 cs.toList) := by
  have ht : w.there g 0 cs.size := fun j hj => by
    rw [Nat.zero_add]
    refine ⟨?_, frozen_of_row w g j _ _ h⟩
    rw [cell_of_row w g j _ _ _ h, Array.getElem?_eq_getElem (by omega)]
    rfl
  unfold execOp
  simp only [ho, hx, hy, Sem.run_bind, run_storeAt_mid w g 0 t cs ht hi (Array.all_eq_true_iff_forall_mem.2 (fun u hu => h1 u (by simpa using hu))), Result.andThen_ok]
  rfl
theorem exec_build {P : Program} {o : Oper} {a : Act} {w : World} (t : TypeId) (parts : Array (Nat × Operand)) (ho : o.op = .build t parts) (cs : Array Value) (hb : (Instr.build t (parts.map fun (i, x) => (i, a.eval x))).run P w = .ok (.agg cs) w) :
    (execOp a.eval o).run P w = .ok (.value (.agg cs)) w := by
  unfold execOp
  simp only [ho, Sem.run_bind, hb, Result.andThen_ok]
  rfl
theorem own_keepT {w w' : World} {B0 : Nat} {ty : TypeId} {k n : Nat} {v : Value} {xs : List Value} (h : w.ownsRow B0 ty k v n xs) {g : Nat} {cs : Array Value} {T : TypeId} {m : Nat × Nat} (hg : w.heap[g]? = some (.cells cs T m)) (hne : T ≠ ty) (hw : w.grownBy w' (some g)) : w'.ownsRow B0 ty k v n xs := by
  refine h.kept hw ?_
  rcases h.2 with ⟨rfl, _⟩ | ⟨g', cap, cur, rfl, _, q3, _⟩
  · exact .inl rfl
  · right
    intro e
    have : g' = g := by simpa [Value.ownBlock] using e
    subst this
    rw [q3] at hg
    injection hg with hg
    injection hg with _ h2
    exact hne h2.symm
theorem results_cell_two {P : Program} {fn : Func} {p q : Tmp} {ty : TypeId} (h : fn.results = #[.cell p ty, .tmp q]) (tmps : Array Value) (w : World) (g : Nat) (t : TypeId) (cs : Array Value) (fr : Nat × Nat) (d : TypeDesc)
    (hp : tmps.getD p undef = .pointer (some ⟨g, 0, none⟩)) (hg : w.heap[g]? = some (.cells cs t fr))
    (hu : P.underlying ty = some d) (hd : (match d with | .struct _ | .array _ _ => true | _ => false) = true) (hi : (P.info? ty).map (·.size) = some cs.size) (u : Value) (hq : tmps.getD q undef = u) :
    (results fn tmps).run P w = .ok (.tuple #[.agg cs, u]) w := by
  subst hq
  have hp' : tmps[p]?.getD undef = .pointer (some ⟨g, 0, none⟩) := by simpa using hp
  simp [results, h, hp', asAddr, run_loadVar_row w g t ty cs fr d hg hu hd hi]
theorem fromD {w w' : World} (h : Below w.drew.heap.size w.drew w') : Below w.heap.size w w' := ⟨h.os, h.tape, h.output, h.size, h.block⟩
theorem cell_hold2 {w U : World} {a : Addr} {v : Value} (h : w.cell? a = some v) (hb : Below w.heap.size w U) : U.cell? a = some v := (hb.cell (p := a) (World.block_lt_of_cell? w _ h)).trans h
/-- what a Put writes -/
def wrote (e : Ev) : Wr := ⟨e.rep, e.n, e.time, e.doc, e.field, e.text⟩
/-- what is left of writes behind an event that takes dots away -/
def leftOf (L : List Wr) (e : Ev) : List Wr := L.filter (fun y => !decide (y.dot ∈ e.gone))
/-- a state behind an event -/
noncomputable def apErr (e : Ev) : Int := chk e
noncomputable def apSkip (F : Nat → Int) (e : Ev) : Bool := !decide (chk e = 0) || hasB F e.rep e.n
noncomputable def apSeen (F : Nat → Int) (e : Ev) : Nat → Int := if apSkip F e then F else withF F e.rep e.n
noncomputable def apLive (F : Nat → Int) (L : List Wr) (e : Ev) : List Wr := if apSkip F e then L else if e.kind = 1 then insW (leftOf L e) (wrote e) else leftOf L e
/-- a state that is handed back, and an error -/
def StR (w : World) (F : Nat → Int) (L : List Wr) (k : Int) (e : Ending) (w' : World) : Prop := ∃ v, e = .returned (.tuple #[.agg (scs F v), .int .i64 k]) ∧ w'.ownsRow w.heap.size 34 6 v L.length (wcl L) ∧ Below w.heap.size w w'
end Go.Proofs.YtdnkhcbglmfjbaaDoor
/- Rows of one's own, their things changed about. -/
namespace Go.Proofs.YtdnkhcbglmfjbaaDoor
open Go Go.RowKit
set_option linter.unusedVariables false
set_option maxRecDepth 1000000

def RowW (w : World) (B g c : Nat) (L : List Wr) : Prop := w.ownsRow B 34 6 (.slice (some ⟨g, 0, none⟩) L.length c) L.length (wcl L)
theorem RowW.at {w : World} {B g c : Nat} {L : List Wr} (h : RowW w B g c L) {i : Nat} (hi : i < L.length) : w.rangeAt g (i * 6) L[i].cells := fun j u hu => by
  have hj : j < 6 := (List.getElem?_eq_some_iff.1 hu).1
  have h1 := World.ownsRow.cellAt h (i * 6 + j) (by omega)
  rw [h1, show wcl L = L.flatMap Wr.cells from rfl, flat_get Wr.cells_len L i hi j hj]; exact hu
theorem RowW.lt {w : World} {B g c : Nat} {L : List Wr} (h : RowW w B g c L) : g < w.heap.size := (World.ownsRow.lt h g rfl).2
theorem RowW.base {w : World} {B g c : Nat} {L : List Wr} (h : RowW w B g c L) : B ≤ g := (World.ownsRow.lt h g rfl).1
theorem RowW.kept {w w' : World} {B g c : Nat} {L : List Wr} (h : RowW w B g c L) (hb : Below w.heap.size w w') : RowW w' B g c L := own_later h hb
theorem RowW.there {w : World} {B g c : Nat} {L : List Wr} (h : RowW w B g c L) {i : Nat} (hi : i < L.length) : w.there g (i * 6) 6 := fun j hj => by
  have hj2 : i * 6 + j < L.length * 6 := by omega
  refine ⟨?_, World.ownsRow.frozenAt h (i * 6 + j)⟩
  rw [World.ownsRow.cellAt h (i * 6 + j) hj2, List.getElem?_eq_getElem (by rw [wcl_length]; exact hj2)]
  rfl
theorem RowW.set {w : World} {B g c : Nat} {L : List Wr} (h : RowW w B g c L) {i : Nat} (hi : i < L.length) (y : Wr) : RowW (w.setCells g (i * 6) y.cells) B g c (L.set i y) := by
  have h1 := own_setCells y.cells w _ (i * 6) h
  rw [wcl_setLL L i hi] at h1
  unfold RowW
  rw [List.length_set]
  exact h1
theorem grBW {w w' : World} {G : Nat} (h : Below w.heap.size w w') : w.grownBy w' (some G) := ⟨h.os, h.tape, h.output, h.size, fun j hj _ => h.block j hj⟩
theorem grTW {a b c : World} {G : Nat} (h : a.grownBy b (some G)) (k : b.grownBy c (some G)) : a.grownBy c (some G) :=
  ⟨k.os.trans h.os, k.tape.trans h.tape, k.output.trans h.output, Nat.le_trans h.size k.size, fun i hi hn => (k.block i (Nat.lt_of_lt_of_le hi h.size) hn).trans (h.block i hi hn)⟩
theorem grRW (w : World) (G : Nat) : w.grownBy w (some G) := ⟨rfl, rfl, rfl, Nat.le_refl _, fun _ _ _ => rfl⟩
theorem grDW {a w : World} {G : Nat} (h : a.grownBy w (some G)) : a.grownBy w.drew (some G) := ⟨h.os, h.tape, h.output, h.size, h.block⟩
theorem sizeEW (x : Wr) : (Tryd.prog.info? 34).map (·.size) = some x.cells.length := by rw [Wr.cells_len]; kernel_rfl
theorem exec_ldW {o : Oper} {a : Act} {w : World} (x : Operand) (ho : o.op = .load 34 x) {B g c : Nat} {L : List Wr} (h : RowW w B g c L) (i : Nat) (hi : i < L.length) (X : Wr) (hX : L[i] = X) (hx : a.eval x = .pointer (some ⟨g, 0 + i * 6, none⟩)) : (execOp a.eval o).run Tryd.prog w = .ok (.value (.agg X.cells.toArray)) w := by
  subst hX
  rw [Nat.zero_add] at hx
  unfold execOp
  simp only [ho, hx]
  exact run_value_of (run_loadAt_mid w g (i * 6) 34 _ _ (h.at hi) Tryd.underlying34 rfl (sizeEW _))
theorem exec_stW {o : Oper} {a : Act} {w : World} (x y : Operand) (ho : o.op = .store 34 x y) {B g c : Nat} {L : List Wr} (h : RowW w B g c L) (i : Nat) (hi : i < L.length) (Y : Wr) (hx : a.eval x = .pointer (some ⟨g, 0 + i * 6, none⟩)) (hy : a.eval y = .agg Y.cells.toArray) : (execOp a.eval o).run Tryd.prog w = .ok .skip (w.setCells g (i * 6) Y.cells) := by
  rw [Nat.zero_add] at hx
  have h := run_storeAt_mid (P := Tryd.prog) w g (i * 6) 34 Y.cells.toArray (by rw [List.size_toArray, Wr.cells_len]; exact h.there hi) (by rw [List.size_toArray]; exact sizeEW Y) (Array.all_eq_true_iff_forall_mem.2 (fun u hu => Y.cells_one u (by simpa using hu)))
  unfold execOp
  simp only [ho, hx, hy]
  simp only [Sem.run_bind, h]
  rfl
/-- an order that a function tells -/
def TellPW (b : Bool) (w : World) (e : Ending) (w' : World) : Prop := ∃ i : Int, e = .returned (.int .i64 i) ∧ decide (i < 0) = b ∧ Below w.heap.size w w'
structure TellsW (F : FuncId) (caps : Array Value) (lt : Wr → Wr → Bool) : Prop where
  enter : ∀ args w, (callFunc F args).run Tryd.prog w = .ok (.enter F args) w
  tell : ∀ (x y : Wr) (w : World), Calls Tryd.prog F (#[.agg x.cells.toArray, .agg y.cells.toArray] ++ caps) w (TellPW (lt x y) w)
theorem exec_tellW {P : Program} {o : Oper} {a : Act} {w : World} (f : Operand) (xs : Array Operand) (tys : Array TypeId) (ho : o.op = .call { callee := .value f, args := xs, argTypes := tys }) (F : FuncId) (caps : Array Value) (hf : a.eval f = .func (.func F) #[] caps) (args AG : Array Value) (hargs : xs.map a.eval = args) (hag : args ++ caps = AG)
    (hc : (callFunc F AG).run P w = .ok (.enter F AG) w) : (execOp a.eval o).run P w = .ok (.enter F AG) w := by
  subst hag
  unfold execOp
  simp only [ho]
  unfold resolve
  simp only [hf, hargs]
  simp [Deferred.ofValue, invoke, hc, Sem.run_bind]
/-- two things changed about -/
theorem swap_mid {α : Type} (P Q R : List α) (x y : α) : ((P ++ x :: (Q ++ y :: R)).set P.length y).set (P.length + 1 + Q.length) x = P ++ y :: (Q ++ x :: R) := by
  rw [List.set_append_right _ _ (Nat.le_refl _), Nat.sub_self, List.set_cons_zero, List.set_append_right _ _ (by omega), show P.length + 1 + Q.length - P.length = Q.length + 1 by omega, List.set_cons_succ, List.set_append_right _ _ (Nat.le_refl _), Nat.sub_self, List.set_cons_zero]
theorem at_mid {α : Type} (P R : List α) (x : α) (h : P.length < (P ++ x :: R).length) : (P ++ x :: R)[P.length] = x := by simp
end Go.Proofs.YtdnkhcbglmfjbaaDoor
