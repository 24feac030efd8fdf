/- The statement DocsReads, proved for every input that its row reads: part 24 of 54. -/
import Derived.Test.YtijmijokgenflaaGreatDoorPackDocsReads22
import Derived.Test.YtijmijokgenflaaGreatDoorPackDocsReads20
import Derived.Test.YtijmijokgenflaaGreatDoorPackDocsReads19
import Derived.Test.YtijmijokgenflaaGreatDoorPackDocsReads10
import Derived.Test.YtijmijokgenflaaGreatDoorStsPlain
import Derived.Test.YtijmijokgenflaaGreatDoorPackDocsReads9
/- States by value: a vector, and writes. -/
namespace Go.Proofs.YtijmijokgenflaaGreatDoor
open Go Go.RowKit
set_option linter.unusedVariables false
set_option maxRecDepth 1000000

/-- a state's cells -/
def scs (f : Nat → Int) (v : Value) : Array Value := ((vf f).toList ++ [v]).toArray
theorem scs_size (f : Nat → Int) (v : Value) : (scs f v).size = 65 := by simp [scs, vf_size]
theorem scs_slot (f : Nat → Int) (v : Value) : (scs f v)[64]? = some v := by
  simp only [scs, List.getElem?_toArray]
  rw [List.getElem?_append_right (by rw [Array.length_toList, vf_size]; omega), Array.length_toList, vf_size]; rfl
theorem scs_vec (f : Nat → Int) (v : Value) (i : Nat) (h : i < 64) : (scs f v)[i]? = (vf f)[i]? := by
  simp only [scs, List.getElem?_toArray]
  rw [List.getElem?_append_left (by rw [Array.length_toList, vf_size]; exact h), Array.getElem?_toList]
theorem scs_congr (v : Value) {f g : Nat → Int} (h : ∀ i, i < 64 → f i = g i) : scs f v = scs g v := by rw [scs, vf_congr h, scs]
theorem scs_one (f : Nat → Int) {v : Value} (h : v.oneCell' = true) : ∀ u ∈ (scs f v).toList, u.oneCell' = true := by
  intro u hu
  simp only [scs, List.toList_toArray, List.mem_append, List.mem_singleton] at hu
  rcases hu with hu | rfl
  · have hp := pcs_oneV f (v := .slice none 0 0) ⟨none, 0, 0, rfl⟩ u
    exact hp (by simp [pcs, hu])
  · exact h
theorem sizeSt (f : Nat → Int) (v : Value) : (Tryz.prog.info? 26).map (·.size) = some (scs f v).size := by rw [scs_size]; kernel_rfl
theorem sizeStl (f : Nat → Int) (v : Value) : (Tryz.prog.info? 26).map (·.size) = some (scs f v).toList.length := by rw [Array.length_toList, scs_size]; kernel_rfl
theorem zeroSt (w : World) : (zeroValue 26).run Tryz.prog w = .ok (.agg (scs (fun _ => 0) (.slice none 0 0))) w := by kernel_rfl
theorem builtSt (f : Nat → Int) (p : Option Addr) (n c : Nat) (w : World) : (Instr.build 26 #[(0, .agg (vf f)), (1, .slice p n c)]).run Tryz.prog w = .ok (.agg (scs f (.slice p n c))) w := run_build w _ _ _ (by kernel_rfl)
theorem builtSt0 (w : World) : (Instr.build 26 #[]).run Tryz.prog w = .ok (.agg (scs (fun _ => 0) (.slice none 0 0))) w := run_build w _ _ _ (by kernel_rfl)
/-- a state in a variable of its own -/
def Sx (w : World) (g : Nat) (f : Nat → Int) (v : Value) : Prop := w.heap[g]? = some (.cells (scs f v) 26 (0, 0))
theorem Sx.lt {w : World} {g : Nat} {f : Nat → Int} {v : Value} (h : Sx w g f v) : g < w.heap.size := (Array.getElem?_eq_some_iff.1 h).1
theorem Sx.later {w w' : World} {g : Nat} {f : Nat → Int} {v : Value} (h : Sx w g f v) (hb : Below w.heap.size w w') : Sx w' g f v := (hb.block g h.lt).trans h
theorem Sx.kept {w w' : World} {g : Nat} {f : Nat → Int} {v : Value} (h : Sx w g f v) {row : Option Nat} (hg : w.grownBy w' row) (hne : some g ≠ row) : Sx w' g f v := (hg.block g h.lt hne).trans h
theorem Sx.slot {w : World} {g : Nat} {f : Nat → Int} {v : Value} (h : Sx w g f v) : w.cell? ⟨g, 64, none⟩ = some v := (cell_of_row w g 64 _ _ _ h).trans (scs_slot f v)
theorem Sx.vec {w : World} {g : Nat} {f : Nat → Int} {v : Value} (h : Sx w g f v) : w.rangeAt g 0 (vf f).toList := fun j u hu => by
  have hj : j < 64 := by have := (List.getElem?_eq_some_iff.1 hu).1; rwa [Array.length_toList, vf_size] at this
  rw [Nat.zero_add, cell_of_row w g j _ _ _ h, scs_vec f v j hj, ← Array.getElem?_toList]; exact hu
theorem Sx.whole {w : World} {g : Nat} {f : Nat → Int} {v : Value} (h : Sx w g f v) : w.rangeAt g 0 (scs f v).toList := range_of_block h
/-- a whole variable written anew -/
theorem set_whole {w : World} {g : Nat} {old cs : Array Value} {ty : TypeId} {m : Nat × Nat} (h : w.heap[g]? = some (.cells old ty m)) (hs : old.size = cs.size) : (w.setCells g 0 cs.toList).heap[g]? = some (.cells cs ty m) := by
  rw [heap_setCells _ _ _ _ h]
  have e : setL old 0 cs.toList = cs := by
    apply Array.ext_getElem?
    intro i
    rw [setL_get _ _ _ (by rw [Array.length_toList]; omega)]
    split
    · simp
    · rename_i h1
      rw [Array.length_toList] at h1
      rw [Array.getElem?_eq_none (by omega), Array.getElem?_eq_none (by omega)]
  rw [e]
theorem exec_wstore {P : Program} {o : Oper} {a : Act} {w : World} (t : TypeId) (x y : Operand) (ho : o.op = .store t x y) (g : Nat) (hx : a.eval x = .pointer (some ⟨g, 0, none⟩)) (cs : Array Value) (hy : a.eval y = .agg cs) (hi : (P.info? t).map (·.size) = some cs.size) (h1 : ∀ v ∈ cs.toList, v.oneCell' = true)
    {old : Array Value} {ty : TypeId} (h : w.heap[g]? = some (.cells old ty (0, 0))) (hs : old.size = cs.size) :
    (execOp a.eval o).run P w = .ok .skip (w.setCells g 0 cs.toList) := by
  have ht : w.there g 0 cs.size := fun j hj => by
    rw [Nat.zero_add]
    refine ⟨?_, frozen_of_row w g j _ _ h⟩
    rw [cell_of_row w g j _ _ _ h, Array.getElem?_eq_getElem (by omega)]
    rfl
  unfold execOp
  simp only [ho, hx, hy, Sem.run_bind, run_storeAt_mid w g 0 t cs ht hi (Array.all_eq_true_iff_forall_mem.2 (fun u hu => h1 u (by simpa using hu))), Result.andThen_ok]
  rfl
theorem exec_build {P : Program} {o : Oper} {a : Act} {w : World} (t : TypeId) (parts : Array (Nat × Operand)) (ho : o.op = .build t parts) (cs : Array Value) (hb : (Instr.build t (parts.map fun (i, x) => (i, a.eval x))).run P w = .ok (.agg cs) w) :
    (execOp a.eval o).run P w = .ok (.value (.agg cs)) w := by
  unfold execOp
  simp only [ho, Sem.run_bind, hb, Result.andThen_ok]
  rfl
theorem own_keepT {w w' : World} {B0 : Nat} {ty : TypeId} {k n : Nat} {v : Value} {xs : List Value} (h : w.ownsRow B0 ty k v n xs) {g : Nat} {cs : Array Value} {T : TypeId} {m : Nat × Nat} (hg : w.heap[g]? = some (.cells cs T m)) (hne : T ≠ ty) (hw : w.grownBy w' (some g)) : w'.ownsRow B0 ty k v n xs := by
  refine h.kept hw ?_
  rcases h.2 with ⟨rfl, _⟩ | ⟨g', cap, cur, rfl, _, q3, _⟩
  · exact .inl rfl
  · right
    intro e
    have : g' = g := by simpa [Value.ownBlock] using e
    subst this
    rw [q3] at hg
    injection hg with hg
    injection hg with _ h2
    exact hne h2.symm
theorem results_cell_two {P : Program} {fn : Func} {p q : Tmp} {ty : TypeId} (h : fn.results = #[.cell p ty, .tmp q]) (tmps : Array Value) (w : World) (g : Nat) (t : TypeId) (cs : Array Value) (fr : Nat × Nat) (d : TypeDesc)
    (hp : tmps.getD p undef = .pointer (some ⟨g, 0, none⟩)) (hg : w.heap[g]? = some (.cells cs t fr))
    (hu : P.underlying ty = some d) (hd : (match d with | .struct _ | .array _ _ => true | _ => false) = true) (hi : (P.info? ty).map (·.size) = some cs.size) (u : Value) (hq : tmps.getD q undef = u) :
    (results fn tmps).run P w = .ok (.tuple #[.agg cs, u]) w := by
  subst hq
  have hp' : tmps[p]?.getD undef = .pointer (some ⟨g, 0, none⟩) := by simpa using hp
  simp [results, h, hp', asAddr, run_loadVar_row w g t ty cs fr d hg hu hd hi]
theorem fromD {w w' : World} (h : Below w.drew.heap.size w.drew w') : Below w.heap.size w w' := ⟨h.os, h.tape, h.output, h.size, h.block⟩
theorem cell_hold2 {w U : World} {a : Addr} {v : Value} (h : w.cell? a = some v) (hb : Below w.heap.size w U) : U.cell? a = some v := (hb.cell (p := a) (World.block_lt_of_cell? w _ h)).trans h
/-- what a Put writes -/
def wrote (e : Ev) : Wr := ⟨e.rep, e.n, e.time, e.doc, e.field, e.text⟩
/-- what is left of writes behind an event that takes dots away -/
def leftOf (L : List Wr) (e : Ev) : List Wr := L.filter (fun y => !decide (y.dot ∈ e.gone))
/-- a state behind an event -/
noncomputable def apErr (e : Ev) : Int := chk e
noncomputable def apSkip (F : Nat → Int) (e : Ev) : Bool := !decide (chk e = 0) || hasB F e.rep e.n
noncomputable def apSeen (F : Nat → Int) (e : Ev) : Nat → Int := if apSkip F e then F else withF F e.rep e.n
noncomputable def apLive (F : Nat → Int) (L : List Wr) (e : Ev) : List Wr := if apSkip F e then L else if e.kind = 1 then insW (leftOf L e) (wrote e) else leftOf L e
/-- a state that is handed back, and an error -/
def StR (w : World) (F : Nat → Int) (L : List Wr) (k : Int) (e : Ending) (w' : World) : Prop := ∃ v, e = .returned (.tuple #[.agg (scs F v), .int .i64 k]) ∧ w'.ownsRow w.heap.size 39 6 v L.length (wcl L) ∧ Below w.heap.size w w'
end Go.Proofs.YtijmijokgenflaaGreatDoor
/- Rows of one's own, their things changed about. -/
namespace Go.Proofs.YtijmijokgenflaaGreatDoor
open Go Go.RowKit
set_option linter.unusedVariables false
set_option maxRecDepth 1000000

def RowW (w : World) (B g c : Nat) (L : List Wr) : Prop := w.ownsRow B 39 6 (.slice (some ⟨g, 0, none⟩) L.length c) L.length (wcl L)
theorem RowW.at {w : World} {B g c : Nat} {L : List Wr} (h : RowW w B g c L) {i : Nat} (hi : i < L.length) : w.rangeAt g (i * 6) L[i].cells := fun j u hu => by
  have hj : j < 6 := (List.getElem?_eq_some_iff.1 hu).1
  have h1 := World.ownsRow.cellAt h (i * 6 + j) (by omega)
  rw [h1, show wcl L = L.flatMap Wr.cells from rfl, flat_get Wr.cells_len L i hi j hj]; exact hu
theorem RowW.lt {w : World} {B g c : Nat} {L : List Wr} (h : RowW w B g c L) : g < w.heap.size := (World.ownsRow.lt h g rfl).2
theorem RowW.base {w : World} {B g c : Nat} {L : List Wr} (h : RowW w B g c L) : B ≤ g := (World.ownsRow.lt h g rfl).1
theorem RowW.kept {w w' : World} {B g c : Nat} {L : List Wr} (h : RowW w B g c L) (hb : Below w.heap.size w w') : RowW w' B g c L := own_later h hb
theorem RowW.there {w : World} {B g c : Nat} {L : List Wr} (h : RowW w B g c L) {i : Nat} (hi : i < L.length) : w.there g (i * 6) 6 := fun j hj => by
  have hj2 : i * 6 + j < L.length * 6 := by omega
  refine ⟨?_, World.ownsRow.frozenAt h (i * 6 + j)⟩
  rw [World.ownsRow.cellAt h (i * 6 + j) hj2, List.getElem?_eq_getElem (by rw [wcl_length]; exact hj2)]
  rfl
theorem RowW.set {w : World} {B g c : Nat} {L : List Wr} (h : RowW w B g c L) {i : Nat} (hi : i < L.length) (y : Wr) : RowW (w.setCells g (i * 6) y.cells) B g c (L.set i y) := by
  have h1 := own_setCells y.cells w _ (i * 6) h
  rw [wcl_setLL L i hi] at h1
  unfold RowW
  rw [List.length_set]
  exact h1
theorem grBW {w w' : World} {G : Nat} (h : Below w.heap.size w w') : w.grownBy w' (some G) := ⟨h.os, h.tape, h.output, h.size, fun j hj _ => h.block j hj⟩
theorem grTW {a b c : World} {G : Nat} (h : a.grownBy b (some G)) (k : b.grownBy c (some G)) : a.grownBy c (some G) :=
  ⟨k.os.trans h.os, k.tape.trans h.tape, k.output.trans h.output, Nat.le_trans h.size k.size, fun i hi hn => (k.block i (Nat.lt_of_lt_of_le hi h.size) hn).trans (h.block i hi hn)⟩
theorem grRW (w : World) (G : Nat) : w.grownBy w (some G) := ⟨rfl, rfl, rfl, Nat.le_refl _, fun _ _ _ => rfl⟩
theorem grDW {a w : World} {G : Nat} (h : a.grownBy w (some G)) : a.grownBy w.drew (some G) := ⟨h.os, h.tape, h.output, h.size, h.block⟩
theorem sizeEW (x : Wr) : (Tryz.prog.info? 39).map (·.size) = some x.cells.length := by rw [Wr.cells_len]; kernel_rfl
theorem exec_ldW {o : Oper} {a : Act} {w : World} (x : Operand) (ho : o.op = .load 39 x) {B g c : Nat} {L : List Wr} (h : RowW w B g c L) (i : Nat) (hi : i < L.length) (X : Wr) (hX : L[i] = X) (hx : a.eval x = .pointer (some ⟨g, 0 + i * 6, none⟩)) : (execOp a.eval o).run Tryz.prog w = .ok (.value (.agg X.cells.toArray)) w := by
  subst hX
  rw [Nat.zero_add] at hx
  unfold execOp
  simp only [ho, hx]
  exact run_value_of (run_loadAt_mid w g (i * 6) 39 _ _ (h.at hi) Tryz.underlying39 rfl (sizeEW _))
theorem exec_stW {o : Oper} {a : Act} {w : World} (x y : Operand) (ho : o.op = .store 39 x y) {B g c : Nat} {L : List Wr} (h : RowW w B g c L) (i : Nat) (hi : i < L.length) (Y : Wr) (hx : a.eval x = .pointer (some ⟨g, 0 + i * 6, none⟩)) (hy : a.eval y = .agg Y.cells.toArray) : (execOp a.eval o).run Tryz.prog w = .ok .skip (w.setCells g (i * 6) Y.cells) := by
  rw [Nat.zero_add] at hx
  have h := run_storeAt_mid (P := Tryz.prog) w g (i * 6) 39 Y.cells.toArray (by rw [List.size_toArray, Wr.cells_len]; exact h.there hi) (by rw [List.size_toArray]; exact sizeEW Y) (Array.all_eq_true_iff_forall_mem.2 (fun u hu => Y.cells_one u (by simpa using hu)))
  unfold execOp
  simp only [ho, hx, hy]
  simp only [Sem.run_bind, h]
  rfl
/-- an order that a function tells -/
def TellPW (b : Bool) (w : World) (e : Ending) (w' : World) : Prop := ∃ i : Int, e = .returned (.int .i64 i) ∧ decide (i < 0) = b ∧ Below w.heap.size w w'
structure TellsW (F : FuncId) (caps : Array Value) (lt : Wr → Wr → Bool) : Prop where
  enter : ∀ args w, (callFunc F args).run Tryz.prog w = .ok (.enter F args) w
  tell : ∀ (x y : Wr) (w : World), Calls Tryz.prog F (#[.agg x.cells.toArray, .agg y.cells.toArray] ++ caps) w (TellPW (lt x y) w)
theorem exec_tellW {P : Program} {o : Oper} {a : Act} {w : World} (f : Operand) (xs : Array Operand) (tys : Array TypeId) (ho : o.op = .call { callee := .value f, args := xs, argTypes := tys }) (F : FuncId) (caps : Array Value) (hf : a.eval f = .func (.func F) #[] caps) (args AG : Array Value) (hargs : xs.map a.eval = args) (hag : args ++ caps = AG)
    (hc : (callFunc F AG).run P w = .ok (.enter F AG) w) : (execOp a.eval o).run P w = .ok (.enter F AG) w := by
  subst hag
  unfold execOp
  simp only [ho]
  unfold resolve
  simp only [hf, hargs]
  simp [Deferred.ofValue, invoke, hc, Sem.run_bind]
/-- two things changed about -/
theorem swap_mid {α : Type} (P Q R : List α) (x y : α) : ((P ++ x :: (Q ++ y :: R)).set P.length y).set (P.length + 1 + Q.length) x = P ++ y :: (Q ++ x :: R) := by
  rw [List.set_append_right _ _ (Nat.le_refl _), Nat.sub_self, List.set_cons_zero, List.set_append_right _ _ (by omega), show P.length + 1 + Q.length - P.length = Q.length + 1 by omega, List.set_cons_succ, List.set_append_right _ _ (Nat.le_refl _), Nat.sub_self, List.set_cons_zero]
theorem at_mid {α : Type} (P R : List α) (x : α) (h : P.length < (P ++ x :: R).length) : (P ++ x :: R)[P.length] = x := by simp
end Go.Proofs.YtijmijokgenflaaGreatDoor
/- swapRangeCmpFunc: two pieces of a row, as long, changed about. -/
namespace Go.Proofs.YtijmijokgenflaaGreatDoor
open Go Go.RowKit
set_option linter.unusedVariables false
set_option maxRecDepth 1000000

/-- a row behind a call -/
def SwW (w : World) (B g c : Nat) (L : List Wr) (e : Ending) (w' : World) : Prop := e = .returned (.tuple #[]) ∧ RowW w' B g c L ∧ w.grownBy w' (some g)
theorem exec_subGW {P : Program} {o : Oper} {a : Act} (t yt : TypeId) (x y : Operand) (ho : o.op = .binOp .sub t x y yt) (X Y R : Int) (hR : IntKind.i64.wrap (X - Y) = R) (hx : a.eval x = .int .i64 X) (hy : a.eval y = .int .i64 Y) (w : World) :
    (execOp a.eval o).run P w = .ok (.value (.int .i64 R)) w := by
  subst hR
  unfold execOp
  simp only [ho, hx, hy]
  rfl
theorem swr_step {α : Type} (P X M Y S : List α) (i : Nat) (hX : i < X.length) (hY : i < Y.length) :
    ∃ Q R, P ++ (Y.take i ++ X.drop i ++ (M ++ (X.take i ++ Y.drop i ++ S))) = (P ++ Y.take i) ++ X[i] :: (Q ++ Y[i] :: R) ∧ (P ++ Y.take i).length = P.length + i ∧ P.length + i + 1 + Q.length = P.length + X.length + M.length + i ∧
      P ++ (Y.take (i + 1) ++ X.drop (i + 1) ++ (M ++ (X.take (i + 1) ++ Y.drop (i + 1) ++ S))) = (P ++ Y.take i) ++ Y[i] :: (Q ++ X[i] :: R) := by
  refine ⟨X.drop (i + 1) ++ (M ++ X.take i), Y.drop (i + 1) ++ S, ?_, by simp; omega, by simp; omega, ?_⟩
  · rw [List.drop_eq_getElem_cons hX, List.drop_eq_getElem_cons hY]; simp only [List.append_assoc, List.cons_append, List.nil_append]
  · rw [List.take_succ_eq_append_getElem hX, List.take_succ_eq_append_getElem hY]; simp only [List.append_assoc, List.cons_append, List.nil_append]
set_option maxHeartbeats 1000000 in
theorem swapRW_is (B g c N : Nat) (P X M Y S : List Wr) (a b n : Nat) (fv : Value) (w : World) (hN : (P ++ (X ++ (M ++ (Y ++ S)))).length = N) (h : RowW w B g c (P ++ (X ++ (M ++ (Y ++ S))))) (ha : a = P.length) (hb : b = P.length + X.length + M.length) (hn : n = X.length) (hXY : X.length = Y.length) (hbig : N ≤ 1000000) :
    Calls Tryz.prog 116 #[.slice (some ⟨g, 0, none⟩) N c, .int .i64 (a : Int), .int .i64 (b : Int), .int .i64 (n : Int), fv] w (SwW w B g c (P ++ (Y ++ (M ++ (X ++ S))))) := by
  have HR := Lib.hid h; have HA := Lib.hid ha; have HB := Lib.hid hb; have HN := Lib.hid hn; have HXY := Lib.hid hXY; have HL := Lib.hid hN
  have la : a + n ≤ N := by rw [← hN, ha, hn]; simp
  have lb : b + n ≤ N := by rw [← hN, hb, hn]; simp; omega
  clear h ha hb hn hXY hN
  go_enter Tryz.func116, Tryz.ntmps116
  go_wp2
  go_loopw [10] (fun v wr => ∃ i : Nat, i ≤ n ∧ v = .int .i64 i ∧ RowW wr B g c (P ++ (Y.take i ++ X.drop i ++ (M ++ (X.take i ++ Y.drop i ++ S)))) ∧ w.grownBy wr (some g)) (fun v _ => n - (RowKit.intOf v).toNat)
  case atStart => exact ⟨0, Nat.zero_le _, rfl, by simpa using HR.out, grRW _ _⟩
  case round =>
    obtain ⟨i, hi, rfl, hr, hg⟩ := hrel
    have RR := Lib.hid hr; have GR := Lib.hid hg
    clear hr hg
    by_cases hin : i < n
    · have hin' : (i : Int) < n := by omega
      obtain ⟨Q, R, e1, l1, l2, e2⟩ := swr_step P X M Y S i (by rw [← HN.out]; exact hin) (by rw [← HXY.out, ← HN.out]; exact hin)
      have E2 := Lib.hid e2
      have R0 := RR.out
      rw [e1] at R0
      obtain ⟨x, hx⟩ : ∃ x, X[i]'(by rw [← HN.out]; exact hin) = x := ⟨_, rfl⟩
      obtain ⟨y, hy⟩ : ∃ y, Y[i]'(by rw [← HXY.out, ← HN.out]; exact hin) = y := ⟨_, rfl⟩
      rw [hx, hy] at R0 E2
      obtain ⟨I, hI⟩ : ∃ I, I = a + i := ⟨_, rfl⟩
      obtain ⟨J, hJ⟩ : ∃ J, J = b + i := ⟨_, rfl⟩
      have eI : I = (P ++ Y.take i).length := by rw [l1, hI, HA.out]
      have eJ : J = (P ++ Y.take i).length + 1 + Q.length := by rw [l1, l2, hJ, HB.out]
      clear e1 e2 l1 l2 hx hy
      generalize P ++ Y.take i = PP at R0 E2 eI eJ
      obtain ⟨LL, hLL⟩ : ∃ LL, PP ++ x :: (Q ++ y :: R) = LL := ⟨_, rfl⟩
      have lLL : LL.length = N := by rw [← hLL, ← HL.out]; have := congrArg List.length E2.out; simp at this ⊢; have h3 := HXY.out; omega
      have hlI : I < LL.length := by rw [lLL]; omega
      have hlJ : J < LL.length := by rw [lLL]; omega
      have LI : LL[I]'hlI = x := by subst hLL; subst eI; simp
      have LJ : LL[J]'hlJ = y := by
        subst hLL; subst eJ
        rw [List.getElem_append_right (by omega)]
        simp [show PP.length + 1 + Q.length - PP.length = Q.length + 1 by omega]
      have SM : Hid ((LL.set I y).set J x = PP ++ y :: (Q ++ x :: R)) := Lib.hid (by rw [← hLL, eJ, eI]; exact swap_mid PP Q R x y)
      rw [hLL] at R0
      have RW0 := Lib.hid R0
      clear R0 eI eJ hLL
      go_wp2_with fail
      generalize hQ : Exit.inBlock _ _ = QX
      have RD : RowW wr.drew B g c LL := RW0.out
      have RZ := Lib.hid ((RD.set (i := I) hlI y).set (i := J) (by rw [List.length_set]; exact hlJ) x)
      have GZ := Lib.hid (grTW (grTW (grDW GR.out) (grown_setCells g y.cells wr.drew (I * 6))) (grown_setCells g x.cells _ (J * 6)))
      rw [SM.out] at RZ
      have KE : QX .normal { tmps := #[.slice (some ⟨g, 0, none⟩) N c, .int .i64 (a : Int), .int .i64 (b : Int), .int .i64 (n : Int), fv, undef, undef, undef, undef, undef, .int .i64 (i : Int), .int .i64 (i : Int), .int .i64 (n : Int), .bool true, u14, u15, .slice (some ⟨g, 0, none⟩) N c, .int .i64 (a : Int), .int .i64 (i : Int), .int .i64 ((I : Nat) : Int), .slice (some ⟨g, 0, none⟩) N c, .int .i64 (b : Int), .int .i64 (i : Int), .int .i64 ((J : Nat) : Int), .slice (some ⟨g, 0, none⟩) N c, .int .i64 (b : Int), .int .i64 (i : Int), .int .i64 ((J : Nat) : Int), .pointer (some ⟨g, 0 + J * 6, none⟩), .agg y.cells.toArray, .slice (some ⟨g, 0, none⟩) N c, .int .i64 (a : Int), .int .i64 (i : Int), .int .i64 ((I : Nat) : Int), .pointer (some ⟨g, 0 + I * 6, none⟩), .agg x.cells.toArray, .pointer (some ⟨g, 0 + I * 6, none⟩), .pointer (some ⟨g, 0 + J * 6, none⟩)], defers := [] } ((wr.drew.setCells g (I * 6) y.cells).setCells g (J * 6) x.cells) := by
        rw [← hQ]
        clear hQ
        simp only [Exit.inBlock, Exit.then]
        generalize ((wr.drew.setCells g (I * 6) y.cells).setCells g (J * 6) x.cells) = w9 at RZ GZ ⊢
        clear RD RW0 RR LI LJ
        go_wp2
        go_roundw
        case rel => exact ⟨i + 1, by omega, by go_num, by rw [E2.out]; exact RZ.out, GZ.out⟩
        case measure => simp [intOf]; omega
      refine rg_last (by kernel_rfl) rfl (S := fun _ => True) ?_
      refine rgd_pure 0 (some 16) rfl rfl (.slice (some ⟨g, 0, none⟩) N c) (by kernel_rfl) (by kernel_rfl) (by kernel_rfl) (fun _ _ _ _ h => h) (by kernel_rfl) (exec_is _ (.inl rfl) _ (by kernel_rfl)) trivial ?_
      refine rgd_pure 1 (some 17) rfl rfl (.int .i64 (a : Int)) (by kernel_rfl) (by kernel_rfl) (by kernel_rfl) (fun _ _ _ _ h => h) (by kernel_rfl) (exec_is _ (.inl rfl) _ (by kernel_rfl)) trivial ?_
      refine rgd_pure 2 (some 18) rfl rfl (.int .i64 (i : Int)) (by kernel_rfl) (by kernel_rfl) (by kernel_rfl) (fun _ _ _ _ h => h) (by kernel_rfl) (exec_is _ (.inl rfl) _ (by kernel_rfl)) trivial ?_
      refine rgd_pure 3 (some 19) rfl rfl (.int .i64 ((I : Nat) : Int)) (by kernel_rfl) (by kernel_rfl) (by kernel_rfl) (fun _ _ _ _ h => h) (by kernel_rfl) (fun w => exec_addI _ _ _ _ rfl ((a : Int)) ((i : Int)) (((I : Nat) : Int)) (by rw [IntKind.wrap_i64]; omega) (by kernel_rfl) (by kernel_rfl) w) trivial ?_
      refine rgd_pure 4 (some 20) rfl rfl (.slice (some ⟨g, 0, none⟩) N c) (by kernel_rfl) (by kernel_rfl) (by kernel_rfl) (fun _ _ _ _ h => h) (by kernel_rfl) (exec_is _ (.inl rfl) _ (by kernel_rfl)) trivial ?_
      refine rgd_pure 5 (some 21) rfl rfl (.int .i64 (b : Int)) (by kernel_rfl) (by kernel_rfl) (by kernel_rfl) (fun _ _ _ _ h => h) (by kernel_rfl) (exec_is _ (.inl rfl) _ (by kernel_rfl)) trivial ?_
      refine rgd_pure 6 (some 22) rfl rfl (.int .i64 (i : Int)) (by kernel_rfl) (by kernel_rfl) (by kernel_rfl) (fun _ _ _ _ h => h) (by kernel_rfl) (exec_is _ (.inl rfl) _ (by kernel_rfl)) trivial ?_
      refine rgd_pure 7 (some 23) rfl rfl (.int .i64 ((J : Nat) : Int)) (by kernel_rfl) (by kernel_rfl) (by kernel_rfl) (fun _ _ _ _ h => h) (by kernel_rfl) (fun w => exec_addI _ _ _ _ rfl ((b : Int)) ((i : Int)) (((J : Nat) : Int)) (by rw [IntKind.wrap_i64]; omega) (by kernel_rfl) (by kernel_rfl) w) trivial ?_
      refine rgd_pure 8 (some 24) rfl rfl (.slice (some ⟨g, 0, none⟩) N c) (by kernel_rfl) (by kernel_rfl) (by kernel_rfl) (fun _ _ _ _ h => h) (by kernel_rfl) (exec_is _ (.inl rfl) _ (by kernel_rfl)) trivial ?_
      refine rgd_pure 9 (some 25) rfl rfl (.int .i64 (b : Int)) (by kernel_rfl) (by kernel_rfl) (by kernel_rfl) (fun _ _ _ _ h => h) (by kernel_rfl) (exec_is _ (.inl rfl) _ (by kernel_rfl)) trivial ?_
      refine rgd_pure 10 (some 26) rfl rfl (.int .i64 (i : Int)) (by kernel_rfl) (by kernel_rfl) (by kernel_rfl) (fun _ _ _ _ h => h) (by kernel_rfl) (exec_is _ (.inl rfl) _ (by kernel_rfl)) trivial ?_
      refine rgd_pure 11 (some 27) rfl rfl (.int .i64 ((J : Nat) : Int)) (by kernel_rfl) (by kernel_rfl) (by kernel_rfl) (fun _ _ _ _ h => h) (by kernel_rfl) (fun w => exec_addI _ _ _ _ rfl ((b : Int)) ((i : Int)) (((J : Nat) : Int)) (by rw [IntKind.wrap_i64]; omega) (by kernel_rfl) (by kernel_rfl) w) trivial ?_
      refine rgd_pure 12 (some 28) rfl rfl (.pointer (some ⟨g, 0 + J * 6, none⟩)) (by kernel_rfl) (by kernel_rfl) (by kernel_rfl) (fun _ _ _ _ h => h) (by kernel_rfl) (fun w => exec_idxW _ _ rfl g 0 N c J (by kernel_rfl) (by kernel_rfl) (by omega) w) trivial ?_
      refine rgd_pure 14 (some 30) rfl rfl (.slice (some ⟨g, 0, none⟩) N c) (by kernel_rfl) (by kernel_rfl) (by kernel_rfl) (fun _ _ _ _ h => h) (by kernel_rfl) (exec_is _ (.inl rfl) _ (by kernel_rfl)) trivial ?_
      refine rgd_pure 15 (some 31) rfl rfl (.int .i64 (a : Int)) (by kernel_rfl) (by kernel_rfl) (by kernel_rfl) (fun _ _ _ _ h => h) (by kernel_rfl) (exec_is _ (.inl rfl) _ (by kernel_rfl)) trivial ?_
      refine rgd_pure 16 (some 32) rfl rfl (.int .i64 (i : Int)) (by kernel_rfl) (by kernel_rfl) (by kernel_rfl) (fun _ _ _ _ h => h) (by kernel_rfl) (exec_is _ (.inl rfl) _ (by kernel_rfl)) trivial ?_
      refine rgd_pure 17 (some 33) rfl rfl (.int .i64 ((I : Nat) : Int)) (by kernel_rfl) (by kernel_rfl) (by kernel_rfl) (fun _ _ _ _ h => h) (by kernel_rfl) (fun w => exec_addI _ _ _ _ rfl ((a : Int)) ((i : Int)) (((I : Nat) : Int)) (by rw [IntKind.wrap_i64]; omega) (by kernel_rfl) (by kernel_rfl) w) trivial ?_
      refine rgd_pure 18 (some 34) rfl rfl (.pointer (some ⟨g, 0 + I * 6, none⟩)) (by kernel_rfl) (by kernel_rfl) (by kernel_rfl) (fun _ _ _ _ h => h) (by kernel_rfl) (fun w => exec_idxW _ _ rfl g 0 N c I (by kernel_rfl) (by kernel_rfl) (by omega) w) trivial ?_
      refine rgd_acts 13 19 (some 29) (some 35) (by kernel_rfl) rfl rfl (by kernel_rfl) (.agg y.cells.toArray) wr.drew (exec_ldW _ rfl RD J hlJ y LJ (by kernel_rfl)) trivial rfl rfl (by kernel_rfl) (.agg x.cells.toArray) wr.drew (exec_ldW _ rfl RD I hlI x LI (by kernel_rfl)) trivial ?_ ?_
      · refine rgd_run 19 (some 35) (by kernel_rfl) rfl rfl (by kernel_rfl) (.agg x.cells.toArray) wr.drew (exec_ldW _ rfl RD I hlI x LI (by kernel_rfl)) trivial ?_
        refine rgd_pure 20 (some 36) rfl rfl (.pointer (some ⟨g, 0 + I * 6, none⟩)) (by kernel_rfl) (by kernel_rfl) (by kernel_rfl) (fun _ _ _ _ h => h) (by kernel_rfl) (fun w => exec_idxW _ _ rfl g 0 N c I (by kernel_rfl) (by kernel_rfl) (by omega) w) trivial ?_
        refine rgd_do 21 none (by kernel_rfl) rfl rfl (by kernel_rfl) (wr.drew.setCells g (I * 6) y.cells) (exec_stW _ _ rfl RD I hlI y (by kernel_rfl) (by kernel_rfl)) trivial ?_
        refine rgd_pure 22 (some 37) rfl rfl (.pointer (some ⟨g, 0 + J * 6, none⟩)) (by kernel_rfl) (by kernel_rfl) (by kernel_rfl) (fun _ _ _ _ h => h) (by kernel_rfl) (fun w => exec_idxW _ _ rfl g 0 N c J (by kernel_rfl) (by kernel_rfl) (by omega) w) trivial ?_
        refine rgd_do 23 none (by kernel_rfl) rfl rfl (by kernel_rfl) ((wr.drew.setCells g (I * 6) y.cells).setCells g (J * 6) x.cells) (exec_stW _ _ rfl (RD.set (i := I) hlI y) J (by rw [List.length_set]; exact hlJ) x (by kernel_rfl) (by kernel_rfl)) trivial ?_
        exact wpAnyH_done (by kernel_rfl) (Eq.mp (by kernel_rfl) KE) _
      · refine rgd_run 13 (some 29) (by kernel_rfl) rfl rfl (by kernel_rfl) (.agg y.cells.toArray) wr.drew (exec_ldW _ rfl RD J hlJ y LJ (by kernel_rfl)) trivial ?_
        refine rgd_pure 20 (some 36) rfl rfl (.pointer (some ⟨g, 0 + I * 6, none⟩)) (by kernel_rfl) (by kernel_rfl) (by kernel_rfl) (fun _ _ _ _ h => h) (by kernel_rfl) (fun w => exec_idxW _ _ rfl g 0 N c I (by kernel_rfl) (by kernel_rfl) (by omega) w) trivial ?_
        refine rgd_do 21 none (by kernel_rfl) rfl rfl (by kernel_rfl) (wr.drew.setCells g (I * 6) y.cells) (exec_stW _ _ rfl RD I hlI y (by kernel_rfl) (by kernel_rfl)) trivial ?_
        refine rgd_pure 22 (some 37) rfl rfl (.pointer (some ⟨g, 0 + J * 6, none⟩)) (by kernel_rfl) (by kernel_rfl) (by kernel_rfl) (fun _ _ _ _ h => h) (by kernel_rfl) (fun w => exec_idxW _ _ rfl g 0 N c J (by kernel_rfl) (by kernel_rfl) (by omega) w) trivial ?_
        refine rgd_do 23 none (by kernel_rfl) rfl rfl (by kernel_rfl) ((wr.drew.setCells g (I * 6) y.cells).setCells g (J * 6) x.cells) (exec_stW _ _ rfl (RD.set (i := I) hlI y) J (by rw [List.length_set]; exact hlJ) x (by kernel_rfl) (by kernel_rfl)) trivial ?_
        exact wpAnyH_done (by kernel_rfl) (Eq.mp (by kernel_rfl) KE) _

    · obtain rfl : i = n := by omega
      have hin' : ¬ ((i : Nat) : Int) < i := by omega
      have RF : Hid (RowW wr B g c (P ++ (Y ++ (M ++ (X ++ S))))) := Lib.hid (by
        have := RR.out
        rw [List.take_of_length_le (l := Y) (by rw [← HXY.out, ← HN.out]; exact Nat.le_refl _), List.take_of_length_le (l := X) (by rw [← HN.out]; exact Nat.le_refl _), List.drop_of_length_le (l := X) (by rw [← HN.out]; exact Nat.le_refl _), List.drop_of_length_le (l := Y) (by rw [← HXY.out, ← HN.out]; exact Nat.le_refl _)] at this
        simpa using this)
      clear RR HN HA HB HXY HL HR
      go_wp2
      exact bodyPost_end (results_none rfl _ _ _) rfl ⟨rfl, RF.out, GR.out⟩
end Go.Proofs.YtijmijokgenflaaGreatDoor
/- docs.Apply of any state and any event. -/
namespace Go.Proofs.YtijmijokgenflaaGreatDoor
open Go Go.RowKit
set_option linter.unusedVariables false
set_option maxRecDepth 1000000

set_option maxHeartbeats 8000000 in
theorem apply_is (F : Nat → Int) (p : Option Addr) (c : Nat) (L : List Wr) (x : EvP) (w : World) (h : WrsAt w p L) (ho : ∀ a, p = some a → ∃ b o, a = ⟨b, o, none⟩) (hn : L.length ≤ 9000) (hx : x.Ok w) (hT : Shapes w) (hg : x.e.gone.length ≤ 1000) :
    Calls Tryz.prog 24 #[.agg (scs F (.slice p L.length c)), .agg x.cells.toArray] w (StR w (apSeen F x.e) (apLive F L x.e) (chk x.e)) := by
  have HW := Lib.hid h; have HP := Lib.hid ho; have HX := Lib.hid hx; have HT := Lib.hid hT
  clear h ho hx hT
  have SZ := Lib.hid (sizeEv x)
  obtain ⟨FS, hFS⟩ : ∃ X, apSeen F x.e = X := ⟨_, rfl⟩
  obtain ⟨LL, hLL⟩ : ∃ X, apLive F L x.e = X := ⟨_, rfl⟩
  obtain ⟨X, hX⟩ : ∃ X, chk x.e = X := ⟨_, rfl⟩
  have CK := Lib.hid (fun (V : World) (hV : Below w.heap.size w V) => check_is x V ⟨HX.out.1.below hV, HX.out.2⟩ (HT.out.below hV))
  rw [hX] at CK
  rw [hFS, hLL, hX]
  have HFS := Lib.hid hFS; have HLL := Lib.hid hLL; have HCX := Lib.hid hX
  clear hFS hLL hX
  go_enter Tryz.func24, Tryz.ntmps24
  go_wp2_with (refine wpList_gbox rfl _ rfl (scs F (.slice p L.length c)) rfl ?_)
  intro g2 w1 l2 h2 hb1
  have S1 : Hid (Sx w1 g2 F (.slice p L.length c)) := Lib.hid h2
  have B1 := Lib.hid hb1
  clear h2 hb1
  go_wp2_with (refine wpList_gbox rfl _ rfl x.cells.toArray rfl ?_)
  intro g3 w2 l3 h3 hb2
  have S2 := Lib.hid (S1.out.later hb2); have B2 := Lib.hid (thenBelow B1.out hb2); have X2 := Lib.hid h3
  have n23 : g2 < g3 := Nat.lt_of_lt_of_le S1.out.lt l3
  clear h3 hb2 S1
  go_wp2_with (refine wpList_galloc _ zeroSt rfl rfl ?_)
  intro g4 w3 l4 h4 hb3
  have S3 := Lib.hid (S2.out.later hb3); have B3 := Lib.hid (thenBelow B2.out hb3)
  have X3 := Lib.hid ((hb3.block g3 (Array.getElem?_eq_some_iff.1 X2.out).1).trans X2.out)
  have Z3 : Hid (Sx w3 g4 (fun _ => 0) (.slice none 0 0)) := Lib.hid h4
  have n34 : g3 < g4 := Nat.lt_of_lt_of_le (Array.getElem?_eq_some_iff.1 X2.out).1 l4
  have lw4 : w.heap.size ≤ g4 := Nat.le_trans B2.out.size l4
  clear h4 hb3 S2 X2
  have RX : Hid (∀ V : World, Below w3.heap.size w3 V → V.rangeAt g3 0 x.cells) := Lib.hid fun V hV => range_below (by simpa using range_of_block X3.out) hV
  go_wp2_with (refine wpList_gload rfl _ rfl g3 0 rfl _ (RX.out w3 (Below.refl _ _)) _ Tryz.underlying55 rfl SZ.out ?_)
  refine (CK.out w3 B3.out).mono ?_
  rintro e w4 ⟨rfl, hb4⟩
  have S4 := Lib.hid (S3.out.later hb4); have B4 := Lib.hid (thenBelow B3.out hb4); have Z4 := Lib.hid (Z3.out.later hb4); have BX4 := Lib.hid hb4
  have X4 := Lib.hid ((hb4.block g3 (Array.getElem?_eq_some_iff.1 X3.out).1).trans X3.out)
  clear hb4 CK
  by_cases hX0 : X = 0
  · subst hX0
    have HS := Lib.hid (fun V : World => has_is F x.e.rep x.e.n V)
    have HFR : Hid (x.e = x.e) := Lib.hid rfl
    clear HFR
    obtain ⟨hb, hhb⟩ : ∃ hb, hasB F x.e.rep x.e.n = hb := ⟨_, rfl⟩
    rw [hhb] at HS
    have HHB := Lib.hid hhb
    clear hhb
    have SK : Hid (apSkip F x.e = hb) := Lib.hid (by unfold apSkip; rw [HHB.out, HCX.out]; simp)
    cases hb with
    | true =>
      have HFE : Hid (FS = F) := Lib.hid (by rw [← HFS.out]; unfold apSeen; rw [SK.out]; rfl)
      have HLE : Hid (LL = L) := Lib.hid (by rw [← HLL.out]; unfold apLive; rw [SK.out]; rfl)
      obtain ⟨k0, k1, k2, k3, k4, k5, k6, k7⟩ := ev_cells (RX.out w4 BX4.out)
      simp only [Nat.zero_add] at k0 k1 k2 k3 k4 k5 k6 k7
      clear HFS HLL HCX HHB SK RX SZ
      obtain ⟨⟨r, n, t, kd, d, fl, tx, gn⟩, gp, gc⟩ := x
      simp only at HS k0 k1 k2 k3 k4 k5 k6 k7
      have SV := Lib.hid (S4.out.vec)
      go_wp2_with (refine wpList_gloadG (by rfl) _ rfl g2 0 rfl _ SV.out _ Tryz.underlying23 rfl (sizeVcl F) ?_)
      refine (HS.out w4).mono ?_
      rintro e w5 ⟨rfl, hb5⟩
      have S5 := Lib.hid (S4.out.later hb5); have B5 := Lib.hid (thenBelow B4.out hb5); have Z5 := Lib.hid (Z4.out.later hb5)
      clear hb5 k0 k1 k2 k3 k4 k5 k6 k7 SV HS
      go_wp2_with fail
      rename_i K3 hK3
      have m0 : Sx w5.drew g2 F (.slice p L.length c) := S5.out
      refine rg_calm (by kernel_rfl) rfl (S := fun U => Sx U g2 F (.slice p L.length c)) ?_
      refine rgd_pure 0 (some 19) rfl rfl (.pointer (some ⟨g2, 0, none⟩)) (by kernel_rfl) (by kernel_rfl) (by kernel_rfl) (fun _ _ _ _ h => h) (by kernel_rfl) (fun w => by kernel_rfl) m0 ?_
      refine rgd_pureS 1 (some 20) rfl rfl (.agg (vf F)) (by kernel_rfl) (by kernel_rfl) (by kernel_rfl) (fun _ _ _ _ h => h) (by kernel_rfl) (fun U hU => exec_gload 23 _ rfl g2 0 (by kernel_rfl) _ (Sx.vec hU) Tryz.underlying23 rfl (sizeVcl F)) m0 ?_
      refine rgd_pure 2 (some 21) rfl rfl (.pointer (some ⟨g2, 64, none⟩)) (by kernel_rfl) (by kernel_rfl) (by kernel_rfl) (fun _ _ _ _ h => h) (by kernel_rfl) (fun w => by kernel_rfl) m0 ?_
      refine rgd_pureS 3 (some 22) rfl rfl (.slice p L.length c) (by kernel_rfl) (by kernel_rfl) (by kernel_rfl) (fun _ _ _ _ h => h) (by kernel_rfl) (fun U hU => exec_load1 _ _ rfl Tryz.underlying24 rfl ⟨g2, 64, none⟩ _ (by kernel_rfl) (Sx.slot hU)) m0 ?_
      refine rgd_pure 6 (some 25) rfl rfl (.int .i64 0) (by kernel_rfl) (by kernel_rfl) (by kernel_rfl) (fun _ _ _ _ h => h) (by kernel_rfl) (fun w => by kernel_rfl) m0 ?_
      refine rgd_call 4 (some 23) (by kernel_rfl) rfl rfl (by kernel_rfl) 36 (#[.slice p L.length c]) (by kernel_rfl) (cloneW_is p c L _ (HW.out.below (thenBelow B5.out (to_drew (Below.refl _ _)))) HP.out (by omega)) ?_
      rintro e U1 ⟨v1, rfl, o1, b1⟩
      obtain ⟨p1, c1, hv1, _⟩ := own_wat o1
      subst hv1
      have z1 : Sx U1 g4 (fun _ => 0) (.slice none 0 0) := Sx.later (w := w5.drew) Z5.out b1
      have m1 : Sx U1 g2 F (.slice p L.length c) := Sx.later (w := w5.drew) S5.out b1
      refine ⟨_, rfl, m1, ?_⟩
      have BU1 := Lib.hid (thenBelow B5.out (fromD b1))
      refine rgd_pure 5 (some 24) rfl rfl (.agg (scs F (.slice p1 L.length c1))) (by kernel_rfl) (by kernel_rfl) (by kernel_rfl) (fun _ _ _ _ h => h) (by kernel_rfl) (fun w => exec_build _ _ rfl _ (by simp only [List.map_toArray, List.map_cons, List.map_nil]; exact builtSt F p1 L.length c1 w)) m1 ?_
      have z2 := set_whole z1 (cs := scs F (.slice p1 L.length c1)) (by rw [scs_size, scs_size])
      have gz := grown_setCells g4 (scs F (.slice p1 L.length c1)).toList U1 0
      have m2 := m1.kept gz (by simp; omega)
      have o2 := own_keepT o1 z1 (by decide) gz
      have b2 := BU1.out.trans (grown_below gz BU1.out.size lw4)
      refine rgd_do 7 none (by kernel_rfl) rfl rfl (by kernel_rfl) _ (exec_wstore 26 _ _ rfl g4 (by kernel_rfl) (scs F (.slice p1 L.length c1)) (by kernel_rfl) (sizeSt _ _) (scs_one F rfl) z1 (by rw [scs_size, scs_size])) m2 ?_
      refine rgd_pure 8 (some 5) rfl rfl (.int .i64 0) (by kernel_rfl) (by kernel_rfl) (by kernel_rfl) (fun _ _ _ _ h => h) (by kernel_rfl) (fun w => by kernel_rfl) m2 ?_
      generalize U1.setCells g4 0 (scs F (.slice p1 L.length c1)).toList = U2 at z2 m2 o2 b2 ⊢
      have KE : K3 { tmps := #[.agg (scs F (.slice p L.length c)), .agg (EvP.cells ⟨⟨r, n, t, kd, d, fl, tx, gn⟩, gp, gc⟩).toArray, .pointer (some ⟨g2, 0, none⟩), .pointer (some ⟨g3, 0, none⟩), .pointer (some ⟨g4, 0, none⟩), .int .i64 0, .int .i64 0, undef, .agg (EvP.cells ⟨⟨r, n, t, kd, d, fl, tx, gn⟩, gp, gc⟩).toArray, .int .i64 0, .int .i64 0, .bool false, .bool false, .pointer (some ⟨g2, 0, none⟩), .agg (vf F), .pointer (some ⟨g3, 0, none⟩), .agg #[.int .i64 r, .int .i64 n], .bool true, .bool true, .pointer (some ⟨g2, 0, none⟩), .agg (vf F), .pointer (some ⟨g2, 64, none⟩), .slice p L.length c, .slice p1 L.length c1, .agg (scs F (.slice p1 L.length c1)), .int .i64 0, undef, undef, undef, undef, undef, undef, undef, undef, undef, undef, undef, undef, undef, undef, undef, undef, undef, undef, undef, undef, undef, undef, undef, undef, undef, undef, undef], defers := [] } U2 := by
        refine hK3 _ _ ?_
        have FO := Lib.hid (own_base o2 (show w.heap.size ≤ w5.drew.heap.size from B5.out.size)); have FB := Lib.hid b2; have FZ := Lib.hid z2
        clear hK3 m0 m1 m2 z1 z2 gz o1 o2 b1 b2
        go_wp2
        exact bodyPost_ret (v := .tuple #[.agg (scs F (.slice p1 L.length c1)), .int .i64 0]) (results_cell_two (p := 4) (q := 5) rfl _ U2 g4 _ _ (0, 0) _ rfl FZ.out Tryz.underlying26 rfl (sizeSt _ _) (.int .i64 0) rfl) rfl ⟨_, by rw [HFE.out], by rw [HLE.out]; exact FO.out, FB.out⟩
      exact wpAnyH_done (by kernel_rfl) (Eq.mp (by kernel_rfl) KE) _
    | false =>
      have HFE : Hid (FS = withF F x.e.rep x.e.n) := Lib.hid (by rw [← HFS.out]; unfold apSeen; rw [SK.out]; rfl)
      have HLE : Hid (LL = if x.e.kind = 1 then insW (leftOf L x.e) (wrote x.e) else leftOf L x.e) := Lib.hid (by rw [← HLL.out]; unfold apLive; rw [SK.out]; rfl)
      have WI := Lib.hid (fun V : World => with_is F x.e.rep x.e.n V)
      obtain ⟨k0, k1, k2, k3, k4, k5, k6, k7⟩ := ev_cells (RX.out w4 BX4.out)
      simp only [Nat.zero_add] at k0 k1 k2 k3 k4 k5 k6 k7
      clear HFS HLL HCX HHB SK SZ
      have SV := Lib.hid (S4.out.vec)
      have WO : Hid (∀ V : World, Below w4.heap.size w4 V → Calls Tryz.prog 27 #[.slice p L.length c, .func (.func 50) #[] #[.pointer (some ⟨g3, 0, none⟩)]] V (LeftW V (leftOf L x.e))) := Lib.hid fun V hV =>
        withoutW_is 50 #[.pointer (some ⟨g3, 0, none⟩)] (goneW x) (fun U => Below V.heap.size V U) p c L V (apply_tells g3 x V.heap.size V hg ⟨RX.out V (thenBelow BX4.out hV), ⟨HX.out.1.below (thenBelow B4.out hV), HX.out.2⟩⟩ rfl) (Below.refl _ _) (HW.out.below (thenBelow B4.out hV)) HP.out (by omega)
      have EVC : Hid (∀ V : World, Below w4.heap.size w4 V → V.rangeAt g3 0 x.cells) := Lib.hid fun V hV => RX.out V (thenBelow BX4.out hV)
      have nLO : (leftOf L x.e).length ≤ 9000 := by
        unfold leftOf
        have := List.length_filter_le (fun y : Wr => !decide (y.dot ∈ x.e.gone)) L
        omega
      obtain ⟨LO, hLO⟩ : ∃ X, leftOf L x.e = X := ⟨_, rfl⟩
      rw [hLO] at HLE WO nLO
      clear hLO RX hg HT HX
      obtain ⟨⟨r, n, t, kd, d, fl, tx, gn⟩, gp, gc⟩ := x
      simp only at HS k0 k1 k2 k3 k4 k5 k6 k7 HFE HLE WI
      go_wp2_with (refine wpList_gloadG (by rfl) _ rfl g2 0 rfl _ SV.out _ Tryz.underlying23 rfl (sizeVcl F) ?_)
      refine (HS.out w4).mono ?_
      rintro e w5 ⟨rfl, hb5⟩
      have S5 := Lib.hid (S4.out.later hb5); have B5 := Lib.hid (thenBelow B4.out hb5); have Z5 := Lib.hid (Z4.out.later hb5); have BH5 := Lib.hid hb5
      clear hb5 k0 k1 k2 k3 k4 k5 k6 k7 SV HS
      have s5 := S5.out.slot
      go_wp2_with fail
      refine (WO.out w5 BH5.out).mono ?_
      rintro e w6 ⟨v6, rfl, o6, b6⟩
      obtain ⟨p6, c6, hv6, _⟩ := own_wat o6
      subst hv6
      have S6 := Lib.hid (S5.out.later b6); have B6 := Lib.hid (thenBelow B5.out b6); have Z6 := Lib.hid (Z5.out.later b6); have BH6 := Lib.hid (thenBelow BH5.out b6)
      have O6 := Lib.hid o6; have BB6 := Lib.hid b6
      clear o6 b6 s5 WO
      obtain ⟨k0, k1, k2, k3, k4, k5, k6, k7⟩ := ev_cells (EVC.out w6 BH6.out)
      simp only [Nat.zero_add] at k0 k1 k2 k3 k4 k5 k6 k7
      have SV6 := Lib.hid (S6.out.vec)
      by_cases hk : kd = 1
      · subst hk
        have HLE' : Hid (LL = insW LO (wrote ⟨r, n, t, 1, d, fl, tx, gn⟩)) := Lib.hid (by rw [HLE.out, if_pos rfl])
        have IN := Lib.hid (docInsert_is w5.heap.size p6 c6 LO (wrote ⟨r, n, t, 1, d, fl, tx, gn⟩) w6 O6.out BB6.out.size (by omega))
        have BW : ∀ V : World, (Instr.build 39 #[(0, .agg #[.int .i64 r, .int .i64 n]), (1, .int .i64 t), (2, .string d), (3, .int .i64 fl), (4, .string tx)]).run Tryz.prog V = .ok (.agg (wrote ⟨r, n, t, 1, d, fl, tx, gn⟩).cells.toArray) V := fun V => run_build V _ _ _ (by kernel_rfl)
        go_wp2_with (refine wpList_pbuild (by rfl) _ rfl (wrote ⟨r, n, t, 1, d, fl, tx, gn⟩).cells.toArray (by simp only [List.map_toArray, List.map_cons, List.map_nil]; exact BW _) ?_)
        refine IN.out.mono ?_
        rintro e w7 ⟨v7, rfl, o7, b7⟩
        obtain ⟨p7, c7, hv7, _⟩ := own_wat o7
        subst hv7
        have z5 := BB6.out.size
        have S7 := Lib.hid (show Sx w7 g2 F (.slice p L.length c) from (b7.block g2 S5.out.lt).trans S6.out); have Z7 := Lib.hid (show Sx w7 g4 (fun _ => 0) (.slice none 0 0) from (b7.block g4 Z5.out.lt).trans Z6.out)
        have BW7 : Hid (Below w5.heap.size w5 w7) := Lib.hid (BB6.out.trans b7)
        have O7 := Lib.hid o7
        clear o7 b7 IN BW k0 k1 k2 k3 k4 k5 k6 k7 SV6 O6 S6 Z6
        obtain ⟨k0, k1, k2, k3, k4, k5, k6, k7⟩ := ev_cells (EVC.out w7 (thenBelow BH5.out BW7.out))
        simp only [Nat.zero_add] at k0 k1 k2 k3 k4 k5 k6 k7
        have SV7 := Lib.hid (S7.out.vec)
        go_wp2_with (refine wpList_gload rfl _ rfl g2 0 rfl _ SV7.out _ Tryz.underlying23 rfl (sizeVcl F) ?_)
        refine (WI.out w7).mono ?_
        rintro e w8 ⟨rfl, b8⟩
        have S8 := Lib.hid (S7.out.later b8); have Z8 := Lib.hid (Z7.out.later b8)
        have BW8 := Lib.hid (thenBelow BW7.out b8)
        have O8 := Lib.hid (own_later O7.out b8)
        obtain ⟨G, hG⟩ : ∃ G, withF F r n = G := ⟨_, rfl⟩
        rw [hG] at HFE ⊢
        clear hG
        clear b8 WI k0 k1 k2 k3 k4 k5 k6 k7 SV7
        go_wp2_with (first | refine wpList_pbuild (by rfl) _ rfl (scs G (.slice p7 (insW LO (wrote ⟨r, n, t, 1, d, fl, tx, gn⟩)).length c7)) (by simp only [List.map_toArray, List.map_cons, List.map_nil]; exact builtSt G _ _ _ _) ?_ | refine wpList_gstore rfl _ _ rfl g4 rfl (scs G (.slice p7 (insW LO (wrote ⟨r, n, t, 1, d, fl, tx, gn⟩)).length c7)) rfl _ _ Z8.out (sizeSt _ _) (by rw [scs_size, scs_size]) (scs_one G rfl) ?_)
        intro w9 h9 g9
        have H9 := Lib.hid h9
        have O9 := Lib.hid (own_base (own_keepT O8.out Z8.out (by decide) g9) (show w.heap.size ≤ w5.heap.size from B5.out.size))
        have B9 := Lib.hid ((B5.out.trans (BW8.out.mono B5.out.size)).trans (grown_below g9 (Nat.le_trans B5.out.size BW8.out.size) lw4))
        clear h9 g9
        go_wp2
        exact bodyPost_ret (v := .tuple #[.agg (scs G (.slice p7 (insW LO (wrote ⟨r, n, t, 1, d, fl, tx, gn⟩)).length c7)), .int .i64 0]) (results_cell_two (p := 4) (q := 5) rfl _ w9 g4 _ _ (0, 0) _ rfl H9.out Tryz.underlying26 rfl (sizeSt _ _) (.int .i64 0) rfl) rfl ⟨_, by rw [HFE.out], by rw [HLE'.out]; exact O9.out, B9.out⟩
      · have hk' : (kd == 1) = false := by simp [hk]
        have HLE' : Hid (LL = LO) := Lib.hid (by rw [HLE.out, if_neg hk])
        clear hk
        have S7 := S6; have Z7 := Z6
        have BW7 : Hid (Below w5.heap.size w5 w6) := BB6
        have O7 := O6
        obtain ⟨k0, k1, k2, k3, k4, k5, k6, k7⟩ := ev_cells (EVC.out w6 (thenBelow BH5.out BW7.out))
        simp only [Nat.zero_add] at k0 k1 k2 k3 k4 k5 k6 k7
        have SV7 := Lib.hid (S7.out.vec)
        go_wp2_with (refine wpList_gload rfl _ rfl g2 0 rfl _ SV7.out _ Tryz.underlying23 rfl (sizeVcl F) ?_)
        refine (WI.out w6).mono ?_
        rintro e w8 ⟨rfl, b8⟩
        have S8 := Lib.hid (S7.out.later b8); have Z8 := Lib.hid (Z7.out.later b8)
        have BW8 := Lib.hid (thenBelow BW7.out b8)
        have O8 := Lib.hid (own_later O7.out b8)
        obtain ⟨G, hG⟩ : ∃ G, withF F r n = G := ⟨_, rfl⟩
        rw [hG] at HFE ⊢
        clear hG
        clear b8 WI k0 k1 k2 k3 k4 k5 k6 k7 SV7
        go_wp2_with (first | refine wpList_pbuild (by rfl) _ rfl (scs G (.slice p6 LO.length c6)) (by simp only [List.map_toArray, List.map_cons, List.map_nil]; exact builtSt G _ _ _ _) ?_ | refine wpList_gstore rfl _ _ rfl g4 rfl (scs G (.slice p6 LO.length c6)) rfl _ _ Z8.out (sizeSt _ _) (by rw [scs_size, scs_size]) (scs_one G rfl) ?_)
        intro w9 h9 g9
        have H9 := Lib.hid h9
        have O9 := Lib.hid (own_base (own_keepT O8.out Z8.out (by decide) g9) (show w.heap.size ≤ w5.heap.size from B5.out.size))
        have B9 := Lib.hid ((B5.out.trans (BW8.out.mono B5.out.size)).trans (grown_below g9 (Nat.le_trans B5.out.size BW8.out.size) lw4))
        clear h9 g9
        go_wp2
        exact bodyPost_ret (v := .tuple #[.agg (scs G (.slice p6 LO.length c6)), .int .i64 0]) (results_cell_two (p := 4) (q := 5) rfl _ w9 g4 _ _ (0, 0) _ rfl H9.out Tryz.underlying26 rfl (sizeSt _ _) (.int .i64 0) rfl) rfl ⟨_, by rw [HFE.out], by rw [HLE'.out]; exact O9.out, B9.out⟩
  · have hXn : (X != 0) = true := by simpa using hX0
    have SK : Hid (apSkip F x.e = true) := Lib.hid (by unfold apSkip; rw [HCX.out]; simp [hX0])
    have HFE : Hid (FS = F) := Lib.hid (by rw [← HFS.out]; unfold apSeen; rw [SK.out]; rfl)
    have HLE : Hid (LL = L) := Lib.hid (by rw [← HLL.out]; unfold apLive; rw [SK.out]; rfl)
    clear HFS HLL HCX SK RX SZ hX0
    go_wp2_with fail
    rename_i K3 hK3
    have m0 : Sx w4.drew g2 F (.slice p L.length c) := S4.out
    refine rg_calm (by kernel_rfl) rfl (S := fun U => Sx U g2 F (.slice p L.length c)) ?_
    refine rgd_pure 0 (some 19) rfl rfl (.pointer (some ⟨g2, 0, none⟩)) (by kernel_rfl) (by kernel_rfl) (by kernel_rfl) (fun _ _ _ _ h => h) (by kernel_rfl) (fun w => by kernel_rfl) m0 ?_
    refine rgd_pureS 1 (some 20) rfl rfl (.agg (vf F)) (by kernel_rfl) (by kernel_rfl) (by kernel_rfl) (fun _ _ _ _ h => h) (by kernel_rfl) (fun U hU => exec_gload 23 _ rfl g2 0 (by kernel_rfl) _ (Sx.vec hU) Tryz.underlying23 rfl (sizeVcl F)) m0 ?_
    refine rgd_pure 2 (some 21) rfl rfl (.pointer (some ⟨g2, 64, none⟩)) (by kernel_rfl) (by kernel_rfl) (by kernel_rfl) (fun _ _ _ _ h => h) (by kernel_rfl) (fun w => by kernel_rfl) m0 ?_
    refine rgd_pureS 3 (some 22) rfl rfl (.slice p L.length c) (by kernel_rfl) (by kernel_rfl) (by kernel_rfl) (fun _ _ _ _ h => h) (by kernel_rfl) (fun U hU => exec_load1 _ _ rfl Tryz.underlying24 rfl ⟨g2, 64, none⟩ _ (by kernel_rfl) (Sx.slot hU)) m0 ?_
    refine rgd_pure 6 (some 25) rfl rfl (.int .i64 X) (by kernel_rfl) (by kernel_rfl) (by kernel_rfl) (fun _ _ _ _ h => h) (by kernel_rfl) (fun w => by kernel_rfl) m0 ?_
    refine rgd_call 4 (some 23) (by kernel_rfl) rfl rfl (by kernel_rfl) 36 (#[.slice p L.length c]) (by kernel_rfl) (cloneW_is p c L _ (HW.out.below (thenBelow B4.out (to_drew (Below.refl _ _)))) HP.out (by omega)) ?_
    rintro e U1 ⟨v1, rfl, o1, b1⟩
    obtain ⟨p1, c1, hv1, _⟩ := own_wat o1
    subst hv1
    have z1 : Sx U1 g4 (fun _ => 0) (.slice none 0 0) := Sx.later (w := w4.drew) Z4.out b1
    have m1 : Sx U1 g2 F (.slice p L.length c) := Sx.later (w := w4.drew) S4.out b1
    refine ⟨_, rfl, m1, ?_⟩
    have BU1 := Lib.hid (thenBelow B4.out (fromD b1))
    refine rgd_pure 5 (some 24) rfl rfl (.agg (scs F (.slice p1 L.length c1))) (by kernel_rfl) (by kernel_rfl) (by kernel_rfl) (fun _ _ _ _ h => h) (by kernel_rfl) (fun w => exec_build _ _ rfl _ (by simp only [List.map_toArray, List.map_cons, List.map_nil]; exact builtSt F p1 L.length c1 w)) m1 ?_
    have z2 := set_whole z1 (cs := scs F (.slice p1 L.length c1)) (by rw [scs_size, scs_size])
    have gz := grown_setCells g4 (scs F (.slice p1 L.length c1)).toList U1 0
    have m2 := m1.kept gz (by simp; omega)
    have o2 := own_keepT o1 z1 (by decide) gz
    have b2 := BU1.out.trans (grown_below gz BU1.out.size lw4)
    refine rgd_do 7 none (by kernel_rfl) rfl rfl (by kernel_rfl) _ (exec_wstore 26 _ _ rfl g4 (by kernel_rfl) (scs F (.slice p1 L.length c1)) (by kernel_rfl) (sizeSt _ _) (scs_one F rfl) z1 (by rw [scs_size, scs_size])) m2 ?_
    refine rgd_pure 8 (some 5) rfl rfl (.int .i64 X) (by kernel_rfl) (by kernel_rfl) (by kernel_rfl) (fun _ _ _ _ h => h) (by kernel_rfl) (fun w => by kernel_rfl) m2 ?_
    generalize U1.setCells g4 0 (scs F (.slice p1 L.length c1)).toList = U2 at z2 m2 o2 b2 ⊢
    have KE : K3 { tmps := #[.agg (scs F (.slice p L.length c)), .agg x.cells.toArray, .pointer (some ⟨g2, 0, none⟩), .pointer (some ⟨g3, 0, none⟩), .pointer (some ⟨g4, 0, none⟩), .int .i64 X, .int .i64 X, undef, .agg x.cells.toArray, .int .i64 X, .int .i64 X, .bool true, .bool true, undef, undef, undef, undef, undef, .bool true, .pointer (some ⟨g2, 0, none⟩), .agg (vf F), .pointer (some ⟨g2, 64, none⟩), .slice p L.length c, .slice p1 L.length c1, .agg (scs F (.slice p1 L.length c1)), .int .i64 X, undef, undef, undef, undef, undef, undef, undef, undef, undef, undef, undef, undef, undef, undef, undef, undef, undef, undef, undef, undef, undef, undef, undef, undef, undef, undef, undef], defers := [] } U2 := by
      refine hK3 _ _ ?_
      have FO := Lib.hid (own_base o2 (show w.heap.size ≤ w4.drew.heap.size from B4.out.size)); have FB := Lib.hid b2; have FZ := Lib.hid z2
      clear hK3 m0 m1 m2 z1 z2 gz o1 o2 b1 b2
      go_wp2
      exact bodyPost_ret (v := .tuple #[.agg (scs F (.slice p1 L.length c1)), .int .i64 X]) (results_cell_two (p := 4) (q := 5) rfl _ U2 g4 _ _ (0, 0) _ rfl FZ.out Tryz.underlying26 rfl (sizeSt _ _) (.int .i64 X) rfl) rfl ⟨_, by rw [HFE.out], by rw [HLE.out]; exact FO.out, FB.out⟩
    exact wpAnyH_done (by kernel_rfl) (Eq.mp (by kernel_rfl) KE) _
end Go.Proofs.YtijmijokgenflaaGreatDoor
