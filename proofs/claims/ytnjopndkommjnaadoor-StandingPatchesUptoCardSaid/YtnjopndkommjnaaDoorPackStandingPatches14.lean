/- The statement StandingPatches, proved for every input that its row reads: part 14 of 54. -/
import Derived.Test.YtnjopndkommjnaaDoorStsPlain
import Derived.Test.YtnjopndkommjnaaDoorRegionFree
import Derived.Test.YtnjopndkommjnaaDoorRgMore
import Derived.Test.YtnjopndkommjnaaDoorPackStandingPatches13
/- Rows of one's own, their things changed about. -/
namespace Go.Proofs.YtnjopndkommjnaaDoor
open Go Go.RowKit
set_option linter.unusedVariables false
set_option maxRecDepth 1000000

def RowC (w : World) (B g c : Nat) (L : List Chg) : Prop := w.ownsRow B 30 3 (.slice (some ⟨g, 0, none⟩) L.length c) L.length (ccl L)
theorem RowC.at {w : World} {B g c : Nat} {L : List Chg} (h : RowC w B g c L) {i : Nat} (hi : i < L.length) : w.rangeAt g (i * 3) L[i].cells := fun j u hu => by
  have hj : j < 3 := (List.getElem?_eq_some_iff.1 hu).1
  have h1 := World.ownsRow.cellAt h (i * 3 + j) (by omega)
  rw [h1, show ccl L = L.flatMap Chg.cells from rfl, flat_get Chg.cells_len L i hi j hj]; exact hu
theorem RowC.lt {w : World} {B g c : Nat} {L : List Chg} (h : RowC w B g c L) : g < w.heap.size := (World.ownsRow.lt h g rfl).2
theorem RowC.base {w : World} {B g c : Nat} {L : List Chg} (h : RowC w B g c L) : B ≤ g := (World.ownsRow.lt h g rfl).1
theorem RowC.kept {w w' : World} {B g c : Nat} {L : List Chg} (h : RowC w B g c L) (hb : Below w.heap.size w w') : RowC w' B g c L := own_later h hb
theorem RowC.there {w : World} {B g c : Nat} {L : List Chg} (h : RowC w B g c L) {i : Nat} (hi : i < L.length) : w.there g (i * 3) 3 := fun j hj => by
  have hj2 : i * 3 + j < L.length * 3 := by omega
  refine ⟨?_, World.ownsRow.frozenAt h (i * 3 + j)⟩
  rw [World.ownsRow.cellAt h (i * 3 + j) hj2, List.getElem?_eq_getElem (by rw [ccl_length]; exact hj2)]
  rfl
theorem RowC.set {w : World} {B g c : Nat} {L : List Chg} (h : RowC w B g c L) {i : Nat} (hi : i < L.length) (y : Chg) : RowC (w.setCells g (i * 3) y.cells) B g c (L.set i y) := by
  have h1 := own_setCells y.cells w _ (i * 3) h
  rw [ccl_setLL L i hi] at h1
  unfold RowC
  rw [List.length_set]
  exact h1
theorem grBC {w w' : World} {G : Nat} (h : Below w.heap.size w w') : w.grownBy w' (some G) := ⟨h.os, h.tape, h.output, h.size, fun j hj _ => h.block j hj⟩
theorem grTC {a b c : World} {G : Nat} (h : a.grownBy b (some G)) (k : b.grownBy c (some G)) : a.grownBy c (some G) :=
  ⟨k.os.trans h.os, k.tape.trans h.tape, k.output.trans h.output, Nat.le_trans h.size k.size, fun i hi hn => (k.block i (Nat.lt_of_lt_of_le hi h.size) hn).trans (h.block i hi hn)⟩
theorem grRC (w : World) (G : Nat) : w.grownBy w (some G) := ⟨rfl, rfl, rfl, Nat.le_refl _, fun _ _ _ => rfl⟩
theorem grDC {a w : World} {G : Nat} (h : a.grownBy w (some G)) : a.grownBy w.drew (some G) := ⟨h.os, h.tape, h.output, h.size, h.block⟩
theorem sizeEC (x : Chg) : (Tryd.prog.info? 30).map (·.size) = some x.cells.length := by rw [Chg.cells_len]; kernel_rfl
theorem exec_ldC {o : Oper} {a : Act} {w : World} (x : Operand) (ho : o.op = .load 30 x) {B g c : Nat} {L : List Chg} (h : RowC w B g c L) (i : Nat) (hi : i < L.length) (X : Chg) (hX : L[i] = X) (hx : a.eval x = .pointer (some ⟨g, 0 + i * 3, none⟩)) : (execOp a.eval o).run Tryd.prog w = .ok (.value (.agg X.cells.toArray)) w := by
  subst hX
  rw [Nat.zero_add] at hx
  unfold execOp
  simp only [ho, hx]
  exact run_value_of (run_loadAt_mid w g (i * 3) 30 _ _ (h.at hi) Tryd.underlying30 rfl (sizeEC _))
theorem exec_stC {o : Oper} {a : Act} {w : World} (x y : Operand) (ho : o.op = .store 30 x y) {B g c : Nat} {L : List Chg} (h : RowC w B g c L) (i : Nat) (hi : i < L.length) (Y : Chg) (hx : a.eval x = .pointer (some ⟨g, 0 + i * 3, none⟩)) (hy : a.eval y = .agg Y.cells.toArray) : (execOp a.eval o).run Tryd.prog w = .ok .skip (w.setCells g (i * 3) Y.cells) := by
  rw [Nat.zero_add] at hx
  have h := run_storeAt_mid (P := Tryd.prog) w g (i * 3) 30 Y.cells.toArray (by rw [List.size_toArray, Chg.cells_len]; exact h.there hi) (by rw [List.size_toArray]; exact sizeEC Y) (Array.all_eq_true_iff_forall_mem.2 (fun u hu => Y.cells_one u (by simpa using hu)))
  unfold execOp
  simp only [ho, hx, hy]
  simp only [Sem.run_bind, h]
  rfl
/-- an order that a function tells -/
def TellPC (b : Bool) (w : World) (e : Ending) (w' : World) : Prop := ∃ i : Int, e = .returned (.int .i64 i) ∧ decide (i < 0) = b ∧ Below w.heap.size w w'
structure TellsC (F : FuncId) (caps : Array Value) (lt : Chg → Chg → Bool) : Prop where
  enter : ∀ args w, (callFunc F args).run Tryd.prog w = .ok (.enter F args) w
  tell : ∀ (x y : Chg) (w : World), Calls Tryd.prog F (#[.agg x.cells.toArray, .agg y.cells.toArray] ++ caps) w (TellPC (lt x y) w)
theorem exec_tellC {P : Program} {o : Oper} {a : Act} {w : World} (f : Operand) (xs : Array Operand) (tys : Array TypeId) (ho : o.op = .call { callee := .value f, args := xs, argTypes := tys }) (F : FuncId) (caps : Array Value) (hf : a.eval f = .func (.func F) #[] caps) (args AG : Array Value) (hargs : xs.map a.eval = args) (hag : args ++ caps = AG)
    (hc : (callFunc F AG).run P w = .ok (.enter F AG) w) : (execOp a.eval o).run P w = .ok (.enter F AG) w := by
  subst hag
  unfold execOp
  simp only [ho]
  unfold resolve
  simp only [hf, hargs]
  simp [Deferred.ofValue, invoke, hc, Sem.run_bind]
/-- two things changed about -/
theorem swap_mid {α : Type} (P Q R : List α) (x y : α) : ((P ++ x :: (Q ++ y :: R)).set P.length y).set (P.length + 1 + Q.length) x = P ++ y :: (Q ++ x :: R) := by
  rw [List.set_append_right _ _ (Nat.le_refl _), Nat.sub_self, List.set_cons_zero, List.set_append_right _ _ (by omega), show P.length + 1 + Q.length - P.length = Q.length + 1 by omega, List.set_cons_succ, List.set_append_right _ _ (Nat.le_refl _), Nat.sub_self, List.set_cons_zero]
theorem at_mid {α : Type} (P R : List α) (x : α) (h : P.length < (P ++ x :: R).length) : (P ++ x :: R)[P.length] = x := by simp
end Go.Proofs.YtnjopndkommjnaaDoor
