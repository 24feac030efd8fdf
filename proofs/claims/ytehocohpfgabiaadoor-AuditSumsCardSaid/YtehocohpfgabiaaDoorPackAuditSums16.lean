/- The statement AuditSums, proved for every input that its row reads: part 16 of 54. -/
import Derived.Test.YtehocohpfgabiaaDoorPackAuditSums15
/- past: Trim and Collect. -/
namespace Go.Proofs.YtehocohpfgabiaaDoor
open Go Go.RowKit
set_option linter.unusedVariables false

/-! What operations run to -/
section
variable {P : Program} {o : Oper} {a : Act} {w : World}
theorem exec_gload (t : TypeId) (x : Operand) (ho : o.op = .load t x) (b c : Nat) (hx : a.eval x = .pointer (some ⟨b, c, none⟩)) (cs : List Value) (hr : w.rangeAt b c cs) {d : TypeDesc} (hu : P.underlying t = some d) (hd : d.isRow = true) (hsz : (P.info? t).map (·.size) = some cs.length) :
    (execOp a.eval o).run P w = .ok (.value (.agg cs.toArray)) w := by
  unfold execOp
  simp only [ho, hx]
  exact run_value_of (run_loadAt_mid w b c t cs d hr hu hd hsz)
theorem exec_subI (t yt : TypeId) (x y : Operand) (ho : o.op = .binOp .sub t x y yt) (X Y R : Int) (hR : IntKind.i64.wrap (X - Y) = R) (hx : a.eval x = .int .i64 X) (hy : a.eval y = .int .i64 Y) (w : World) :
    (execOp a.eval o).run P w = .ok (.value (.int .i64 R)) w := by
  subst hR
  unfold execOp
  simp only [ho, hx, hy]
  rfl
theorem exec_maxI (x y : Operand) (tys : Array TypeId) (ho : o.op = .call { callee := .builtin .max, args := #[x, y], argTypes := tys }) (X Y R : Int) (hR : max X Y = R) (hx : a.eval x = .int .i64 X) (hy : a.eval y = .int .i64 Y) (w : World) :
    (execOp a.eval o).run P w = .ok (.value (.int .i64 R)) w := by
  have e : (#[x, y] : Array Operand).map a.eval = #[.int .i64 X, .int .i64 Y] := by simp only [List.map_toArray, List.map_cons, List.map_nil, hx, hy]
  have hm : (Builtin.max_ tys o.type #[.int .i64 X, .int .i64 Y]).run P w = .ok (.int .i64 R) w := by
    rw [run_max_int2, show (if X < Y then Y else X) = R by split <;> omega]
  unfold execOp
  simp only [ho]
  unfold resolve
  simp only [e]
  simp only [Sem.run_bind, Sem.run_pure, Result.andThen_ok, invoke]
  unfold builtin
  simp only [hm, Sem.run_bind, Sem.run_pure, Result.andThen_ok]
theorem exec_storeI1 (t : TypeId) (x y : Operand) (ho : o.op = .store t x y) (hsz : ∀ w : World, (sizeOf t).run P w = .ok 1 w) (p : Addr) (k : IntKind) (v : Int) (old : Value) (hx : a.eval x = .pointer (some p)) (hy : a.eval y = .int k v)
    (hc : w.cell? p = some old) (hf : w.frozen? p = false) : (execOp a.eval o).run P w = .ok .skip (w.setCell p (.int k v)) := by
  unfold execOp
  simp only [ho, hx, hy]
  have hs := hsz w
  go_simp
end
theorem sizeInt (w : World) : (sizeOf 3).run Tryd.prog w = .ok 1 w := by kernel_rfl
set_option maxRecDepth 1000000 in
theorem allocInt {o : Oper} {a : Act} (ho : o.op = .alloc 3) (w : World) : (execOp a.eval o).run Tryd.prog w = .ok (.value (.pointer (some ⟨w.heap.size, 0, none⟩))) (w.alloc (.cells #[.int .i64 0] 3)) := by
  unfold execOp
  simp only [ho]
  rfl

/-! The closures -/
def InInt (A : Nat) (x : Int) (w : World) : Prop := -9223372036854775808 ≤ x ∧ x ≤ 9223372036854775807 ∧ w.heap[A]? = some (.cells #[.int .i64 x] 3 (0, 0))
def InVec (A : Nat) (v : Nat → Int) (_ : Unit) (w : World) : Prop := Row w A 23 v
end Go.Proofs.YtehocohpfgabiaaDoor
/- Two dots held against one another; one event in a row of its own. -/
namespace Go.Proofs.YtehocohpfgabiaaDoor
open Go Go.RowKit
set_option linter.unusedVariables false
set_option maxRecDepth 1000000

theorem to_drew {B : Nat} {w w' : World} (h : Below B w w') : Below B w w'.drew := ⟨h.os, h.tape, h.output, h.size, h.block⟩
def eqDt (x y : Dt) : Bool := x.1 == y.1 && x.2 == y.2
theorem eqDt_iff (x y : Dt) : eqDt x y = true ↔ x = y := by
  simp only [eqDt, Bool.and_eq_true, beq_iff_eq]
  exact ⟨fun h => Prod.ext h.1 h.2, fun h => by subst h; exact ⟨rfl, rfl⟩⟩
theorem eqDt_no {x y : Dt} (h : x ≠ y) : eqDt x y = false := by
  cases e : eqDt x y with
  | false => rfl
  | true => exact absurd ((eqDt_iff x y).1 e) h
theorem runEqDt (x y : Dt) (w : World) : (Op.equalIn 10000 39 (.agg (dcs x.1 x.2)) (.agg (dcs y.1 y.2))).run Tryd.prog w = .ok (eqDt x y) w := by
  have u3 := Tryd.underlying3
  have a3 := Tryd.isAgg3
  have z3 := Tryd.sizeOf3
  have hS : Tryd.prog.underlying 39 = some (.struct (Tryd.prog.fieldsOf 39)) := by kernel_rfl
  have hp : Tryd.prog.stoodInHeld 39 = false := by kernel_rfl
  simp only [dcs]
  rw [show (10000 : Nat) = 9999 + 1 from rfl, run_equalIn_agg w 9999 39 _ _ hS hp]
  simp only [Program.fieldsOf, Tryd.underlying39]
  go_simp
  unfold eqDt
  by_cases h1 : x.fst = y.fst <;> by_cases h2 : x.snd = y.snd <;> simp [h1, h2]
theorem eqlDt (x y : Dt) (w : World) : (binOp .eql 39 (.agg #[.int .i64 x.1, .int .i64 x.2]) (.agg #[.int .i64 y.1, .int .i64 y.2])).run Tryd.prog w = .ok (.bool (eqDt x y)) w := by
  rw [run_eql_struct]
  have h := runEqDt x y w
  simp only [dcs] at h
  rw [h]; rfl
theorem neqDt (x y : Dt) (w : World) : (binOp .neq 39 (.agg #[.int .i64 x.1, .int .i64 x.2]) (.agg #[.int .i64 y.1, .int .i64 y.2])).run Tryd.prog w = .ok (.bool (!eqDt x y)) w := by
  rw [run_neq_struct]
  have h := runEqDt x y w
  simp only [dcs] at h
  rw [h]; rfl
theorem exec_idxD {o : Oper} {a : Act} (x y : Operand) (ho : o.op = .indexAddr 46 x y) (b f len cap k : Nat) (hx : a.eval x = .slice (some ⟨b, f, none⟩) len cap) (hy : a.eval y = .int .i64 (k : Int)) (hk : k < len) (w : World) :
    (execOp a.eval o).run Tryd.prog w = .ok (.value (.pointer (some ⟨b, f + k * 2, none⟩))) w := by
  have hs : ∀ w : World, (sizeOf (Tryd.prog.elem 46)).run Tryd.prog w = .ok 2 w := fun w => by kernel_rfl
  unfold execOp
  simp only [ho, hx, hy]
  refine run_value_of ?_
  rw [run_indexAt_slice (h := Tryd.underlying46), if_pos (by omega), hs]
  simp only [Result.andThen_ok, Int.toNat_natCast]
  cases k <;> simp [Addr.add]
theorem exec_neqD {o : Oper} {a : Act} (t : TypeId) (x y : Operand) (ho : o.op = .binOp .neq 39 x y t) (X : Dt) (hx : a.eval x = .agg #[.int .i64 X.1, .int .i64 X.2]) (hy : a.eval y = .agg #[.int .i64 X.1, .int .i64 X.2]) (w : World) :
    (execOp a.eval o).run Tryd.prog w = .ok (.value (.bool false)) w := by
  have h := neqDt X X w
  rw [(eqDt_iff X X).2 rfl] at h
  simp only [Bool.not_true] at h
  unfold execOp
  simp only [ho, hx, hy]
  refine run_value_of ?_
  rw [Sem.run_bind]
  have hg : (eqGuard .neq 39 x y (.agg #[.int .i64 X.1, .int .i64 X.2]) (.agg #[.int .i64 X.1, .int .i64 X.2])).run Tryd.prog w = .ok () w := by
    unfold eqGuard
    go_simp
  rw [hg]
  exact h
theorem sizeEv (x : EvP) : (Tryd.prog.info? 48).map (·.size) = some x.cells.length := by rw [EvP.cells_len]; kernel_rfl
theorem evs_one {w : World} {g : Nat} {x : EvP} (h : x.Ok w) (hg : w.rangeAt g 0 x.cells) : EvsAt w (some ⟨g, 0, none⟩) [x] :=
  ⟨fun _ => ⟨g, 0, rfl, by simpa [ecl] using hg⟩, fun y hy => by obtain rfl := List.mem_singleton.1 hy; exact h, fun e => by cases e⟩
end Go.Proofs.YtehocohpfgabiaaDoor
/- two events held against one another, and lists of them. -/
namespace Go.Proofs.YtehocohpfgabiaaDoor
open Go Go.RowKit
set_option linter.unusedVariables false
set_option maxRecDepth 1000000

theorem exec_neqE {o : Oper} {a : Act} (t : TypeId) (x y : Operand) (ho : o.op = .binOp .neq 39 x y t) (X Y : Dt) (b : Bool) (hb : (!eqDt X Y) = b) (hx : a.eval x = .agg #[.int .i64 X.1, .int .i64 X.2]) (hy : a.eval y = .agg #[.int .i64 Y.1, .int .i64 Y.2]) (w : World) :
    (execOp a.eval o).run Tryd.prog w = .ok (.value (.bool b)) w := by
  subst hb
  have h := neqDt X Y w
  unfold execOp
  simp only [ho, hx, hy]
  refine run_value_of ?_
  rw [Sem.run_bind]
  have hg : (eqGuard .neq 39 x y (.agg #[.int .i64 X.1, .int .i64 X.2]) (.agg #[.int .i64 Y.1, .int .i64 Y.2])).run Tryd.prog w = .ok () w := by
    unfold eqGuard
    go_simp
  rw [hg]
  exact h
theorem drow_at {w : World} {p : Option Addr} {l : List Dt} (h : DRow w p l) {k : Nat} (hk : k < l.length) : ∃ b o, p = some ⟨b, o, Option.none⟩ ∧ w.rangeAt b (o + k * 2) [.int .i64 l[k].1, .int .i64 l[k].2] := by
  have hne : l ≠ [] := by intro e; subst e; simp at hk
  obtain ⟨b, o, rfl, hr⟩ := h hne
  obtain ⟨d1, d2⟩ := dcl_get l k hk
  have r1 := hr _ _ d1; have r2 := hr _ _ d2
  refine ⟨b, o, rfl, fun j u hu => ?_⟩
  match j, hu with
  | 0, hu => simp at hu; subst hu; simpa using r1
  | 1, hu => simp at hu; subst hu; rw [Nat.add_assoc]; exact r2
  | j + 2, hu => simp at hu
end Go.Proofs.YtehocohpfgabiaaDoor
