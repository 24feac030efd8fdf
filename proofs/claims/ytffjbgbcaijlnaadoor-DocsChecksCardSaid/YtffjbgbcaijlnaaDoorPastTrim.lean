/- past: Trim and Collect. -/
import Derived.Test.YtffjbgbcaijlnaaDoorPastWith
namespace Go.Proofs.YtffjbgbcaijlnaaDoor
open Go Go.RowKit
set_option linter.unusedVariables false

/-! What operations run to -/
section
variable {P : Program} {o : Oper} {a : Act} {w : World}
theorem exec_gload (t : TypeId) (x : Operand) (ho : o.op = .load t x) (b c : Nat) (hx : a.eval x = .pointer (some ⟨b, c, none⟩)) (cs : List Value) (hr : w.rangeAt b c cs) {d : TypeDesc} (hu : P.underlying t = some d) (hd : d.isRow = true) (hsz : (P.info? t).map (·.size) = some cs.length) :
    (execOp a.eval o).run P w = .ok (.value (.agg cs.toArray)) w := by
  unfold execOp
  simp only [ho, hx]
  exact run_value_of (run_loadAt_mid w b c t cs d hr hu hd hsz)
theorem exec_subI (t yt : TypeId) (x y : Operand) (ho : o.op = .binOp .sub t x y yt) (X Y R : Int) (hR : IntKind.i64.wrap (X - Y) = R) (hx : a.eval x = .int .i64 X) (hy : a.eval y = .int .i64 Y) (w : World) :
    (execOp a.eval o).run P w = .ok (.value (.int .i64 R)) w := by
  subst hR
  unfold execOp
  simp only [ho, hx, hy]
  rfl
theorem exec_maxI (x y : Operand) (tys : Array TypeId) (ho : o.op = .call { callee := .builtin .max, args := #[x, y], argTypes := tys }) (X Y R : Int) (hR : max X Y = R) (hx : a.eval x = .int .i64 X) (hy : a.eval y = .int .i64 Y) (w : World) :
    (execOp a.eval o).run P w = .ok (.value (.int .i64 R)) w := by
  have e : (#[x, y] : Array Operand).map a.eval = #[.int .i64 X, .int .i64 Y] := by simp only [List.map_toArray, List.map_cons, List.map_nil, hx, hy]
  have hm : (Builtin.max_ tys o.type #[.int .i64 X, .int .i64 Y]).run P w = .ok (.int .i64 R) w := by
    rw [run_max_int2, show (if X < Y then Y else X) = R by split <;> omega]
  unfold execOp
  simp only [ho]
  unfold resolve
  simp only [e]
  simp only [Sem.run_bind, Sem.run_pure, Result.andThen_ok, invoke]
  unfold builtin
  simp only [hm, Sem.run_bind, Sem.run_pure, Result.andThen_ok]
theorem exec_storeI1 (t : TypeId) (x y : Operand) (ho : o.op = .store t x y) (hsz : ∀ w : World, (sizeOf t).run P w = .ok 1 w) (p : Addr) (k : IntKind) (v : Int) (old : Value) (hx : a.eval x = .pointer (some p)) (hy : a.eval y = .int k v)
    (hc : w.cell? p = some old) (hf : w.frozen? p = false) : (execOp a.eval o).run P w = .ok .skip (w.setCell p (.int k v)) := by
  unfold execOp
  simp only [ho, hx, hy]
  have hs := hsz w
  go_simp
end
theorem sizeInt (w : World) : (sizeOf 3).run Tryd.prog w = .ok 1 w := by kernel_rfl
set_option maxRecDepth 1000000 in
theorem allocInt {o : Oper} {a : Act} (ho : o.op = .alloc 3) (w : World) : (execOp a.eval o).run Tryd.prog w = .ok (.value (.pointer (some ⟨w.heap.size, 0, none⟩))) (w.alloc (.cells #[.int .i64 0] 3)) := by
  unfold execOp
  simp only [ho]
  rfl

/-! The closures -/
def InInt (A : Nat) (x : Int) (w : World) : Prop := -9223372036854775808 ≤ x ∧ x ≤ 9223372036854775807 ∧ w.heap[A]? = some (.cells #[.int .i64 x] 3 (0, 0))
set_option maxHeartbeats 4000000 in
set_option maxRecDepth 100000 in
theorem trim_goes (A : Nat) : Goes 68 #[.pointer (some ⟨A, 0, none⟩)] trimGoes trimNext A (InInt A) := by
  refine ⟨fun args w => by kernel_rfl, ?_, fun s w w' row h hg hne => ⟨h.1, h.2.1, (hg.block A (Array.getElem?_eq_some_iff.1 h.2.2).1 (fun e => hne e.symm)).trans h.2.2⟩, fun s w h => (Array.getElem?_eq_some_iff.1 h.2.2).1⟩
  rintro s ⟨⟨r, n, t, kd, d, fl, tx, gn⟩, gp, gc⟩ w ⟨hs1, hs2, hA⟩
  show Calls Tryd.prog 68 #[.agg #[.int .i64 r, .int .i64 n, .int .i64 t, .int .i64 kd, .string d, .int .i64 fl, .string tx, .slice gp gn.length gc], .pointer (some ⟨A, 0, none⟩)] w _
  have hlt := (Array.getElem?_eq_some_iff.1 hA).1
  have hb : Below w.heap.size w (w.alloc (.cells #[.int .i64 r, .int .i64 n, .int .i64 t, .int .i64 kd, .string d, .int .i64 fl, .string tx, .slice gp gn.length gc] 26)) := below_alloc _ _
  have hA1 := (hb.block A hlt).trans hA
  have ca := (cell_of_row _ A 0 _ _ _ hA1).trans (show _ = some (Value.int .i64 s) from rfl)
  have fa := frozen_of_row _ A 0 _ _ hA1
  have HB := Lib.hid hb; have HA1 := Lib.hid hA1; have HA := Lib.hid hA
  clear hb hA1 hA
  have G1 := Lib.hid (show w.grownBy (w.alloc (.cells #[.int .i64 r, .int .i64 n, .int .i64 t, .int .i64 kd, .string d, .int .i64 fl, .string tx, .slice gp gn.length gc] 26)) (some A) from ⟨HB.out.os, HB.out.tape, HB.out.output, HB.out.size, fun k hk _ => HB.out.block k hk⟩)
  by_cases hk : kd = 2
  · have E : Hid (trimGoes s ⟨r, n, t, kd, d, fl, tx, gn⟩ = false) := Lib.hid (by simp [trimGoes, Ev.isDrop, hk])
    have E2 : Hid (trimNext s ⟨r, n, t, kd, d, fl, tx, gn⟩ = s) := Lib.hid (by unfold trimNext; rw [E.out]; rfl)
    subst hk
    go_enter Tryd.func68, Tryd.ntmps68
    go_wp2
    go_ret
    exact ⟨by rw [E.out]; rfl, by rw [E2.out]; exact ⟨hs1, hs2, HA1.out⟩, G1.out⟩
  · by_cases hp : 0 < s
    · have hp' : ¬ s ≤ 0 := by omega
      have E : Hid (trimGoes s ⟨r, n, t, kd, d, fl, tx, gn⟩ = true) := Lib.hid (by simp [trimGoes, Ev.isDrop, hk, hp])
      have E2 : Hid (trimNext s ⟨r, n, t, kd, d, fl, tx, gn⟩ = s - 1) := Lib.hid (by unfold trimNext; rw [E.out]; rfl)
      have s0 := block_setCell HA.out (j := 0) (.int .i64 (s - 1))
      have hb2 := below_alloc (w.setCell ⟨A, 0, none⟩ (.int .i64 (s - 1))) (.cells #[.int .i64 r, .int .i64 n, .int .i64 t, .int .i64 kd, .string d, .int .i64 fl, .string tx, .slice gp gn.length gc] 26)
      have S1 : Hid (((w.setCell ⟨A, 0, none⟩ (.int .i64 (s - 1))).alloc (.cells #[.int .i64 r, .int .i64 n, .int .i64 t, .int .i64 kd, .string d, .int .i64 fl, .string tx, .slice gp gn.length gc] 26)).heap[A]? = some (.cells #[.int .i64 (s - 1)] 3 (0, 0))) := Lib.hid ((hb2.block A (Array.getElem?_eq_some_iff.1 s0).1).trans s0)
      have g2 := grown_cell w A 0 (.int .i64 (s - 1))
      have G2 : Hid (w.grownBy ((w.setCell ⟨A, 0, none⟩ (.int .i64 (s - 1))).alloc (.cells #[.int .i64 r, .int .i64 n, .int .i64 t, .int .i64 kd, .string d, .int .i64 fl, .string tx, .slice gp gn.length gc] 26)) (some A)) := Lib.hid ⟨hb2.os.trans g2.os, hb2.tape.trans g2.tape, hb2.output.trans g2.output, Nat.le_trans g2.size hb2.size, fun k hk hne => (hb2.block k (Nat.lt_of_lt_of_le hk g2.size)).trans (g2.block k hk hne)⟩
      clear s0 hb2 g2
      go_enter Tryd.func68, Tryd.ntmps68
      go_wp2
      go_ret
      exact ⟨by rw [E.out]; rfl, by rw [E2.out]; exact ⟨by omega, by omega, S1.out⟩, G2.out⟩
    · have hp' : s ≤ 0 := by omega
      have E : Hid (trimGoes s ⟨r, n, t, kd, d, fl, tx, gn⟩ = false) := Lib.hid (by simp [trimGoes, hp])
      have E2 : Hid (trimNext s ⟨r, n, t, kd, d, fl, tx, gn⟩ = s) := Lib.hid (by unfold trimNext; rw [E.out]; rfl)
      go_enter Tryd.func68, Tryd.ntmps68
      go_wp2
      go_ret
      exact ⟨by rw [E.out]; rfl, by rw [E2.out]; exact ⟨hs1, hs2, HA1.out⟩, G1.out⟩
def InVec (A : Nat) (v : Nat → Int) (_ : Unit) (w : World) : Prop := Row w A 36 v
end Go.Proofs.YtffjbgbcaijlnaaDoor
