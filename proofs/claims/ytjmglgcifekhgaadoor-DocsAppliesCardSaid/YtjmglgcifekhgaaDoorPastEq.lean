/- two events held against one another, and lists of them. -/
import Derived.Test.YtjmglgcifekhgaaDoorDtEq
namespace Go.Proofs.YtjmglgcifekhgaaDoor
open Go Go.RowKit
set_option linter.unusedVariables false
set_option maxRecDepth 1000000

theorem exec_neqE {o : Oper} {a : Act} (t : TypeId) (x y : Operand) (ho : o.op = .binOp .neq 28 x y t) (X Y : Dt) (b : Bool) (hb : (!eqDt X Y) = b) (hx : a.eval x = .agg #[.int .i64 X.1, .int .i64 X.2]) (hy : a.eval y = .agg #[.int .i64 Y.1, .int .i64 Y.2]) (w : World) :
    (execOp a.eval o).run Tryd.prog w = .ok (.value (.bool b)) w := by
  subst hb
  have h := neqDt X Y w
  unfold execOp
  simp only [ho, hx, hy]
  refine run_value_of ?_
  rw [Sem.run_bind]
  have hg : (eqGuard .neq 28 x y (.agg #[.int .i64 X.1, .int .i64 X.2]) (.agg #[.int .i64 Y.1, .int .i64 Y.2])).run Tryd.prog w = .ok () w := by
    unfold eqGuard
    go_simp
  rw [hg]
  exact h
theorem drow_at {w : World} {p : Option Addr} {l : List Dt} (h : DRow w p l) {k : Nat} (hk : k < l.length) : ∃ b o, p = some ⟨b, o, Option.none⟩ ∧ w.rangeAt b (o + k * 2) [.int .i64 l[k].1, .int .i64 l[k].2] := by
  have hne : l ≠ [] := by intro e; subst e; simp at hk
  obtain ⟨b, o, rfl, hr⟩ := h hne
  obtain ⟨d1, d2⟩ := dcl_get l k hk
  have r1 := hr _ _ d1; have r2 := hr _ _ d2
  refine ⟨b, o, rfl, fun j u hu => ?_⟩
  match j, hu with
  | 0, hu => simp at hu; subst hu; simpa using r1
  | 1, hu => simp at hu; subst hu; rw [Nat.add_assoc]; exact r2
  | j + 2, hu => simp at hu
end Go.Proofs.YtjmglgcifekhgaaDoor
