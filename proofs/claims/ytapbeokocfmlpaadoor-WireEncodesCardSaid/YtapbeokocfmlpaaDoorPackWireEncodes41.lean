/- The statement WireEncodes, proved for every input that its row reads: part 41 of 54. -/
import Derived.Test.YtapbeokocfmlpaaDoorPackWireEncodes36
import Derived.Test.YtapbeokocfmlpaaDoorPackWireEncodes9
/- The document's reader of any bytes: Fail, any, Num. -/
namespace Go.Proofs.YtapbeokocfmlpaaDoor
open Go Go.RowKit
set_option linter.unusedVariables false

section
variable {P : Program} {o : Oper} {a : Act}
theorem exec_eqlF (t yt : TypeId) (x y : Operand) (ho : o.op = .binOp .eql t x y yt) (X Y : Int) (hne : X ≠ Y) (hx : a.eval x = .int .i64 X) (hy : a.eval y = .int .i64 Y) (w : World) :
    (execOp a.eval o).run P w = .ok (.value (.bool false)) w := by
  unfold execOp
  simp only [ho, hx, hy]
  have : (X == Y) = false := by simpa using hne
  go_simp
theorem exec_neq0 (t yt : TypeId) (x y : Operand) (ho : o.op = .binOp .neq t x y yt) (n : Nat) (v : Bool) (hv : v = !decide (n = 0)) (hx : a.eval x = .int .u8 (n : Int)) (hy : a.eval y = .int .u8 0) (w : World) :
    (execOp a.eval o).run P w = .ok (.value (.bool v)) w := by
  subst hv
  unfold execOp
  simp only [ho, hx, hy]
  by_cases h : n = 0
  · subst h; go_simp
  · have h1 : ((n : Int) == 0) = false := by simp; omega
    have h2 : ((n : Int) != 0) = true := by simp; omega
    have h3 : (!decide (n = 0)) = true := by simp [h]
    rw [h3]
    go_simp
theorem exec_and8 (t yt : TypeId) (x y : Operand) (ho : o.op = .binOp .and t x y yt) (X Y : Nat) (hX : X < 256) (hY : Y < 256) (hx : a.eval x = .int .u8 (X : Int)) (hy : a.eval y = .int .u8 (Y : Int)) (w : World) :
    (execOp a.eval o).run P w = .ok (.value (.int .u8 ((X &&& Y : Nat) : Int))) w := by
  rw [← u8_and_nat X Y hX hY]
  unfold execOp
  simp only [ho, hx, hy]
  rfl
theorem exec_shr8 (t yt : TypeId) (x y : Operand) (ho : o.op = .binOp .shr t x y yt) (k : Nat) (hk : k ≤ 8) (hx : a.eval x = .int .u8 128) (hy : a.eval y = .int .i64 (k : Int)) (w : World) :
    (execOp a.eval o).run P w = .ok (.value (.int .u8 ((128 / 2 ^ k : Nat) : Int))) w := by
  have s : Sem.run P (Op.shift BinOp.shr IntKind.u8 128 IntKind.i64 (k : Int)) w = .ok (.int .u8 ((128 / 2 ^ k : Nat) : Int)) w := by
    unfold Op.shift
    rw [if_neg (by omega)]
    have e2 : min k IntKind.u8.bits = k := by simp [IntKind.bits]; omega
    simp only [Int.toNat_natCast, e2]
    rw [Sem.run_pure]
    have : (128 : Int).fdiv (2 ^ k) = ((128 / 2 ^ k : Nat) : Int) := by
      rw [show ((2 : Int) ^ k) = ((2 ^ k : Nat) : Int) from by simp, Int.fdiv_eq_ediv_of_nonneg _ (Int.natCast_nonneg _)]; simp
    simp only [this]
  unfold execOp
  simp only [ho, hx, hy]
  exact run_value_of s
theorem exec_shr64 (t yt : TypeId) (x y : Operand) (ho : o.op = .binOp .shr t x y yt) (X k : Nat) (hk : k ≤ 64) (hx : a.eval x = .int .u64 (X : Int)) (hy : a.eval y = .int .i64 (k : Int)) (w : World) :
    (execOp a.eval o).run P w = .ok (.value (.int .u64 ((X / 2 ^ k : Nat) : Int))) w := by
  have s := shr_nat P X k hk w
  unfold execOp
  simp only [ho, hx, hy]
  exact run_value_of s
theorem exec_rem64 (t yt : TypeId) (x y : Operand) (ho : o.op = .binOp .rem t x y yt) (X Y : Nat) (hY : Y < 256) (hY0 : 0 < Y) (hx : a.eval x = .int .u64 (X : Int)) (hy : a.eval y = .int .u64 (Y : Int)) (w : World) :
    (execOp a.eval o).run P w = .ok (.value (.int .u64 ((X % Y : Nat) : Int))) w := by
  have h0 : ¬ (Y : Int) = 0 := by omega
  have h1 : (X : Int).tmod (Y : Int) = ((X % Y : Nat) : Int) := by rw [Int.tmod_eq_emod_of_nonneg (by omega)]; simp
  unfold execOp
  simp only [ho, hx, hy]
  go_simp
  omega
end
end Go.Proofs.YtapbeokocfmlpaaDoor
/- The document's reader of any bytes: Fail, any, Num. -/
namespace Go.Proofs.YtapbeokocfmlpaaDoor
open Go Go.RowKit
set_option linter.unusedVariables false

theorem sizeU8 (w : World) : (sizeOf (Tryd.prog.elem 32)).run Tryd.prog w = .ok 1 w := by kernel_rfl
theorem shr_128 (P : Program) (k : Nat) (hk : k ≤ 8) (w : World) : Sem.run P (Op.shift BinOp.shr IntKind.u8 128 IntKind.i64 (k : Int)) w = .ok (.int .u8 ((128 / 2 ^ k : Nat) : Int)) w := by
  unfold Op.shift
  rw [if_neg (by omega)]
  have e2 : min k IntKind.u8.bits = k := by simp [IntKind.bits]; omega
  simp only [Int.toNat_natCast, e2]
  rw [Sem.run_pure]
  have : (128 : Int).fdiv (2 ^ k) = ((128 / 2 ^ k : Nat) : Int) := by
    rw [show ((2 : Int) ^ k) = ((2 ^ k : Nat) : Int) from by simp, Int.fdiv_eq_ediv_of_nonneg _ (Int.natCast_nonneg _)]; simp
  simp only [this]
end Go.Proofs.YtapbeokocfmlpaaDoor
/- The document's reader of any bytes: Num. -/
namespace Go.Proofs.YtapbeokocfmlpaaDoor
open Go Go.RowKit
set_option linter.unusedVariables false

end Go.Proofs.YtapbeokocfmlpaaDoor
