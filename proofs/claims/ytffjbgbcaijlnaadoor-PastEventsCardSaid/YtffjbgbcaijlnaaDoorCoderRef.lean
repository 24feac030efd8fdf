/- The contracts of the document's own Bytes, join, Num, Sign, Text. -/
import Derived.Test.YtffjbgbcaijlnaaDoorCoderNum
namespace Go.Proofs.YtffjbgbcaijlnaaDoor
open Go Go.RowKit

theorem shr_nat (P : Program) (x m : Nat) (hm : m ≤ 64) (w : World) : Sem.run P (Op.shift BinOp.shr IntKind.u64 (x : Int) IntKind.i64 (m : Int)) w = .ok (.int .u64 ((x / 2 ^ m : Nat) : Int)) w := by
  unfold Op.shift
  rw [if_neg (by omega)]
  have e2 : min m IntKind.u64.bits = m := by simp [IntKind.bits]; omega
  simp only [Int.toNat_natCast, e2]
  rw [Sem.run_pure]
  have : (x : Int).fdiv (2 ^ m) = ((x / 2 ^ m : Nat) : Int) := by
    rw [show ((2 : Int) ^ m) = ((2 ^ m : Nat) : Int) from by simp, Int.fdiv_eq_ediv_of_nonneg _ (Int.natCast_nonneg _)]; simp
  simp only [this]

/-- the first byte's ones -/
def sm (j : Nat) : Nat := 256 - 2 ^ (8 - j)
theorem sm_step (j : Nat) (h : j < 8) : ((sm j : Nat) : Int) + 128 / 2 ^ j = ((sm (j + 1) : Nat) : Int) := by
  match j, h with
  | 0, _ => decide
  | 1, _ => decide
  | 2, _ => decide
  | 3, _ => decide
  | 4, _ => decide
  | 5, _ => decide
  | 6, _ => decide
  | 7, _ => decide
theorem sm_le (j : Nat) (h : j ≤ 8) : sm j ≤ 255 := by
  have := (Cod.pow_parts j h).1
  unfold sm; omega

end Go.Proofs.YtffjbgbcaijlnaaDoor
