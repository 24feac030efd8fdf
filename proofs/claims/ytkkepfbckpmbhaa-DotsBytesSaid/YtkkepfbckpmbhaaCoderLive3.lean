/- A reader that Read made: Num, Sign, Text, on what was written. -/
import Derived.Test.YtkkepfbckpmbhaaCoderLive2
import Derived.Test.YtkkepfbckpmbhaaCoderNum
namespace Go.Proofs.Ytkkepfbckpmbhaa
open Go Go.RowKit

set_option maxHeartbeats 1000000 in
theorem numIn_live (B x : Nat) (most : Int) (l : List UInt8) (w : World) (h : Rd w B (Cod.enc x ++ l)) (hx : (x : Int) ≤ most) (hm : most ≤ 9223372036854775807) (hl : (Cod.enc x ++ l).length ≤ 140737488355328) :
    Calls Try.prog 58 #[.pointer (some ⟨B, 0, none⟩), .int .i64 most] w (Got w B (.int .i64 x) l) := by
  have hn := number_live B x l w h (by omega) hl
  have hz : (x : Int) / 9223372036854775808 = 0 := by omega
  clear h hl
  go_enter Try.func58, Try.ntmps58
  go_wp2_with (go_at_call 73; refine hn.mono ?_; rintro e w1 ⟨rfl, hr, hg⟩)
  go_ret
  exact ⟨rfl, hr, hg⟩

theorem xor_i64_ones (q : Nat) (h : q ≤ 9223372036854775807) : bits BinOp.xor IntKind.i64 (q : Int) (-1) = -1 - (q : Int) := by
  have e1 : (BitVec.ofInt 64 (-1)).toNat = 18446744073709551615 := by decide +kernel
  have e2 : (BitVec.ofInt 64 (q : Int)).toNat = q := by rw [BitVec.ofInt_natCast, BitVec.toNat_ofNat, Nat.mod_eq_of_lt (by omega)]
  have e3 : bits BinOp.xor IntKind.i64 (q : Int) (-1) = IntKind.i64.wrap (((BitVec.ofInt 64 (q : Int) ^^^ BitVec.ofInt 64 (-1)).toNat : Nat) : Int) := rfl
  rw [e3, BitVec.toNat_xor, e1, e2, xor_ones q (by omega), IntKind.wrap_i64]
  omega
theorem xor_i64_zero (q : Nat) (h : q ≤ 9223372036854775807) : bits BinOp.xor IntKind.i64 (q : Int) 0 = (q : Int) := by
  have e1 : (BitVec.ofInt 64 0).toNat = 0 := by decide +kernel
  have e2 : (BitVec.ofInt 64 (q : Int)).toNat = q := by rw [BitVec.ofInt_natCast, BitVec.toNat_ofNat, Nat.mod_eq_of_lt (by omega)]
  have e3 : bits BinOp.xor IntKind.i64 (q : Int) 0 = IntKind.i64.wrap (((BitVec.ofInt 64 (q : Int) ^^^ BitVec.ofInt 64 0).toNat : Nat) : Int) := rfl
  rw [e3, BitVec.toNat_xor, e1, e2, Nat.xor_zero, IntKind.wrap_i64]
  omega
theorem zz_back {n : Int} (h : -9223372036854775808 ≤ n ∧ n ≤ 9223372036854775807) : (n < 0 → zz n % 2 = 1 ∧ n = -1 - ((zz n / 2 : Nat) : Int)) ∧ (0 ≤ n → zz n % 2 = 0 ∧ n = ((zz n / 2 : Nat) : Int)) := by
  unfold zz
  constructor <;> intro h0
  · rw [if_pos h0]; omega
  · rw [if_neg (by omega)]; omega

end Go.Proofs.Ytkkepfbckpmbhaa
