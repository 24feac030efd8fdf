/- A reader that Read made: Num, Sign, Text, on what was written. -/
import Derived.Test.YteaghcgekaoimaaCoderLive2
import Derived.Test.YteaghcgekaoimaaCoderNum
namespace Go.Proofs.Yteaghcgekaoimaa
open Go Go.RowKit

set_option maxHeartbeats 1000000 in
theorem numIn_live (B x : Nat) (most : Int) (l : List UInt8) (w : World) (h : Rd w B (Cod.enc x ++ l)) (hx : (x : Int) ≤ most) (hm : most ≤ 9223372036854775807) (hl : (Cod.enc x ++ l).length ≤ 150000000000000) :
    Calls Try.prog 33 #[.pointer (some ⟨B, 0, none⟩), .int .i64 most] w (Got w B (.int .i64 x) l) := by
  have hn := number_live B x l w h (by omega) hl
  have hz : (x : Int) / 9223372036854775808 = 0 := by omega
  clear h hl
  go_enter Try.func33, Try.ntmps33
  go_wp2_with (go_at_call 42; refine hn.mono ?_; rintro e w1 ⟨rfl, hr, hg⟩)
  go_ret
  exact ⟨rfl, hr, hg⟩

theorem xor_i64_ones (q : Nat) (h : q ≤ 9223372036854775807) : bits BinOp.xor IntKind.i64 (q : Int) (-1) = -1 - (q : Int) := by
  have e1 : (BitVec.ofInt 64 (-1)).toNat = 18446744073709551615 := by decide +kernel
  have e2 : (BitVec.ofInt 64 (q : Int)).toNat = q := by rw [BitVec.ofInt_natCast, BitVec.toNat_ofNat, Nat.mod_eq_of_lt (by omega)]
  have e3 : bits BinOp.xor IntKind.i64 (q : Int) (-1) = IntKind.i64.wrap (((BitVec.ofInt 64 (q : Int) ^^^ BitVec.ofInt 64 (-1)).toNat : Nat) : Int) := rfl
  rw [e3, BitVec.toNat_xor, e1, e2, xor_ones q (by omega), IntKind.wrap_i64]
  omega
theorem xor_i64_zero (q : Nat) (h : q ≤ 9223372036854775807) : bits BinOp.xor IntKind.i64 (q : Int) 0 = (q : Int) := by
  have e1 : (BitVec.ofInt 64 0).toNat = 0 := by decide +kernel
  have e2 : (BitVec.ofInt 64 (q : Int)).toNat = q := by rw [BitVec.ofInt_natCast, BitVec.toNat_ofNat, Nat.mod_eq_of_lt (by omega)]
  have e3 : bits BinOp.xor IntKind.i64 (q : Int) 0 = IntKind.i64.wrap (((BitVec.ofInt 64 (q : Int) ^^^ BitVec.ofInt 64 0).toNat : Nat) : Int) := rfl
  rw [e3, BitVec.toNat_xor, e1, e2, Nat.xor_zero, IntKind.wrap_i64]
  omega
theorem zz_back {n : Int} (h : -9223372036854775808 ≤ n ∧ n ≤ 9223372036854775807) : (n < 0 → zz n % 2 = 1 ∧ n = -1 - ((zz n / 2 : Nat) : Int)) ∧ (0 ≤ n → zz n % 2 = 0 ∧ n = ((zz n / 2 : Nat) : Int)) := by
  unfold zz
  constructor <;> intro h0
  · rw [if_pos h0]; omega
  · rw [if_neg (by omega)]; omega

set_option maxHeartbeats 1000000 in
theorem textIn_live (B : Nat) (most : Int) (t l : List UInt8) (w : World) (h : Rd w B (Cod.enc t.length ++ (t ++ l))) (hx : (t.length : Int) ≤ most) (hm : most ≤ 9223372036854775807) (hl : (Cod.enc t.length ++ (t ++ l)).length ≤ 150000000000000) :
    Calls Try.prog 34 #[.pointer (some ⟨B, 0, none⟩), .int .i64 most] w (Got w B (.string ⟨t.toArray⟩) l) := by
  have hn := numIn_live B t.length most (t ++ l) w h hx hm hl
  rw [List.length_append] at hl
  have hl2 : (t ++ l).length ≤ 150000000000000 := by omega
  clear h hl
  go_enter Try.func34, Try.ntmps34
  go_wp2_with fail
  refine hn.mono ?_
  rintro e w1 ⟨rfl, hr, hg⟩
  have ht := take_live B t.length (t ++ l) w1 hr (by rw [List.length_append]; omega) hl2
  clear hn hr
  go_wp2_with fail
  refine ht.mono ?_
  rintro e w2 ⟨b, o, rfl, hc, hr2, hg2⟩
  rw [List.take_append_of_le_length (Nat.le_refl _), List.take_length] at hc
  rw [List.drop_append_of_le_length (Nat.le_refl _), List.drop_length, List.nil_append] at hr2
  have hcv := hc.lies.convert (P := Try.prog) t.length rfl t.length 43 5 9 Try.underlying43 Try.underlying5 Try.underlying9
  have R := Lib.hid hr2; have G := Lib.hid (grown_trans hg hg2)
  clear ht hr2 hg hg2 hc
  go_wp2_with fail
  go_ret
  exact ⟨rfl, R.out, G.out⟩
end Go.Proofs.Yteaghcgekaoimaa
