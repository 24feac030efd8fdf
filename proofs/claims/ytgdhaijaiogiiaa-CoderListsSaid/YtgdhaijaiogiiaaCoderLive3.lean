/- A reader that Read made: Num, Sign, Text, on what was written. -/
import Derived.Test.YtgdhaijaiogiiaaCoderLive2
import Derived.Test.YtgdhaijaiogiiaaCoderNum
namespace Go.Proofs.Ytgdhaijaiogiiaa
open Go Go.RowKit

set_option maxHeartbeats 1000000 in
theorem numIn_live (B x : Nat) (most : Int) (l : List UInt8) (w : World) (h : Rd w B (Cod.enc x ++ l)) (hx : (x : Int) ≤ most) (hm : most ≤ 9223372036854775807) (hl : (Cod.enc x ++ l).length ≤ 140737488355328) :
    Calls Try.prog 21 #[.pointer (some ⟨B, 0, none⟩), .int .i64 most] w (Got w B (.int .i64 x) l) := by
  have hn := number_live B x l w h (by omega) hl
  have hz : (x : Int) / 9223372036854775808 = 0 := by omega
  clear h hl
  go_enter Try.func21, Try.ntmps21
  go_wp2_with (go_at_call 37; refine hn.mono ?_; rintro e w1 ⟨rfl, hr, hg⟩)
  go_ret
  exact ⟨rfl, hr, hg⟩

theorem xor_i64_ones (q : Nat) (h : q ≤ 9223372036854775807) : bits BinOp.xor IntKind.i64 (q : Int) (-1) = -1 - (q : Int) := by
  have e1 : (BitVec.ofInt 64 (-1)).toNat = 18446744073709551615 := by decide +kernel
  have e2 : (BitVec.ofInt 64 (q : Int)).toNat = q := by rw [BitVec.ofInt_natCast, BitVec.toNat_ofNat, Nat.mod_eq_of_lt (by omega)]
  have e3 : bits BinOp.xor IntKind.i64 (q : Int) (-1) = IntKind.i64.wrap (((BitVec.ofInt 64 (q : Int) ^^^ BitVec.ofInt 64 (-1)).toNat : Nat) : Int) := rfl
  rw [e3, BitVec.toNat_xor, e1, e2, xor_ones q (by omega), IntKind.wrap_i64]
  omega
theorem xor_i64_zero (q : Nat) (h : q ≤ 9223372036854775807) : bits BinOp.xor IntKind.i64 (q : Int) 0 = (q : Int) := by
  have e1 : (BitVec.ofInt 64 0).toNat = 0 := by decide +kernel
  have e2 : (BitVec.ofInt 64 (q : Int)).toNat = q := by rw [BitVec.ofInt_natCast, BitVec.toNat_ofNat, Nat.mod_eq_of_lt (by omega)]
  have e3 : bits BinOp.xor IntKind.i64 (q : Int) 0 = IntKind.i64.wrap (((BitVec.ofInt 64 (q : Int) ^^^ BitVec.ofInt 64 0).toNat : Nat) : Int) := rfl
  rw [e3, BitVec.toNat_xor, e1, e2, Nat.xor_zero, IntKind.wrap_i64]
  omega
theorem zz_back {n : Int} (h : -9223372036854775808 ≤ n ∧ n ≤ 9223372036854775807) : (n < 0 → zz n % 2 = 1 ∧ n = -1 - ((zz n / 2 : Nat) : Int)) ∧ (0 ≤ n → zz n % 2 = 0 ∧ n = ((zz n / 2 : Nat) : Int)) := by
  unfold zz
  constructor <;> intro h0
  · rw [if_pos h0]; omega
  · rw [if_neg (by omega)]; omega

set_option maxHeartbeats 1000000 in
theorem signIn_live (B : Nat) (n : Int) (l : List UInt8) (w : World) (h : Rd w B (Cod.enc (zz n) ++ l)) (hr : -9223372036854775808 ≤ n ∧ n ≤ 9223372036854775807) (hl : (Cod.enc (zz n) ++ l).length ≤ 140737488355328) :
    Calls Try.prog 22 #[.pointer (some ⟨B, 0, none⟩)] w (Got w B (.int .i64 n) l) := by
  have hn := number_live B (zz n) l w h (zz_lt hr) hl
  have hzl := zz_lt hr
  have hzb := zz_back hr
  obtain ⟨z, hz⟩ : ∃ z, z = zz n := ⟨_, rfl⟩
  rw [← hz] at hn hzl hzb
  clear h hl hz
  have hand : bits BinOp.and IntKind.u64 (z : Int) 1 = ((z % 2 : Nat) : Int) := by
    rw [show (1 : Int) = ((1 : Nat) : Int) from rfl, u64_and_nat _ _ (by omega) (by omega), Nat.and_one_is_mod]
  have HN := Lib.hid hn
  obtain ⟨q, hq⟩ : ∃ q, q = z / 2 := ⟨_, rfl⟩
  have hqz : (z : Int) / 2 = (q : Int) := by omega
  rw [← hq] at hzb
  have hqb : q ≤ 9223372036854775807 := by omega
  clear hn hq
  rcases (show n < 0 ∨ 0 ≤ n by omega) with h0 | h0
  · obtain ⟨h1, h2⟩ := hzb.1 h0
    rw [h1, show (((1 : Nat) : Int)) = 1 from rfl] at hand
    have HA := Lib.hid h2
    clear hzb h1 h2
    go_enter Try.func22, Try.ntmps22
    go_wp2_with fail
    refine HN.out.mono ?_
    rintro e w1 ⟨rfl, hr, hg⟩
    go_wp2_with fail
    go_ret
    exact ⟨ret_int (by rw [xor_i64_ones q hqb, HA.out]), hr, hg⟩
  · obtain ⟨h1, h2⟩ := hzb.2 h0
    rw [h1, show (((0 : Nat) : Int)) = 0 from rfl] at hand
    have HA := Lib.hid h2
    clear hzb h1 h2
    go_enter Try.func22, Try.ntmps22
    go_wp2_with fail
    refine HN.out.mono ?_
    rintro e w1 ⟨rfl, hr, hg⟩
    go_wp2_with fail
    go_ret
    exact ⟨ret_int (by rw [xor_i64_zero q hqb, HA.out]), hr, hg⟩

set_option maxHeartbeats 1000000 in
theorem textIn_live (B : Nat) (most : Int) (t l : List UInt8) (w : World) (h : Rd w B (Cod.enc t.length ++ (t ++ l))) (hx : (t.length : Int) ≤ most) (hm : most ≤ 9223372036854775807) (hl : (Cod.enc t.length ++ (t ++ l)).length ≤ 140737488355328) :
    Calls Try.prog 23 #[.pointer (some ⟨B, 0, none⟩), .int .i64 most] w (Got w B (.string ⟨t.toArray⟩) l) := by
  have hn := numIn_live B t.length most (t ++ l) w h hx hm hl
  rw [List.length_append] at hl
  have hl2 : (t ++ l).length ≤ 140737488355328 := by omega
  clear h hl
  go_enter Try.func23, Try.ntmps23
  go_wp2_with fail
  refine hn.mono ?_
  rintro e w1 ⟨rfl, hr, hg⟩
  have ht := take_live B t.length (t ++ l) w1 hr (by rw [List.length_append]; omega) hl2
  clear hn hr
  go_wp2_with fail
  refine ht.mono ?_
  rintro e w2 ⟨b, o, rfl, hc, hr2, hg2⟩
  rw [List.take_append_of_le_length (Nat.le_refl _), List.take_length] at hc
  rw [List.drop_append_of_le_length (Nat.le_refl _), List.drop_length, List.nil_append] at hr2
  have hcv := hc.lies.convert (P := Try.prog) t.length rfl t.length 22 5 9 Try.underlying22 Try.underlying5 Try.underlying9
  have R := Lib.hid hr2; have G := Lib.hid (grown_trans hg hg2)
  clear ht hr2 hg hg2 hc
  go_wp2_with fail
  go_ret
  exact ⟨rfl, R.out, G.out⟩
end Go.Proofs.Ytgdhaijaiogiiaa
