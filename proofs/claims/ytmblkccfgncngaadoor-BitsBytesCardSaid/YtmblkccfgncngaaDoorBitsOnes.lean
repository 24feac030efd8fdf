/- The contracts of math/bits' OnesCount64 and of bits' below. -/
import Derived.Test.YtmblkccfgncngaaDoorProg
import Derived.Test.YtmblkccfgncngaaDoorMem
import Derived.Test.YtmblkccfgncngaaDoorBitsSwar
import Derived.Laws.BitsLemmas
import Derived.Laws.BitsAllLaws
import Derived.Outline
namespace Go.Proofs.YtmblkccfgncngaaDoor
open Go Go.RowKit

theorem u64_fits (n : Int) (h0 : 0 ≤ n) (h1 : n < 2 ^ 64) : IntKind.u64.wrap n = n := by
  have : IntKind.u64.wrap n = n % 18446744073709551616 := by simp [IntKind.wrap, IntKind.bits, IntKind.signed]
  rw [this]; omega
theorem u64_nat (Q : Nat) (h : Q < 18446744073709551616) : IntKind.u64.wrap (Q : Int) = (Q : Int) := u64_fits _ (by omega) (by omega)
theorem pow_int (i : Nat) : ((2 : Int) ^ i) = ((2 ^ i : Nat) : Int) := by rw [Int.natCast_pow]; rfl
theorem pow_u64 (i : Nat) (hi : i < 64) : IntKind.u64.wrap ((2 : Int) ^ i) = ((2 ^ i : Nat) : Int) := by
  rw [pow_int]; exact u64_nat _ (Bit.two_pow_lt i hi)
theorem u64_andN (a b : Nat) (ha : a < 18446744073709551616) (hb : b < 18446744073709551616) : bits .and .u64 (a : Int) (b : Int) = ((a &&& b : Nat) : Int) :=
  (bits_nat .u64 64 (by decide) u64_fits a b ha hb).1
theorem u64_orN (a b : Nat) (ha : a < 18446744073709551616) (hb : b < 18446744073709551616) : bits .or .u64 (a : Int) (b : Int) = ((a ||| b : Nat) : Int) :=
  (bits_nat .u64 64 (by decide) u64_fits a b ha hb).2
theorem u64_andNotN (a b : Nat) (ha : a < 18446744073709551616) (hb : b < 18446744073709551616) : bits .andNot .u64 (a : Int) (b : Int) = ((a &&& (18446744073709551615 - b) : Nat) : Int) :=
  u64_andNot_nat a b ha hb
theorem i64_fits5 (n : Int) (h0 : 0 ≤ n) (h1 : n < 2 ^ 63) : IntKind.i64.wrap n = n := IntWalk.i64_in _ ⟨by omega, by omega⟩
theorem i64_mask127 (a : Nat) (ha : a < 9223372036854775808) : bits .and .i64 (a : Int) 127 = ((a % 128 : Nat) : Int) := by
  have := (bits_nat .i64 63 (by decide) i64_fits5 a 127 (by simpa using ha) (by omega)).1
  rw [show (127 : Int) = ((127 : Nat) : Int) from rfl, this, show (127 : Nat) = 2 ^ 7 - 1 from rfl, Nat.and_two_pow_sub_one_eq_mod]

set_option maxHeartbeats 2000000 in
set_option maxRecDepth 1000000 in
theorem onesCount64 (x : Nat) (hx : x < 18446744073709551616) (w : World) : Calls Tryd.prog 45 #[.int .u64 x] w fun e w' => e = .returned (.int .i64 (Bit.ones x : Nat)) ∧ w = w' := by
  obtain ⟨y1, hy1⟩ : ∃ y1, y1 = x / 2 &&& Bit.m0 := ⟨_, rfl⟩
  obtain ⟨y2, hy2⟩ : ∃ y2, y2 = x &&& Bit.m0 := ⟨_, rfl⟩
  have b1 : y1 ≤ 6148914691236517205 := by rw [hy1]; exact Nat.and_le_right
  have b2 : y2 ≤ 6148914691236517205 := by rw [hy2]; exact Nat.and_le_right
  have a1 : bits .and .u64 ((x : Int) / 2) 6148914691236517205 = (y1 : Int) := by
    rw [hy1, show ((x : Int) / 2) = ((x / 2 : Nat) : Int) from by omega]; exact u64_andN (x / 2) Bit.m0 (by omega) (by decide)
  have a2 : bits .and .u64 (x : Int) 6148914691236517205 = (y2 : Int) := by
    rw [hy2]; exact u64_andN x Bit.m0 hx (by decide)
  obtain ⟨z1, hz1⟩ : ∃ z1, z1 = (y1 + y2) / 4 &&& Bit.m1 := ⟨_, rfl⟩
  obtain ⟨z2, hz2⟩ : ∃ z2, z2 = (y1 + y2) &&& Bit.m1 := ⟨_, rfl⟩
  have b3 : z1 ≤ 3689348814741910323 := by rw [hz1]; exact Nat.and_le_right
  have b4 : z2 ≤ 3689348814741910323 := by rw [hz2]; exact Nat.and_le_right
  have a3 : bits .and .u64 (((y1 : Int) + y2) / 4) 3689348814741910323 = (z1 : Int) := by
    rw [hz1, show (((y1 : Int) + y2) / 4) = (((y1 + y2) / 4 : Nat) : Int) from by omega]; exact u64_andN ((y1 + y2) / 4) Bit.m1 (by omega) (by decide)
  have a4 : bits .and .u64 ((y1 : Int) + y2) 3689348814741910323 = (z2 : Int) := by
    rw [hz2, show ((y1 : Int) + y2) = ((y1 + y2 : Nat) : Int) from by omega]; exact u64_andN (y1 + y2) Bit.m1 (by omega) (by decide)
  obtain ⟨u, hu⟩ : ∃ u, u = ((z1 + z2) / 16 + (z1 + z2)) &&& Bit.m2 := ⟨_, rfl⟩
  have b5 : u ≤ 1085102592571150095 := by rw [hu]; exact Nat.and_le_right
  have a5 : bits .and .u64 (((z1 : Int) + z2) / 16 + ((z1 : Int) + z2)) 1085102592571150095 = (u : Int) := by
    rw [hu, show (((z1 : Int) + z2) / 16 + ((z1 : Int) + z2)) = (((z1 + z2) / 16 + (z1 + z2) : Nat) : Int) from by omega]; exact u64_andN ((z1 + z2) / 16 + (z1 + z2)) Bit.m2 (by omega) (by decide)
  obtain ⟨s, r4, r5, r6⟩ := Bit.swar x hx (y1 + y2) (z1 + z2) u (u + u / 256) ((u + u / 256) + (u + u / 256) / 65536) (((u + u / 256) + (u + u / 256) / 65536) + ((u + u / 256) + (u + u / 256) / 65536) / 4294967296)
    (by rw [hy1, hy2]) (by rw [hz1, hz2]) hu rfl rfl rfl
  clear hy1 hy2 hz1 hz2 hu
  rw [← s]
  obtain ⟨v4, h4⟩ : ∃ v4, v4 = u + u / 256 := ⟨_, rfl⟩
  rw [← h4] at r4 r5 r6 ⊢
  have i4 : (u : Int) + (u : Int) / 256 = (v4 : Int) := by omega
  have c4 : v4 ≤ 1200000000000000000 := by omega
  obtain ⟨v5, h5⟩ : ∃ v5, v5 = v4 + v4 / 65536 := ⟨_, rfl⟩
  rw [← h5] at r5 r6 ⊢
  have i5 : (v4 : Int) + (v4 : Int) / 65536 = (v5 : Int) := by omega
  have c5 : v5 ≤ 1300000000000000000 := by omega
  obtain ⟨v6, h6⟩ : ∃ v6, v6 = v5 + v5 / 4294967296 := ⟨_, rfl⟩
  rw [← h6] at r6 ⊢
  have i6 : (v5 : Int) + (v5 : Int) / 4294967296 = (v6 : Int) := by omega
  have c6 : v6 ≤ 1400000000000000000 := by omega
  have a6 := i64_mask127 v6 (by omega)
  clear s h4 h5 h6 r4 r5 r6
  go_enter Tryd.func45, Tryd.ntmps45
  go_wp2
  go_ret
  exact ⟨rfl, rfl⟩

theorem below_is (i : Nat) (hi : i < 64) (w : World) : Calls Tryd.prog 46 #[.int .i64 i] w fun e w' => e = .returned (.int .u64 ((2 ^ i - 1 : Nat) : Int)) ∧ w = w' := by
  go_enter Tryd.func46, Tryd.ntmps46
  have hp := pow_u64 i hi
  have h1 : 0 < 2 ^ i := Nat.two_pow_pos i
  have h2 := Bit.two_pow_lt i hi
  generalize (2 ^ i : Nat) = Q at *
  have hs : IntKind.u64.wrap ((Q : Int) - 1) = ((Q - 1 : Nat) : Int) := by
    have e : (Q : Int) - 1 = ((Q - 1 : Nat) : Int) := by omega
    rw [e]; exact u64_nat _ (by omega)
  go_wp2
  go_ret
  exact ⟨rfl, rfl⟩
end Go.Proofs.YtmblkccfgncngaaDoor
