/- The contract of math/bits' TrailingZeros64, over its table. -/
import Derived.Test.YtmblkccfgncngaaDoorBitsOnes
namespace Go.Proofs.YtmblkccfgncngaaDoor
open Go Go.RowKit

namespace Bit
def tab : List Int := [0,1,56,2,57,49,28,3,61,58,42,50,38,29,17,4,62,47,59,36,45,43,51,22,53,39,33,30,24,18,12,5,63,55,48,27,60,41,37,16,46,35,44,21,52,32,23,11,54,26,40,15,34,20,31,10,25,14,19,9,13,8,7,6]
theorem tab_at : ∀ t : Fin 64, tab.getD (2 ^ t.val * 285870213051353865 % 18446744073709551616 / 288230376151711744) 0 = (t.val : Int) := by decide +kernel
/-- the first bit of a number -/
def IsLow (x t : Nat) : Prop := x.testBit t = true ∧ ∀ i, i < t → x.testBit i = false
theorem low_odd : ∀ x : Nat, 0 < x → ∃ t q, x = 2 ^ t * (2 * q + 1) := by
  intro x
  induction x using Nat.strongRecOn with
  | ind x ih =>
    intro hx
    rcases Nat.mod_two_eq_zero_or_one x with h | h
    · obtain ⟨t, q, e⟩ := ih (x / 2) (by omega) (by omega)
      refine ⟨t + 1, q, ?_⟩
      rw [Nat.pow_succ, Nat.mul_assoc, Nat.mul_comm (2 ^ t), Nat.mul_assoc, Nat.mul_comm (2 * q + 1), ← e]; omega
    · exact ⟨0, x / 2, by simp; omega⟩
theorem low_is (t q : Nat) : IsLow (2 ^ t * (2 * q + 1)) t := by
  refine ⟨?_, fun i hi => ?_⟩
  · rw [Nat.testBit_two_pow_mul]; simp
  · rw [Nat.testBit_two_pow_mul]; simp; omega
theorem low_lt {x t : Nat} (hx : x < 18446744073709551616) (h : IsLow x t) : t < 64 := by
  rcases Nat.lt_or_ge t 64 with e | e
  · exact e
  · have : x < 2 ^ t := Nat.lt_of_lt_of_le hx (Nat.pow_le_pow_right (n := 2) (i := 64) (by omega) e)
    have := Nat.testBit_lt_two_pow this
    rw [h.1] at this; cases this
theorem low_pos {x t : Nat} (h : IsLow x t) : 0 < x := by
  rcases Nat.eq_zero_or_pos x with rfl | h0
  · have := h.1; simp at this
  · exact h0
theorem low_unique {x t u : Nat} (h : IsLow x t) (k : IsLow x u) : t = u := by
  rcases Nat.lt_trichotomy t u with e | e | e
  · have := k.2 t e; rw [h.1] at this; cases this
  · exact e
  · have := h.2 u e; rw [k.1] at this; cases this
theorem low_and (x t : Nat) (hx : x < 18446744073709551616) (h : IsLow x t) : x &&& (18446744073709551616 - x) = 2 ^ t := by
  obtain ⟨u, q, e⟩ := low_odd x (low_pos h)
  obtain rfl : u = t := low_unique (by rw [e]; exact low_is u q) h
  have hu := low_lt hx h
  have hp : 0 < x := low_pos h
  have e2 : 18446744073709551616 - x = 2 ^ 64 - ((x - 1) + 1) := by omega
  have hlt : x - 1 < 2 ^ 64 := Nat.lt_of_le_of_lt (Nat.sub_le _ _) hx
  have hpu : 0 < 2 ^ u := Nat.two_pow_pos u
  have e3 : x - 1 = 2 ^ u * (2 * q) + (2 ^ u - 1) := by
    rw [e, Nat.mul_add, Nat.mul_one]; omega
  refine Nat.eq_of_testBit_eq fun i => ?_
  rw [Nat.testBit_and, e2, Nat.testBit_two_pow_sub_succ hlt, e3, Nat.testBit_two_pow_mul_add _ (by omega), Nat.testBit_two_pow, e, Nat.testBit_two_pow_mul, Nat.testBit_two_pow_sub_one]
  rcases Nat.lt_trichotomy i u with h1 | h1 | h1
  · simp [h1, show ¬ u ≤ i by omega]; omega
  · subst h1; simp [hu]
  · have h2 : ¬ i < u := by omega
    have h3 : u ≤ i := by omega
    have h4 : ¬ u = i := by omega
    have h5 : (2 * q + 1).testBit (i - u) = (2 * q).testBit (i - u) := by
      obtain ⟨d, hd⟩ : ∃ d, i - u = d + 1 := ⟨i - u - 1, by omega⟩
      rw [hd, Nat.testBit_succ, Nat.testBit_succ]
      congr 1; omega
    simp [h2, h3, h4, h5]
    intro a _; exact a
end Bit

/-- the table of math/bits -/
def DeB (w : World) : Prop := ∀ i, i < 64 → w.cell? ⟨0, i, none⟩ = some (.int .u8 (Bit.tab.getD i 0))
theorem DeB.below {w w' : World} (h : DeB w) (hb : Below w.heap.size w w') : DeB w' := fun i hi => by
  have := h i hi
  rw [hb.cell (p := ⟨0, i, none⟩) (World.block_lt_of_cell? w _ this)]; exact this

set_option maxHeartbeats 1000000 in
theorem trailing_is (x t : Nat) (hx : x < 18446744073709551616) (h : Bit.IsLow x t) (w : World) (hT : DeB w) : Calls Tryd.prog 47 #[.int .u64 x] w fun e w' => e = .returned (.int .i64 (t : Int)) ∧ w = w' := by
  have ht := Bit.low_lt hx h
  have hp := Bit.low_pos h
  have hx0 : ((x : Int) == 0) = false := by simp; omega
  have hx1 : ¬ (x : Int) = 0 := by omega
  have a1 : IntKind.u64.wrap (-(x : Int)) = ((18446744073709551616 - x : Nat) : Int) := by
    have : IntKind.u64.wrap (-(x : Int)) = (-(x : Int)) % 18446744073709551616 := by simp [IntKind.wrap, IntKind.bits, IntKind.signed]
    rw [this]; omega
  have a2 : bits .and .u64 (x : Int) ((18446744073709551616 - x : Nat) : Int) = ((2 ^ t : Nat) : Int) := by
    rw [u64_andN x _ hx (by omega), Bit.low_and x t hx h]
  obtain ⟨M, hM⟩ : ∃ M, M = 2 ^ t * 285870213051353865 % 18446744073709551616 := ⟨_, rfl⟩
  have a3 : IntKind.u64.wrap (((2 ^ t : Nat) : Int) * 285870213051353865) = (M : Int) := by
    have : IntKind.u64.wrap (((2 ^ t : Nat) : Int) * 285870213051353865) = (((2 ^ t : Nat) : Int) * 285870213051353865) % 18446744073709551616 := by simp [IntKind.wrap, IntKind.bits, IntKind.signed]
    rw [this, hM]
    generalize (2 ^ t : Nat) = Q
    omega
  have hMb : M < 18446744073709551616 := by rw [hM]; exact Nat.mod_lt _ (by decide)
  have hc := hT (M / 288230376151711744) (by omega)
  have hv : Bit.tab.getD (M / 288230376151711744) 0 = (t : Int) := by rw [hM]; exact Bit.tab_at ⟨t, ht⟩
  rw [hv] at hc
  generalize (2 ^ t : Nat) = Q at a2 a3 hM
  generalize (18446744073709551616 - x : Nat) = N at a1 a2
  have hcI : (M : Int) / 288230376151711744 = ((M / 288230376151711744 : Nat) : Int) := by omega
  obtain ⟨K, hK⟩ : ∃ K, K = M / 288230376151711744 := ⟨_, rfl⟩
  rw [← hK] at hc hcI
  have hK64 : K < 64 := by omega
  have hT2 : True := trivial
  clear hM hv hK hT h
  go_enter Tryd.func47, Tryd.ntmps47
  go_wp2
  go_ret
  exact ⟨rfl, rfl⟩
end Go.Proofs.YtmblkccfgncngaaDoor
