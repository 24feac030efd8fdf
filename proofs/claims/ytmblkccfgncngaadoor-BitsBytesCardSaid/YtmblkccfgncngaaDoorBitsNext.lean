/- Next of a set. -/
import Derived.Test.YtmblkccfgncngaaDoorBitsRank
namespace Go.Proofs.YtmblkccfgncngaaDoor
open Go Go.RowKit

namespace Bit
/-- f from m on -/
def from_ (f : Nat → Bool) (m : Nat) : Nat → Bool := fun i => f i && decide (m ≤ i)
theorem word_from (f : Nat → Bool) (m : Nat) : word f (m / 64) &&& (18446744073709551615 - (2 ^ (m % 64) - 1)) = word (from_ f m) (m / 64) := by
  refine word_of (Nat.lt_of_le_of_lt Nat.and_le_left (word_lt f _)) fun i hi => ?_
  have hp : 2 ^ (m % 64) - 1 < 2 ^ 64 := by have := two_pow_lt (m % 64) (by omega); omega
  have e : 18446744073709551615 - (2 ^ (m % 64) - 1) = 2 ^ 64 - ((2 ^ (m % 64) - 1) + 1) := by omega
  rw [Nat.testBit_and, word_bit, e, Nat.testBit_two_pow_sub_succ hp, below_bit]
  unfold from_
  by_cases h : i < m % 64
  · simp [h, show ¬ m ≤ 64 * (m / 64) + i by omega]
  · simp [h, hi, show m ≤ 64 * (m / 64) + i by omega]
theorem word_later (f : Nat → Bool) (m j : Nat) (h : m / 64 < j) : word f j = word (from_ f m) j :=
  word_congr fun i hi => by unfold from_; simp [show m ≤ 64 * j + i by omega]
theorem low_ex (x : Nat) (h : 0 < x) : ∃ t, IsLow x t := by
  obtain ⟨t, q, e⟩ := low_odd x h
  exact ⟨t, by rw [e]; exact low_is t q⟩
theorem next_found (f : Nat → Bool) (n m j t : Nat) (hp : ∀ i, n ≤ i → f i = false) (hno : ∀ i, m ≤ i → i < 64 * j → f i = false) (h : IsLow (word (from_ f m) j) t) : IsNext f n m ((64 * j + t : Nat) : Int) := by
  have ht : t < 64 := low_lt (word_lt _ _) h
  have h1 := h.1
  rw [word_bit] at h1
  unfold from_ at h1
  simp only [Bool.and_eq_true, decide_eq_true_eq] at h1
  refine .inl ⟨64 * j + t, rfl, h1.2.2, ?_, h1.2.1, fun i hi hlt => ?_⟩
  · rcases Nat.lt_or_ge (64 * j + t) n with e | e
    · exact e
    · have := hp _ e; rw [h1.2.1] at this; cases this
  · by_cases hj : i < 64 * j
    · exact hno i hi hj
    · have h2 := h.2 (i - 64 * j) (by omega)
      rw [word_bit, show 64 * j + (i - 64 * j) = i by omega] at h2
      unfold from_ at h2
      simpa [show i - 64 * j < 64 by omega, hi] using h2
end Bit

def RetNext (w : World) (f : Nat → Bool) (n m : Nat) (e : Ending) (w' : World) : Prop := ∃ r : Int, e = .returned (.int .i64 r) ∧ Bit.IsNext f n m r ∧ Below w.heap.size w w'
theorem next_out (p : Option Addr) (n : Nat) (i : Int) (w : World) (h : Sized p n w) (hn : n ≤ 65536) (hi : (n : Int) ≤ max i 0) : Calls Tryd.prog 16 #[.pointer p, .int .i64 i] w fun e w' => e = .returned (.int .i64 (-1)) ∧ w = w' := by
  by_cases h0 : i < 0
  · have W := Lib.hid (within_is p n 0 w h false (by simp; omega))
    clear h
    go_enter Tryd.func16, Tryd.ntmps16
    go_wp2_with fail
    refine W.out.mono ?_
    rintro e w' ⟨rfl, rfl⟩
    go_wp2
    go_ret
    exact ⟨rfl, rfl⟩
  · have W := Lib.hid (within_is p n i w h false (by simp; omega))
    clear h
    go_enter Tryd.func16, Tryd.ntmps16
    go_wp2_with fail
    refine W.out.mono ?_
    rintro e w' ⟨rfl, rfl⟩
    go_wp2
    go_ret
    exact ⟨rfl, rfl⟩

set_option maxHeartbeats 4000000 in
set_option maxRecDepth 100000 in
theorem next_nat (a G n : Nat) (f : Nat → Bool) (m : Nat) (w : World) (h : St w a G n f) (hT : DeB w) (hmn : m < n) :
    Calls Tryd.prog 16 #[.pointer (some ⟨a, 0, none⟩), .int .i64 m] w (RetNext w f n m) := by
  have W := Lib.hid (within_is (some ⟨a, 0, none⟩) n m w h.sized true (by simp; omega))
  have hle := h.le
  have hc1 := h.c1
  have PAST := Lib.hid h.past
  have H : Hid (∀ j, j < wcount n → w.cell? ⟨G, j, none⟩ = some (.int .u64 ((Bit.word f j : Nat) : Int))) := h.cell
  have hKn : n ≤ 64 * wcount n := by unfold wcount; omega
  have hK6 : wcount n ≤ 1024 := by unfold wcount; omega
  have HT := Lib.hid hT
  generalize wcount n = K at hc1 H hKn hK6
  have hjK : m / 64 < K := by omega
  have hjI : ((m / 64 : Nat) : Int) < K := by omega
  have hcw := H.out (m / 64) hjK
  have BQ := Lib.hid (below_q (m % 64) (by omega))
  have hand : bits .andNot .u64 ((Bit.word f (m / 64) : Nat) : Int) ((2 ^ (m % 64) - 1 : Nat) : Int) = ((Bit.word (Bit.from_ f m) (m / 64) : Nat) : Int) := by
    rw [u64_andNotN _ _ (Bit.word_lt _ _) (by have := Bit.two_pow_lt (m % 64) (by omega); omega), Bit.word_from]
  have hq : (m : Int) / 64 = ((m / 64 : Nat) : Int) := by omega
  have hr : (m : Int) % 64 = ((m % 64 : Nat) : Int) := by omega
  have hr2 : (m : Int).tmod 64 = ((m % 64 : Nat) : Int) := by rw [Int.tmod_eq_emod_of_nonneg (by omega)]; omega
  have hq2 : (m : Int).tdiv 64 = ((m / 64 : Nat) : Int) := by rw [Int.tdiv_eq_ediv_of_nonneg (by omega)]; omega
  generalize 2 ^ (m % 64) - 1 = P at BQ hand
  generalize Bit.word f (m / 64) = x at hcw hand
  obtain ⟨j0, hj0⟩ : ∃ j0, j0 = m / 64 := ⟨_, rfl⟩
  rw [← hj0] at hq hq2 hcw hjI hjK hand
  generalize m % 64 = r at hr hr2 BQ
  have HJ := Lib.hid hj0
  have hjm : 64 * j0 ≤ m := by omega
  have hm64 : m < 64 * j0 + 64 := by omega
  clear h hT hj0
  have hm0 : ¬ (m : Int) < 0 := by omega
  go_enter Tryd.func16, Tryd.ntmps16
  go_wp2_with fail
  refine W.out.mono ?_
  rintro e w' ⟨rfl, rfl⟩
  go_wp2
  go_quiet ((go_at_call 46; exact Calls.quiet_of_same (BQ.out _)))
  have HT2 : Hid (DeB (w.drewN nq)) := HT.out.below (drewN_b (Below.refl _ _) _)
  have H2 : Hid (∀ j, j < K → (w.drewN nq).cell? ⟨G, j, none⟩ = some (.int .u64 ((Bit.word f j : Nat) : Int))) := H.out
  have hc2 : (w.drewN nq).cell? ⟨a, 1, none⟩ = some (.slice (some ⟨G, 0, none⟩) K K) := hc1
  have BW : Hid (Below w.heap.size w (w.drewN nq)) := drewN_b (Below.refl _ _) _
  generalize w.drewN nq = w2 at HT2 H2 hc2 BW ⊢
  clear hcw hand hc1 H HT hr hr2 hq hq2 BQ
  go_wp2
  go_loop [5, 6] (fun j v => ∃ j' : Nat, j = .int .i64 j' ∧ v = .int .u64 ((Bit.word (Bit.from_ f m) j' : Nat) : Int) ∧ j0 ≤ j' ∧ j' < K ∧ ∀ i, m ≤ i → i < 64 * j' → f i = false) (fun j _ => K - (intOf j).toNat)
  case atStart => exact ⟨j0, rfl, rfl, Nat.le_refl _, hjK, fun i h1 h2 => by omega⟩
  case round =>
    obtain ⟨j, rfl, rfl, hj0, hjK2, hno⟩ := hrel
    have NO := Lib.hid hno
    have hwl := Bit.word_lt (Bit.from_ f m) j
    clear hno
    by_cases hz : Bit.word (Bit.from_ f m) j = 0
    · have NO2 : Hid (∀ i, m ≤ i → i < 64 * (j + 1) → f i = false) := fun i h1 h2 => by
        by_cases h3 : i < 64 * j
        · exact NO.out i h1 h3
        · have h4 := Bit.word_eq_zero hz (i - 64 * j) (by omega)
          rw [show 64 * j + (i - 64 * j) = i by omega] at h4
          unfold Bit.from_ at h4
          simpa [h1] using h4
      have hz1 : ((Bit.word (Bit.from_ f m) j : Nat) : Int) = 0 := by omega
      rw [hz1]
      clear hz hz1 hwl
      by_cases hend : j + 1 = K
      · have hend' : (j : Int) + 1 = K := by omega
        have NX : Hid (Bit.IsNext f n m (-1)) := .inr ⟨rfl, fun i h1 h2 => NO2.out i h1 (by omega)⟩
        clear hend
        go_wp2
        go_ret
        exact ⟨_, rfl, NX.out, BW.out⟩
      · have hc3 := H2.out (j + 1) (by omega)
        rw [Bit.word_later f m (j + 1) (by have := HJ.out; omega)] at hc3
        have hend' : ¬ (j : Int) + 1 = K := by omega
        have hjI2 : (j : Int) + 1 < K := by omega
        go_wp2
        go_round
        case rel => exact ⟨j + 1, by go_num, rfl, by omega, by omega, NO2.out⟩
        case measure => simp [intOf]; omega
    · obtain ⟨t, ht⟩ := Bit.low_ex (Bit.word (Bit.from_ f m) j) (by omega)
      have NX := Lib.hid (Bit.next_found f n m j t PAST.out NO.out ht)
      have TR := Lib.hid (trailing_is _ t hwl ht w2 HT2.out)
      have ht64 := Bit.low_lt hwl ht
      have hz' : ¬ ((Bit.word (Bit.from_ f m) j : Nat) : Int) = 0 := by omega
      clear ht
      generalize Bit.word (Bit.from_ f m) j = v at hz hz' hwl TR ⊢
      go_wp2_with fail
      refine TR.out.mono ?_
      rintro e w' ⟨rfl, rfl⟩
      go_wp2
      go_ret
      refine ⟨_, rfl, ?_, BW.out⟩
      have e : (j : Int) * 64 + (t : Int) = ((64 * j + t : Nat) : Int) := by omega
      show Bit.IsNext f n m ((j : Int) * 64 + t)
      rw [e]; exact NX.out
end Go.Proofs.YtmblkccfgncngaaDoor
