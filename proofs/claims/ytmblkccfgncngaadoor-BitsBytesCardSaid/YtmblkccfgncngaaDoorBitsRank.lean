/- Rank and Count of a set. -/
import Derived.Test.YtmblkccfgncngaaDoorBitsPut
namespace Go.Proofs.YtmblkccfgncngaaDoor
open Go Go.RowKit

theorem drewN_b {B : Nat} {a w : World} (h : Below B a w) (n : Nat) : Below B a (w.drewN n) := ⟨h.os, h.tape, h.output, h.size, h.block⟩
def RetC (w : World) (n : Nat) (e : Ending) (w' : World) : Prop := e = .returned (.int .i64 (n : Int)) ∧ Below w.heap.size w w'
theorem ones_q (x : Nat) (hx : x < 18446744073709551616) (w : World) : Calls Tryd.prog 45 #[.int .u64 x] w fun e w' => e = .returned (.int .i64 (Bit.ones x : Nat)) ∧ w' = w := (onesCount64 x hx w).mono fun _ _ ⟨a, b⟩ => ⟨a, b.symm⟩
theorem below_q (i : Nat) (hi : i < 64) (w : World) : Calls Tryd.prog 46 #[.int .i64 i] w fun e w' => e = .returned (.int .u64 ((2 ^ i - 1 : Nat) : Int)) ∧ w' = w := (below_is i hi w).mono fun _ _ ⟨a, b⟩ => ⟨a, b.symm⟩
def OnesQ : Prop := ∀ (x : Nat) (_ : x < 18446744073709551616) (w : World), Calls Tryd.prog 45 #[.int .u64 x] w fun e w' => e = .returned (.int .i64 (Bit.ones x : Nat)) ∧ w' = w

/-- of no size -/
theorem rank_none (p : Option Addr) (i : Int) (w : World) (h : Sized p 0 w) (h1 : -9223372036854775808 ≤ i) (h2 : i ≤ 9223372036854775807) : Calls Tryd.prog 14 #[.pointer p, .int .i64 i] w fun e w' => e = .returned (.int .i64 0) ∧ w = w' := by
  have S := Lib.hid h.calls
  clear h
  rcases (show i < 0 ∨ i = 0 ∨ 0 < i by omega) with hi | rfl | hi
  all_goals
    go_enter Tryd.func14, Tryd.ntmps14
    go_wp2_with fail
    refine S.out.mono ?_
    rintro e w' ⟨rfl, rfl⟩
    go_wp2
    all_goals
      go_loop [5, 14] (fun n i => n = .int .i64 0 ∧ i = .int .i64 0) (fun _ _ => 0)
      case atStart => exact ⟨rfl, rfl⟩
      case round =>
        obtain ⟨rfl, rfl⟩ := hrel
        go_wp2
        go_ret
        exact ⟨rfl, rfl⟩

set_option maxHeartbeats 4000000 in
set_option maxRecDepth 100000 in
theorem rank_is (a G n : Nat) (f : Nat → Bool) (i : Int) (m : Nat) (w : World) (h : St w a G n f) (hn0 : 0 < n) (h1 : -9223372036854775808 ≤ i) (h2 : i ≤ 9223372036854775807) (hm : (m : Int) = min (max i 0) n) :
    Calls Tryd.prog 14 #[.pointer (some ⟨a, 0, none⟩), .int .i64 i] w (RetC w (Bit.cnt f m)) := by
  have S := Lib.hid (h.sized.calls)
  have hle := h.le
  have hc1 := h.c1
  have H : Hid (∀ j, j < wcount n → w.cell? ⟨G, j, none⟩ = some (.int .u64 ((Bit.word f j : Nat) : Int))) := h.cell
  have hKn : n ≤ 64 * wcount n := by unfold wcount; omega
  have hK6 : wcount n ≤ 1024 := by unfold wcount; omega
  generalize wcount n = K at hc1 H hKn hK6
  have hmn : m ≤ n := by omega
  have hcl := Bit.cnt_le f
  have HCL := Lib.hid hcl
  obtain ⟨R, hR⟩ : ∃ R, R = Bit.cnt f m := ⟨_, rfl⟩
  rw [← hR]
  have HR := Lib.hid hR
  clear h hR hcl
  have key : i < 0 ∧ m = 0 ∨ (0 ≤ i ∧ i ≤ n) ∧ i = m ∨ n < i ∧ m = n := by omega
  clear hm
  rcases key with ⟨k1, rfl⟩ | ⟨⟨k1, k2⟩, rfl⟩ | ⟨k1, rfl⟩
  · have HR0 : Hid (R = 0) := HR.out
    go_enter Tryd.func14, Tryd.ntmps14
    go_wp2_with fail
    refine S.out.mono ?_
    rintro e w' ⟨rfl, rfl⟩
    go_wp2
    go_loop [5, 14] (fun n i => n = .int .i64 0 ∧ i = .int .i64 0) (fun _ _ => 0)
    case atStart => exact ⟨rfl, rfl⟩
    case round =>
      obtain ⟨rfl, rfl⟩ := hrel
      go_wp2
      go_ret
      exact ⟨by rw [HR0.out]; rfl, Below.refl _ _⟩
  all_goals
    go_enter Tryd.func14, Tryd.ntmps14
    go_wp2_with fail
    refine S.out.mono ?_
    rintro e w' ⟨rfl, rfl⟩
    go_wp2
    go_loop [5, 14] (fun c i => ∃ j : Nat, j ≤ m / 64 ∧ i = .int .i64 j ∧ c = .int .i64 (Bit.cnt f (64 * j) : Nat)) (fun _ i => m / 64 - (intOf i).toNat)
    case atStart => exact ⟨0, Nat.zero_le _, rfl, rfl⟩
    case round =>
      obtain ⟨j, hj, rfl, rfl⟩ := hrel
      have hcj := HCL.out (64 * j)
      by_cases hlt : j < m / 64
      · have hlt' : (j : Int) < (m : Int) / 64 := by omega
        have hjw : j < K := by omega
        have hjw' : (j : Int) < K := by omega
        have hcw := H.out j hjw
        have hwl := Bit.word_lt f j
        have ON := Lib.hid (Bit.ones_word f j)
        have O := Lib.hid (onesCount64 (Bit.word f j) hwl w)
        have hon := HCL.out (64 * j + 64)
        have hon2 : Bit.cnt f (64 * j) + Bit.ones (Bit.word f j) ≤ 64 * j + 64 := by rw [ON.out]; exact hon
        clear hon
        generalize Bit.word f j = x at hcw hwl ON O hon2
        generalize Bit.ones x = o at ON O hon2
        obtain ⟨c, hc⟩ : ∃ c, c = Bit.cnt f (64 * j) := ⟨_, rfl⟩
        rw [← hc] at ON hon2 hcj ⊢
        clear hc
        go_wp2_with fail
        refine O.out.mono ?_
        rintro e w' ⟨rfl, rfl⟩
        go_wp2
        go_round
        case rel => exact ⟨j + 1, by omega, by go_num, by rw [show 64 * (j + 1) = 64 * j + 64 by omega, ← ON.out]; go_num⟩
        case measure => simp [intOf]; omega
      · obtain rfl : j = m / 64 := by omega
        have hlt' : ¬ ((m / 64 : Nat) : Int) < (m : Int) / 64 := by omega
        by_cases hm0 : 0 < m % 64
        · have hjw : m / 64 < K := by omega
          have hcw := H.out (m / 64) hjw
          have hwl := Bit.word_lt f (m / 64)
          have ON := Lib.hid (Bit.ones_below f (m / 64) (m % 64) (by omega))
          rw [show 64 * (m / 64) + m % 64 = m by omega, ← HR.out] at ON
          have hAL : Bit.word f (m / 64) &&& (2 ^ (m % 64) - 1) < 18446744073709551616 := Nat.lt_of_le_of_lt Nat.and_le_left hwl
          have O := Lib.hid (fun w => ones_q _ hAL w)
          have BQ := Lib.hid (below_q (m % 64) (by omega))
          have hand : bits .and .u64 ((Bit.word f (m / 64) : Nat) : Int) ((2 ^ (m % 64) - 1 : Nat) : Int) = ((Bit.word f (m / 64) &&& (2 ^ (m % 64) - 1) : Nat) : Int) :=
            u64_andN _ _ hwl (by have := Bit.two_pow_lt (m % 64) (by omega); omega)
          have hq : (m : Int) / 64 = ((m / 64 : Nat) : Int) := by omega
          have hr : (m : Int) % 64 = ((m % 64 : Nat) : Int) := by omega
          have hq2 : (m : Int).tdiv 64 = ((m / 64 : Nat) : Int) := by rw [Int.tdiv_eq_ediv_of_nonneg (by omega)]; omega
          have hr2 : (m : Int).tmod 64 = ((m % 64 : Nat) : Int) := by rw [Int.tmod_eq_emod_of_nonneg (by omega)]; omega
          have hR := HCL.out m
          rw [← HR.out] at hR
          have hm0' : (0 : Int) < (m % 64 : Nat) := by omega
          have hjI : ((m / 64 : Nat) : Int) < K := by omega
          generalize 2 ^ (m % 64) - 1 = P at ON hAL O BQ hand
          generalize Bit.word f (m / 64) &&& P = y at ON hAL O hand
          generalize Bit.word f (m / 64) = x at hcw hwl hand
          generalize Bit.ones y = o at ON O
          obtain ⟨c, hc⟩ : ∃ c, c = Bit.cnt f (64 * (m / 64)) := ⟨_, rfl⟩
          rw [← hc] at ON hcj ⊢
          have hsum : IntKind.i64.wrap ((c : Int) + o) = (R : Int) := by
            have := ON.out
            rw [IntWalk.i64_in _ ⟨by omega, by omega⟩]; omega
          have hsum2 : (c : Int) + o = (R : Int) := by have := ON.out; omega
          generalize m / 64 = j at hcw hq hq2 hjw hjI hj hlt'
          generalize m % 64 = r at hr hr2 hm0 hm0' BQ
          clear hc HR
          go_wp2
          go_quiet ((first | (go_at_call 46; exact Calls.quiet_of_same (BQ.out _)) | (go_at_call 45; exact Calls.quiet_of_same (O.out _))))
          go_wp2
          go_ret
          exact ⟨rfl, drewN_b (Below.refl _ _) _⟩
        · have HR2 : Hid (Bit.cnt f (64 * (m / 64)) = R) := by
            show Bit.cnt f (64 * (m / 64)) = R
            rw [HR.out, show 64 * (m / 64) = m by omega]
          have hm0' : ¬ (0 : Int) < (m : Int) % 64 := by omega
          go_wp2
          go_ret
          exact ⟨by rw [HR2.out]; rfl, Below.refl _ _⟩
end Go.Proofs.YtmblkccfgncngaaDoor
