/- Next of a set, from any number. -/
import Derived.Test.YtmblkccfgncngaaDoorBitsRefs
import Derived.Test.YtmblkccfgncngaaDoorEqualI
import Derived.Test.YtmblkccfgncngaaDoorRegionFree
namespace Go.Proofs.YtmblkccfgncngaaDoor
open Go Go.RowKit

set_option maxHeartbeats 4000000 in
set_option maxRecDepth 100000 in
theorem next_neg (a G n : Nat) (f : Nat → Bool) (x : Int) (w : World) (h : St w a G n f) (hT : DeB w) (hx : x < 0) (hn : 0 < n) :
    Calls Tryd.prog 16 #[.pointer (some ⟨a, 0, none⟩), .int .i64 x] w (RetNext w f n 0) := by
  have W := Lib.hid (within_is (some ⟨a, 0, none⟩) n 0 w h.sized true (by simp; omega))
  have hle := h.le
  have hc1 := h.c1
  have PAST := Lib.hid h.past
  have H : Hid (∀ j, j < wcount n → w.cell? ⟨G, j, none⟩ = some (.int .u64 ((Bit.word f j : Nat) : Int))) := h.cell
  have hKn : n ≤ 64 * wcount n := by unfold wcount; omega
  have hK6 : wcount n ≤ 1024 := by unfold wcount; omega
  have HT := Lib.hid hT
  generalize wcount n = K at hc1 H hKn hK6
  have hjK : 0 < K := by omega
  have hjI : (0 : Int) < K := by omega
  have hcw := H.out 0 hjK
  have BQ := Lib.hid (below_q 0 (by omega))
  have hand : bits .andNot .u64 ((Bit.word f 0 : Nat) : Int) 0 = ((Bit.word (Bit.from_ f 0) 0 : Nat) : Int) := by
    have := u64_andNotN (Bit.word f 0) (2 ^ 0 - 1) (Bit.word_lt _ _) (by decide)
    rw [show (2 : Nat) ^ 0 - 1 = 0 from rfl] at this
    rw [show (0 : Int) = ((0 : Nat) : Int) from rfl, this]
    have h2 := Bit.word_from f 0
    rw [show (0 : Nat) / 64 = 0 from rfl, show (0 : Nat) % 64 = 0 from rfl] at h2
    rw [← h2]
  generalize Bit.word f 0 = x0 at hcw hand
  have HJ : Hid ((0 : Nat) ≤ 0) := Nat.le_refl 0
  clear h hT
  go_enter Tryd.func16, Tryd.ntmps16
  go_wp2_with fail
  refine W.out.mono ?_
  rintro e w' ⟨rfl, rfl⟩
  go_wp2
  go_quiet ((go_at_call 46; exact Calls.quiet_of_same (BQ.out _)))
  have HT2 : Hid (DeB (w.drewN nq)) := HT.out.below (drewN_b (Below.refl _ _) _)
  have H2 : Hid (∀ j, j < K → (w.drewN nq).cell? ⟨G, j, none⟩ = some (.int .u64 ((Bit.word f j : Nat) : Int))) := H.out
  have hc2 : (w.drewN nq).cell? ⟨a, 1, none⟩ = some (.slice (some ⟨G, 0, none⟩) K K) := hc1
  have BW : Hid (Below w.heap.size w (w.drewN nq)) := drewN_b (Below.refl _ _) _
  generalize w.drewN nq = w2 at HT2 H2 hc2 BW ⊢
  clear hcw hand hc1 H HT BQ
  go_wp2
  go_loop [5, 6] (fun j v => ∃ j' : Nat, j = .int .i64 j' ∧ v = .int .u64 ((Bit.word (Bit.from_ f 0) j' : Nat) : Int) ∧ j' < K ∧ ∀ i, i < 64 * j' → f i = false) (fun j _ => K - (intOf j).toNat)
  case atStart => exact ⟨0, rfl, rfl, hjK, fun i h2 => by omega⟩
  case round =>
    obtain ⟨j, rfl, rfl, hjK2, hno⟩ := hrel
    have NO := Lib.hid hno
    have hwl := Bit.word_lt (Bit.from_ f 0) j
    clear hno
    by_cases hz : Bit.word (Bit.from_ f 0) j = 0
    · have NO2 : Hid (∀ i, i < 64 * (j + 1) → f i = false) := fun i h2 => by
        by_cases h3 : i < 64 * j
        · exact NO.out i h3
        · have h4 := Bit.word_eq_zero hz (i - 64 * j) (by omega)
          rw [show 64 * j + (i - 64 * j) = i by omega] at h4
          unfold Bit.from_ at h4
          simpa using h4
      have hz1 : ((Bit.word (Bit.from_ f 0) j : Nat) : Int) = 0 := by omega
      rw [hz1]
      clear hz hz1 hwl
      by_cases hend : j + 1 = K
      · have hend' : (j : Int) + 1 = K := by omega
        have NX : Hid (Bit.IsNext f n 0 (-1)) := .inr ⟨rfl, fun i h1 h2 => NO2.out i (by omega)⟩
        clear hend
        go_wp2
        go_ret
        exact ⟨_, rfl, NX.out, BW.out⟩
      · have hc3 := H2.out (j + 1) (by omega)
        rw [Bit.word_later f 0 (j + 1) (by omega)] at hc3
        have hend' : ¬ (j : Int) + 1 = K := by omega
        have hjI2 : (j : Int) + 1 < K := by omega
        go_wp2
        go_round
        case rel => exact ⟨j + 1, by go_num, rfl, by omega, NO2.out⟩
        case measure => simp [intOf]; omega
    · obtain ⟨t, ht⟩ := Bit.low_ex (Bit.word (Bit.from_ f 0) j) (by omega)
      have NX := Lib.hid (Bit.next_found f n 0 j t PAST.out (fun i _ h2 => NO.out i h2) ht)
      have TR := Lib.hid (trailing_is _ t hwl ht w2 HT2.out)
      have ht64 := Bit.low_lt hwl ht
      have hz' : ¬ ((Bit.word (Bit.from_ f 0) j : Nat) : Int) = 0 := by omega
      clear ht
      generalize Bit.word (Bit.from_ f 0) j = v at hz hz' hwl TR ⊢
      go_wp2_with fail
      refine TR.out.mono ?_
      rintro e w' ⟨rfl, rfl⟩
      go_wp2
      go_ret
      refine ⟨_, rfl, ?_, BW.out⟩
      have e : (j : Int) * 64 + (t : Int) = ((64 * j + t : Nat) : Int) := by omega
      show Bit.IsNext f n 0 ((j : Int) * 64 + t)
      rw [e]; exact NX.out

theorem next_all (a G n : Nat) (f : Nat → Bool) (i : Int) (w : World) (h : St w a G n f) (hT : DeB w) : Calls Tryd.prog 16 #[.pointer (some ⟨a, 0, none⟩), .int .i64 i] w (RetNext w f n i.toNat) := by
  by_cases hi : 0 ≤ i
  · obtain ⟨k, rfl⟩ := Int.eq_ofNat_of_zero_le hi
    exact next_any a G n f k w h hT
  · by_cases hn : 0 < n
    · rw [show i.toNat = 0 by omega]
      exact next_neg a G n f i w h hT (by omega) hn
    · exact (next_out _ n i w h.sized h.le (by omega)).mono fun e w' ⟨h1, h2⟩ => ⟨-1, h1, .inr ⟨rfl, fun i h3 h4 => by omega⟩, by subst h2; exact Below.refl _ _⟩
/-- Rank of any number -/
theorem rank_all (a G n : Nat) (f : Nat → Bool) (i : Int) (w : World) (h : St w a G n f) (h1 : -9223372036854775808 ≤ i) (h2 : i ≤ 9223372036854775807) : Calls Tryd.prog 14 #[.pointer (some ⟨a, 0, none⟩), .int .i64 i] w (RetC w (Bit.cnt f (upto n i))) := by
  by_cases hn : n = 0
  · subst hn
    have e : upto 0 i = 0 := by unfold upto; omega
    rw [e]
    exact (rank_none _ i w h.sized h1 h2).mono fun e w' ⟨h3, h4⟩ => ⟨h3, by subst h4; exact Below.refl _ _⟩
  · exact rank_is a G n f i (upto n i) w h (by omega) h1 h2 (upto_is n i)
set_option linter.unusedVariables false

set_option maxHeartbeats 4000000 in
set_option maxRecDepth 100000 in
theorem same_is (a G a2 G2 n : Nat) (f : Nat → Bool) (w : World) (h : St w a G n f) (k : RSt w a2 G2 n f) (hT : DeB w) : Calls Tryd.prog 11 #[.pointer (some ⟨a, 0, none⟩), .pointer (some ⟨a2, 0, none⟩)] w (Yes w) := by
  have hle := h.le
  have hlen : (Bit.nums f n).length = Bit.cnt f n := Bit.nums_len f n
  have hcn := Bit.cnt_le f n
  have H := Lib.hid h; have K := Lib.hid k; have HT := Lib.hid hT
  clear h k hT
  go_enter Tryd.func11, Tryd.ntmps11
  go_wp2
  have SZ := H.out.sized.calls
  have bd : Below w.heap.size w w.drew := (Below.refl _ _).drew
  have Hd := H.out.below bd; have Kd := K.out.below bd; have Td := HT.out.below bd
  refine rg_start (n := 24) (S := fun w' => w'.cell? ⟨a2, 0, none⟩ = some (.slice (some ⟨G2, 0, none⟩) n n)) (by kernel_rfl) rfl Kd.c0 ?_
  refine rg_pure 0 rfl (.pointer (some ⟨a, 0, none⟩)) (by kernel_rfl) (by kernel_rfl) (by kernel_rfl) (fun _ _ _ _ h => h) (by kernel_rfl) (fun _ => by kernel_rfl) Kd.c0 ?_
  refine rg_pure 2 rfl (.pointer (some ⟨a2, 0, none⟩)) (by kernel_rfl) (by kernel_rfl) (by kernel_rfl) (fun _ _ _ _ h => h) (by kernel_rfl) (fun _ => by kernel_rfl) Kd.c0 ?_
  refine rg_pure 3 rfl (.pointer (some ⟨a2, 0, none⟩)) (by kernel_rfl) (by kernel_rfl) (by kernel_rfl) (fun _ _ _ _ h => h) (by kernel_rfl) (fun _ => by kernel_rfl) Kd.c0 ?_
  refine rg_pure 4 rfl (.pointer (some ⟨a2, 0, none⟩)) (by kernel_rfl) (by kernel_rfl) (by kernel_rfl) (fun _ _ _ _ h => h) (by kernel_rfl) (fun _ => by kernel_rfl) Kd.c0 ?_
  refine rg_load 5 rfl (by kernel_rfl) (by kernel_rfl) (by kernel_rfl) (fun _ _ _ _ h => h) (by kernel_rfl) _ _ rfl Tryd.underlying64 rfl ⟨a2, 0, none⟩ (.slice (some ⟨G2, 0, none⟩) n n) (by kernel_rfl) (fun _ h => h) Kd.c0 ?_
  refine rg_pure 6 rfl (.int .i64 (n : Int)) (by kernel_rfl) (by kernel_rfl) (by kernel_rfl) (fun _ _ _ _ h => h) (by kernel_rfl) (fun _ => by kernel_rfl) Kd.c0 ?_
  refine rg_call 1 (by kernel_rfl) rfl (by kernel_rfl) 20 #[.pointer (some ⟨a, 0, none⟩)] (by kernel_rfl) Hd.sized.calls ?_
  rintro e w' ⟨rfl, rfl⟩
  refine ⟨_, rfl, Kd.c0, ?_⟩
  refine rg_pure 7 rfl (.bool true) (by kernel_rfl) (by kernel_rfl) (by kernel_rfl) (fun _ _ _ _ h => h) (by kernel_rfl) (exec_eqlI _ _ _ _ rfl (n : Int) (by kernel_rfl) (by kernel_rfl)) Kd.c0 ?_
  refine rg_pure 8 rfl (.bool true) (by kernel_rfl) (by kernel_rfl) (by kernel_rfl) (fun _ _ _ _ h => h) (by kernel_rfl) (fun _ => by kernel_rfl) Kd.c0 ?_
  refine rg_pure 9 rfl (.pointer (some ⟨a, 0, none⟩)) (by kernel_rfl) (by kernel_rfl) (by kernel_rfl) (fun _ _ _ _ h => h) (by kernel_rfl) (fun _ => by kernel_rfl) Kd.c0 ?_
  refine rg_pure 11 rfl (.pointer (some ⟨a2, 0, none⟩)) (by kernel_rfl) (by kernel_rfl) (by kernel_rfl) (fun _ _ _ _ h => h) (by kernel_rfl) (fun _ => by kernel_rfl) Kd.c0 ?_
  refine rg_call 10 (by kernel_rfl) rfl (by kernel_rfl) 40 #[.pointer (some ⟨a, 0, none⟩)] (by kernel_rfl) (list_is a G n f w.drew Hd Td) ?_
  rintro e w1 ⟨v1, rfl, ho1, hb1⟩
  obtain ⟨_, p1, c1, rfl, hc1, hL1, _⟩ := own_liesI ho1
  have b1 := thenBelow bd hb1
  have K1 := Kd.below hb1; have H1 := Hd.below hb1
  refine ⟨_, rfl, K1.c0, ?_⟩
  refine rg_call 12 (by kernel_rfl) rfl (by kernel_rfl) 43 #[.pointer (some ⟨a2, 0, none⟩)] (by kernel_rfl) (refList_is a2 G2 n f w1 K1) ?_
  rintro e w2 ⟨v2, rfl, ho2, hb2⟩
  obtain ⟨_, p2, c2, rfl, hc2, hL2, _⟩ := own_liesI ho2
  have b2 := thenBelow b1 hb2
  have K2 := K1.below hb2; have H2 := H1.below hb2
  refine ⟨_, rfl, K2.c0, ?_⟩
  refine rg_call 13 (by kernel_rfl) rfl (by kernel_rfl) 39 #[.slice p1 (castsN (Bit.nums f n)).length c1, .slice p2 (castsN (Bit.nums f n)).length c2] (by kernel_rfl) (equalI_any p1 p2 c1 c2 _ w2 (hL1.below hb2) hL2 (by rw [castsN_len, hlen]; omega)) ?_
  rintro e w3 ⟨rfl, hb3⟩
  have b3 := thenBelow b2 hb3
  have K3 := K2.below hb3; have H3 := H2.below hb3
  refine ⟨_, rfl, K3.c0, ?_⟩
  refine rg_pure 14 rfl (.bool true) (by kernel_rfl) (by kernel_rfl) (by kernel_rfl) (fun _ _ _ _ h => h) (by kernel_rfl) (fun _ => by kernel_rfl) K3.c0 ?_
  refine rg_pure 15 rfl (.bool true) (by kernel_rfl) (by kernel_rfl) (by kernel_rfl) (fun _ _ _ _ h => h) (by kernel_rfl) (fun _ => by kernel_rfl) K3.c0 ?_
  refine rg_pure 16 rfl (.pointer (some ⟨a, 0, none⟩)) (by kernel_rfl) (by kernel_rfl) (by kernel_rfl) (fun _ _ _ _ h => h) (by kernel_rfl) (fun _ => by kernel_rfl) K3.c0 ?_
  refine rg_pure 18 rfl (.pointer (some ⟨a2, 0, none⟩)) (by kernel_rfl) (by kernel_rfl) (by kernel_rfl) (fun _ _ _ _ h => h) (by kernel_rfl) (fun _ => by kernel_rfl) K3.c0 ?_
  refine rg_call 17 (by kernel_rfl) rfl (by kernel_rfl) 21 #[.pointer (some ⟨a, 0, none⟩)] (by kernel_rfl) (count_is a G n f w3 H3) ?_
  rintro e w4 ⟨rfl, hb4⟩
  have b4 := thenBelow b3 hb4
  have K4 := K3.below hb4
  refine ⟨_, rfl, K4.c0, ?_⟩
  refine rg_call 19 (by kernel_rfl) rfl (by kernel_rfl) 43 #[.pointer (some ⟨a2, 0, none⟩)] (by kernel_rfl) (refList_is a2 G2 n f w4 K4) ?_
  rintro e w5 ⟨v5, rfl, ho5, hb5⟩
  obtain ⟨_, p5, c5, rfl, _, _, _⟩ := own_liesI ho5
  have b5 := thenBelow b4 hb5
  have K5 := K4.below hb5
  rw [castsN_len, hlen]
  refine ⟨_, rfl, K5.c0, ?_⟩
  refine rg_pure 20 rfl (.int .i64 (Bit.cnt f n : Nat)) (by kernel_rfl) (by kernel_rfl) (by kernel_rfl) (fun _ _ _ _ h => h) (by kernel_rfl) (fun _ => by kernel_rfl) K5.c0 ?_
  refine rg_pure 21 rfl (.bool true) (by kernel_rfl) (by kernel_rfl) (by kernel_rfl) (fun _ _ _ _ h => h) (by kernel_rfl) (exec_eqlI _ _ _ _ rfl (Bit.cnt f n : Nat) (by kernel_rfl) (by kernel_rfl)) K5.c0 ?_
  refine rg_pure 22 rfl (.bool true) (by kernel_rfl) (by kernel_rfl) (by kernel_rfl) (fun _ _ _ _ h => h) (by kernel_rfl) (fun _ => by kernel_rfl) K5.c0 ?_
  refine rg_pure 23 rfl (.bool true) (by kernel_rfl) (by kernel_rfl) (by kernel_rfl) (fun _ _ _ _ h => h) (by kernel_rfl) (fun _ => by kernel_rfl) K5.c0 ?_
  refine wpAnyH_done (by kernel_rfl) ?_ _
  go_wp2
  go_ret
  exact ⟨rfl, b5⟩
end Go.Proofs.YtmblkccfgncngaaDoor
