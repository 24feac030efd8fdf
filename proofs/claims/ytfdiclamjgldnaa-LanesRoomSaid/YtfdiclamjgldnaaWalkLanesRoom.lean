/- The walk of LanesRoom. -/
import Derived.Test.YtfdiclamjgldnaaLnAwake
namespace Go.Proofs.Ytfdiclamjgldnaa
open Go Go.RowKit Go.Conc
set_option linter.unusedVariables false

theorem u8_natL {x : Int} (h : (Lit.int .u8 x).wf = true) : ∃ n : Nat, x = (n : Int) ∧ n < 256 := by
  simp [Lit.wf, IntKind.min, IntKind.max, IntKind.bits, IntKind.signed] at h
  exact ⟨x.toNat, by omega, by omega⟩
theorem drewN_belowE {B : Nat} {a w : World} (h : Below B a w) (n : Nat) : Below B a (w.drewN n) := ⟨h.os, h.tape, h.output, h.size, h.block⟩
theorem in20 : InN ((3 : Nat) : Int) (2, 0) := by unfold InN; decide
theorem in02 : InN ((3 : Nat) : Int) (0, 2) := by unfold InN; decide
/-- i messages were sent from 2 to 0 -/
def RoomAt (B A i : Nat) (W w : World) : Prop :=
  ∃ F, Lx w B A ((3 : Nat) : Int) F (i : Int) ((i - 40 : Nat) : Int) ∧ (F (2, 0)).length = min i 40 ∧ F (0, 2) = [] ∧ Below B W w
theorem room_send (B A i : Nat) (W w : World) (h : RoomAt B A i W w) (hi : i < 256) (b : UInt8) (r : Int) (hr : r = if 40 ≤ i then 8 else 0) :
    Calls Try.prog 13 #[.pointer (some ⟨A, 0, none⟩), .int .i64 2, .int .i64 0, .slice (some ⟨w.heap.size, 0, none⟩) 1 1] (w.alloc (.cells #[.int .u8 (b.toNat : Int)] 5)) fun e w' => e = .returned (.int .i64 r) ∧ RoomAt B A (i + 1) W w' := by
  obtain ⟨F, hx, h1, h2, hb⟩ := h
  have hB := hx.size
  have hx2 := hx.below ((Below.refl _ w).alloc (Nat.le_refl _) (.cells #[.int .u8 (b.toNat : Int)] 5))
  have hb2 : Below B w (w.alloc (.cells #[.int .u8 (b.toNat : Int)] 5)) := (Below.refl B w).alloc hB _
  by_cases h40 : 40 ≤ i
  · rw [hr, if_pos h40]
    refine (send_full B A _ F _ _ _ hx2 2 0 in20 (some ⟨w.heap.size, 0, none⟩) 1 [b] (lies_lit w _ _ [b] _ rfl) (by simp) (by simp) (by omega) (by omega) (by omega)).mono ?_
    rintro e w' ⟨rfl, hx3, hb3⟩
    refine ⟨rfl, F, ?_, by omega, h2, hb.trans (hb2.trans hb3)⟩
    have e1 : ((i : Int) + 1) = ((i + 1 : Nat) : Int) := by omega
    have e2 : (((i - 40 : Nat) : Int) + 1) = ((i + 1 - 40 : Nat) : Int) := by omega
    rw [e1, e2] at hx3
    exact hx3
  · rw [hr, if_neg h40]
    refine (send_yes B A _ F _ _ _ hx2 2 0 in20 (some ⟨w.heap.size, 0, none⟩) 1 [b] (lies_lit w _ _ [b] _ rfl) (by simp) (by simp) (by omega) (by omega)).mono ?_
    rintro e w' ⟨rfl, hx3, hb3⟩
    have e1 : ((i : Int) + 1) = ((i + 1 : Nat) : Int) := by omega
    have e2 : ((i - 40 : Nat) : Int) = ((i + 1 - 40 : Nat) : Int) := by omega
    rw [e1, e2] at hx3
    refine ⟨rfl, _, hx3, ?_, ?_, hb.trans (hb2.trans hb3)⟩
    · rw [updF_same, List.length_append, List.length_singleton]; omega
    · unfold updF; rw [if_neg (by decide)]; exact h2
set_option maxHeartbeats 4000000 in
theorem lanesRoom_walk (x : Int) (W : World) (hx : (Lit.int .u8 x).wf = true) : Calls Try.prog 5 #[.int .u8 x] W (Yes W) := by
  obtain ⟨n, rfl, hn⟩ := u8_natL hx
  have N := Lib.hid (lnNew 3 (by omega) (by omega) W)
  have R0 : Hid (∀ A w1, Lx w1 W.heap.size A ((3 : Nat) : Int) (fun _ => []) 0 0 → Below W.heap.size W w1 → RoomAt W.heap.size A 0 W w1) := fun A w1 h hb => ⟨_, h, rfl, rfl, hb⟩
  have AW := Lib.hid awake26
  generalize hB : W.heap.size = B at *
  clear hx
  go_enter Try.func5, Try.ntmps5
  go_wp2_with fail
  refine N.out.mono ?_
  rintro e w1 ⟨A, rfl, hx, hb⟩
  rw [hB] at hx hb
  have R1 := Lib.hid (R0.out A w1 hx hb)
  clear hx hb N R0
  go_wp2
  go_loopw [11] (fun i wr => ∃ k : Nat, k ≤ n ∧ i = .int .i64 k ∧ RoomAt B A k W wr) (fun i _ => n - (intOf i).toNat)
  case atStart => exact ⟨0, Nat.zero_le _, rfl, R1.out⟩
  case round =>
    obtain ⟨k, hk, rfl, hr⟩ := hrel
    have RR := Lib.hid hr
    clear hr R1
    by_cases hlt : k < n
    · have hlt' : (k : Int) < n := by omega
      have hbk : IntKind.u8.wrap (k : Int) = ((UInt8.ofNat k).toNat : Int) := by
        rw [IntKind.wrap_u8]
        rw [UInt8.toNat_ofNat']
        simp
      by_cases h40 : 40 ≤ k
      · have h40' : (40 : Int) ≤ k := by omega
        have SE := Lib.hid (room_send B A k W wr RR.out (by omega) (UInt8.ofNat k) 8 (by rw [if_pos h40]))
        generalize (UInt8.ofNat k) = b at hbk SE
        go_wp2_with fail
        refine SE.out.mono ?_
        rintro e w2 ⟨rfl, hr⟩
        have R2 := Lib.hid hr
        clear hr SE RR
        go_wp2
        go_roundw
        case rel => exact ⟨k + 1, by omega, by go_num, R2.out⟩
        case measure => simp [intOf]; omega
      · have h40' : ¬ (40 : Int) ≤ k := by omega
        have SE := Lib.hid (room_send B A k W wr RR.out (by omega) (UInt8.ofNat k) 0 (by rw [if_neg h40]))
        generalize (UInt8.ofNat k) = b at hbk SE
        go_wp2_with fail
        refine SE.out.mono ?_
        rintro e w2 ⟨rfl, hr⟩
        have R2 := Lib.hid hr
        clear hr SE RR
        go_wp2
        go_roundw
        case rel => exact ⟨k + 1, by omega, by go_num, R2.out⟩
        case measure => simp [intOf]; omega
    · obtain rfl : k = n := by omega
      obtain ⟨F, hx, h1, h2, hb⟩ := RR.out
      have TT := Lib.hid (lnTotals B A _ F _ _ wr hx)
      have D1 : Hid (∀ m, Calls Try.prog 11 #[.pointer (some ⟨A, 0, none⟩), .int .i64 2, .int .i64 0] (wr.drewN m) fun e w' => e = .returned (.int .i64 ((min k 40 : Nat) : Int)) ∧ wr.drewN m = w') := fun m => by
        have := lnCount B A _ F _ _ (wr.drewN m) (hx.below (drewN_belowE (Below.refl _ _) _)) 2 0 in20
        rwa [h1] at this
      have D2 : Hid (∀ m, Calls Try.prog 11 #[.pointer (some ⟨A, 0, none⟩), .int .i64 0, .int .i64 2] (wr.drewN m) fun e w' => e = .returned (.int .i64 0) ∧ wr.drewN m = w') := fun m => by
        have := lnCount B A _ F _ _ (wr.drewN m) (hx.below (drewN_belowE (Below.refl _ _) _)) 0 2 in02
        rwa [h2] at this
      have B1 : Hid (∀ m, Below B W (wr.drewN m)) := fun m => drewN_belowE hb m
      clear hx h1 h2 hb RR
      by_cases h40 : k < 40
      · have m1 : min (k : Int) 40 = (k : Int) := by omega
        have m2 : max ((k : Int) - 40) 0 = 0 := by omega
        have i1 : (k : Int) < 40 := by omega
        have i2 : ¬ (0 : Int) ≤ (k : Int) - 40 := by omega
        have i3 : (k : Int) - 40 < 0 := by omega
        have m3 : ((min k 40 : Nat) : Int) = (k : Int) := by omega
        have m4 : ((k - 40 : Nat) : Int) = 0 := by omega
        rw [m3] at D1
        rw [m4] at TT
        clear m3 m4
        go_wp2_with fail
        refine TT.out.mono ?_
        rintro e w2 ⟨rfl, m, rfl⟩
        have C1 := Lib.hid (D1.out m); have C2 := Lib.hid (D2.out m); have B2 := Lib.hid (B1.out m)
        generalize wr.drewN m = w2 at *
        clear D1 D2 B1 TT
        go_wp2_with fail
        refine C1.out.mono ?_
        rintro e w3 ⟨rfl, rfl⟩
        go_wp2_with fail
        refine C2.out.mono ?_
        rintro e w3 ⟨rfl, rfl⟩
        go_wp2_with fail
        refine (AW.out _).mono ?_
        rintro e w3 ⟨rfl, hb3⟩
        have E := Lib.hid (B2.out.trans (hb3.mono (by rw [← hB]; exact B2.out.size)))
        clear hb3
        go_wp2
        go_ret
        exact ⟨rfl, by rw [hB]; exact E.out⟩
      · by_cases h41 : k = 40
        · have m3 : ((min k 40 : Nat) : Int) = 40 := by omega
          have m4 : ((k - 40 : Nat) : Int) = (k : Int) - 40 := by omega
          rw [m3] at D1
          rw [m4] at TT
          subst h41
          clear m3 m4
          go_wp2_with fail
          refine TT.out.mono ?_
          rintro e w2 ⟨rfl, m, rfl⟩
          have C1 := Lib.hid (D1.out m); have C2 := Lib.hid (D2.out m); have B2 := Lib.hid (B1.out m)
          generalize wr.drewN m = w2 at *
          clear D1 D2 B1 TT
          go_wp2_with fail
          refine C1.out.mono ?_
          rintro e w3 ⟨rfl, rfl⟩
          go_wp2_with fail
          refine C2.out.mono ?_
          rintro e w3 ⟨rfl, rfl⟩
          go_wp2_with fail
          refine (AW.out _).mono ?_
          rintro e w3 ⟨rfl, hb3⟩
          have E := Lib.hid (B2.out.trans (hb3.mono (by rw [← hB]; exact B2.out.size)))
          clear hb3
          go_wp2
          go_ret
          exact ⟨rfl, by rw [hB]; exact E.out⟩
        · have m1 : min (k : Int) 40 = 40 := by omega
          have m2 : max ((k : Int) - 40) 0 = (k : Int) - 40 := by omega
          have i1 : ¬ (k : Int) < 40 := by omega
          have i4 : ¬ (k : Int) ≤ 40 := by omega
          have i2 : (0 : Int) ≤ (k : Int) - 40 := by omega
          have i3 : ¬ (k : Int) - 40 < 0 := by omega
          have m3 : ((min k 40 : Nat) : Int) = 40 := by omega
          have m4 : ((k - 40 : Nat) : Int) = (k : Int) - 40 := by omega
          rw [m3] at D1
          rw [m4] at TT
          clear m3 m4
          go_wp2_with fail
          refine TT.out.mono ?_
          rintro e w2 ⟨rfl, m, rfl⟩
          have C1 := Lib.hid (D1.out m); have C2 := Lib.hid (D2.out m); have B2 := Lib.hid (B1.out m)
          generalize wr.drewN m = w2 at *
          clear D1 D2 B1 TT
          go_wp2_with fail
          refine C1.out.mono ?_
          rintro e w3 ⟨rfl, rfl⟩
          go_wp2_with fail
          refine C2.out.mono ?_
          rintro e w3 ⟨rfl, rfl⟩
          go_wp2_with fail
          refine (AW.out _).mono ?_
          rintro e w3 ⟨rfl, hb3⟩
          have E := Lib.hid (B2.out.trans (hb3.mono (by rw [← hB]; exact B2.out.size)))
          clear hb3
          go_wp2
          go_ret
          exact ⟨rfl, by rw [hB]; exact E.out⟩
end Go.Proofs.Ytfdiclamjgldnaa
