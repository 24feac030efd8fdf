/- The walk of PagesFuse: so many acts go on, none behind them, until a crash. -/
import Derived.Test.YtfgjcgonlpbdbaaPgNewN
import Derived.Test.YtfgjcgonlpbdbaaPgWr
import Derived.Test.YtfgjcgonlpbdbaaPgAwake
namespace Go.Proofs.Ytfgjcgonlpbdbaa
open Go Go.RowKit
set_option linter.unusedVariables false

theorem tmod_nat (k c : Nat) : (k : Int).tmod (c : Int) = ((k % c : Nat) : Int) := by
  rw [Int.tmod_eq_emod_of_nonneg (by omega)]; rfl
theorem u8_nat {x : Int} (h : (Lit.int .u8 x).wf = true) : ∃ a : Nat, x = (a : Int) ∧ a ≤ 255 := by
  simp [Lit.wf, IntKind.min, IntKind.max, IntKind.bits, IntKind.signed] at h
  exact ⟨x.toNat, by omega, by omega⟩
theorem fuse_set (D P M n : Nat) (pg : Nat → List UInt8) (fuse k : Int) (hk : -9223372036854775808 ≤ k ∧ k ≤ 9223372036854775807) (w : World) (h : Dk w D P M n pg false fuse) :
    Calls Try.prog 19 #[.pointer (some ⟨D, 0, none⟩), .int .i64 k] w fun e w' => e = .returned (.int .i64 0) ∧ Dk w' D P M n pg false k ∧ w.grownBy w' (some D) := by
  have h1 := fuse_is D P M n pg false fuse k hk w h
  unfold Fused at h1
  simp only [Bool.false_eq_true, if_false] at h1
  exact h1
theorem fuse_no (D P M n : Nat) (pg : Nat → List UInt8) (fuse k : Int) (hk : -9223372036854775808 ≤ k ∧ k ≤ 9223372036854775807) (w : World) (h : Dk w D P M n pg true fuse) :
    Calls Try.prog 19 #[.pointer (some ⟨D, 0, none⟩), .int .i64 k] w fun e w' => e = .returned (.int .i64 9) ∧ Dk w' D P M n pg true fuse ∧ w.grownBy w' (some D) := by
  have h1 := fuse_is D P M n pg true fuse k hk w h
  unfold Fused at h1
  simp only [if_true] at h1
  exact h1
theorem sync_ok (T D P M n : Nat) (pg old : Nat → List UInt8) (lo : List (Nat × Nat)) (c : Nat) (fuse : Int) (hf : fuse ≠ 0) (w : World) (h : Dk w D P M n pg false fuse) (hw : Was w M n old lo c) (hT : T ≤ M ∧ T ≤ D) (hTw : T ≤ w.heap.size) :
    Calls Try.prog 17 #[.pointer (some ⟨D, 0, none⟩)] w fun e w' => e = .returned (.int .i64 0) ∧ Dk w' D P M n pg false (actF false fuse) ∧ Was w' M n old [] c ∧ Below T w w' := by
  have h1 := sync_all T D P M n pg old lo c false fuse w h hw hT hTw
  unfold SyncTo at h1
  rw [show actD false fuse = false by simp [actD, hf]] at h1
  simp only [Bool.false_eq_true, if_false] at h1
  exact h1
theorem sync_no (T D P M n : Nat) (pg old : Nat → List UInt8) (lo : List (Nat × Nat)) (c : Nat) (dead : Bool) (w : World) (h : Dk w D P M n pg dead 0) (hw : Was w M n old lo c) (hT : T ≤ M ∧ T ≤ D) (hTw : T ≤ w.heap.size) :
    Calls Try.prog 17 #[.pointer (some ⟨D, 0, none⟩)] w fun e w' => e = .returned (.int .i64 9) ∧ Dk w' D P M n pg true 0 ∧ Was w' M n old lo c ∧ Below T w w' := by
  have h1 := sync_all T D P M n pg old lo c dead 0 w h hw hT hTw
  unfold SyncTo at h1
  rw [show actD dead 0 = true by simp [actD], show actF dead 0 = 0 by simp [actF]] at h1
  simp only [if_true] at h1
  exact h1

set_option maxHeartbeats 8000000 in
set_option maxRecDepth 100000 in
theorem pagesFuse_walk (x y : Int) (W : World) (hx : (Lit.int .u8 x).wf = true) (hy : (Lit.int .u8 y).wf = true) :
    Calls Try.prog 5 #[.int .u8 x, .int .u8 y] W (Yes W) := by
  obtain ⟨a, rfl, ha⟩ := u8_nat hx
  obtain ⟨b, rfl, hb⟩ := u8_nat hy
  clear hx hy
  go_enter Try.func5, Try.ntmps5
  go_wp2_with fail
  refine (newDkN 4 (by omega) W).mono ?_
  rintro e w1 ⟨D, P, M, rfl, ⟨hD, hP, hM⟩, hdk, hmp, hbw⟩
  have DK1 := Lib.hid hdk; have WS1 : Hid (Was w1 M 4 (fun _ => []) [] 0) := Was.nil hmp
  have BW1 := Lib.hid hbw
  have hDM : some M ≠ some D := fun e => hdk.ne.2.1 (Option.some.inj e).symm
  have HDM := Lib.hid hDM
  clear hdk hmp hbw hDM
  have FU := Lib.hid (fuse_set D P M 4 _ (-1) (a : Int) (by omega) w1 DK1.out)
  go_wp2_with fail
  refine FU.out.mono ?_
  rintro e w2 ⟨rfl, hdk, hg⟩
  have DK2 := Lib.hid hdk
  have WS2 := Lib.hid (WS1.out.at (hg.block M WS1.out.mlt HDM.out))
  have BW2 := Lib.hid (BW1.out.grown hg BW1.out.size (fun k hk => by cases hk; exact hD))
  clear hdk hg FU DK1 WS1 BW1
  go_wp2
  go_loopw [19] (fun i wr => ∃ (k : Nat) (pg old : Nat → List UInt8) (lo : List (Nat × Nat)) (c : Nat), k ≤ a ∧ i = .int .i64 k ∧ Dk wr D P M 4 pg false ((a : Int) - k) ∧ Was wr M 4 old lo c ∧ Below W.heap.size W wr) (fun i _ => a - (intOf i).toNat)
  case atStart => exact ⟨0, _, _, _, _, by omega, rfl, by simpa using DK2.out, WS2.out, BW2.out⟩
  case round =>
    obtain ⟨k, pg, old, lo, c, hk, rfl, hdk, hws, hbw⟩ := hrel
    have DK := Lib.hid hdk; have WS := Lib.hid hws; have BW := Lib.hid hbw
    have hz := hbw.size
    clear hdk hws hbw DK2 WS2 BW2
    by_cases hlt : k < a
    · have hkI : (k : Int) < a := by omega
      have hF : actF false ((a : Int) - k) = (a : Int) - ((k + 1 : Nat) : Int) := by unfold actF; rw [if_pos ⟨rfl, by omega⟩]; omega
      have HFF := Lib.hid hF
      have NZ : Hid ((a : Int) - k ≠ 0) := by show (a : Int) - k ≠ 0; omega
      clear hF
      by_cases h3 : k % 3 = 2
      · have t3 : (k : Int).tmod 3 = 2 := by have := tmod_nat k 3; rw [h3] at this; exact this
        have m3 : (k : Int) % 3 = 2 := by omega
        have SY := Lib.hid (sync_ok W.heap.size D P M 4 pg old lo c _ NZ.out wr DK.out WS.out ⟨hM, hD⟩ hz)
        clear h3
        go_wp2_with fail
        refine SY.out.mono ?_
        rintro e w3 ⟨rfl, hdk, hws, hbw⟩
        rw [HFF.out] at hdk
        have DK3 := Lib.hid hdk; have WS3 := Lib.hid hws; have BW3 := Lib.hid (BW.out.trans hbw)
        clear hdk hws hbw SY DK WS BW
        go_wp2
        go_roundw
        case rel => exact ⟨k + 1, _, _, _, _, by omega, by go_num, DK3.out, WS3.out, BW3.out⟩
        case measure => simp [intOf]; omega
      · obtain ⟨r, hr⟩ : ∃ r, r = k % 3 := ⟨_, rfl⟩
        have t3 : (k : Int).tmod 3 = (r : Int) := by have := tmod_nat k 3; rw [← hr] at this; exact this
        have m3 : (k : Int) % 3 = (r : Int) := by omega
        have hr1 : (r : Int) < 2 := by omega
        have hr2 : ¬ (r : Int) = 2 := by omega
        obtain ⟨m, hm⟩ : ∃ m, m = k % 4 := ⟨_, rfl⟩
        have t4 : (k : Int).tmod 4 = (m : Int) := by have := tmod_nat k 4; rw [← hm] at this; exact this
        have m4 : (k : Int) % 4 = (m : Int) := by omega
        have hm4 : m < 4 := by omega
        clear h3 hr hm
        go_wp2_with fail
        have al := below_alloc10 wr (.cells #[.int .u8 1] 5)
        have L1 := lies_lit wr 5 (0, 0) [1] #[.int .u8 1] rfl
        have hDl := DK.out.lt
        refine (write_go W.heap.size D P M 4 pg old lo c false ((a : Int) - k) m (some ⟨wr.heap.size, 0, none⟩) 1 [1] _ (DK.out.below al) (WS.out.below al) (by simp [actD]; omega) hm4 L1 (fun b o e => by
          have e2 := Option.some.inj e
          simp only [Addr.mk.injEq] at e2
          intro e3
          have e4 : b = D := Option.some.inj e3
          omega) (by decide) (by decide) ⟨hD, hP, hM⟩ (Nat.le_trans hz al.size)).mono ?_
        rintro e w3 ⟨rfl, hdk, hws, hbw⟩
        rw [HFF.out] at hdk
        have DK3 := Lib.hid hdk; have WS3 := Lib.hid hws; have BW3 := Lib.hid ((BW.out.trans (al.mono hz)).trans hbw)
        clear hdk hws hbw DK WS BW al L1 hDl t3 m3 t4 m4 hr1 hr2
        go_wp2
        go_roundw
        case rel => exact ⟨k + 1, _, _, _, _, by omega, by go_num, DK3.out, WS3.out, BW3.out⟩
        case measure => simp [intOf]; omega
    · obtain rfl : k = a := by omega
      have DK0 : Hid (Dk wr D P M 4 pg false 0) := by
        show Dk wr D P M 4 pg false 0
        have := DK.out
        rwa [show (k : Int) - k = 0 by omega] at this
      have t4 : (b : Int).tmod 4 = ((b % 4 : Nat) : Int) := tmod_nat b 4
      have m4 : (b : Int) % 4 = ((b % 4 : Nat) : Int) := by omega
      have hb4 : b % 4 < 4 := by omega
      generalize b % 4 = m at t4 m4 hb4
      clear DK
      go_wp2
      go_loopw [48] (fun i wx => ∃ (j : Nat) (dd : Bool), j ≤ 1 + m ∧ i = .int .i64 j ∧ Dk wx D P M 4 pg dd 0 ∧ Was wx M 4 old lo c ∧ Below W.heap.size W wx) (fun i _ => 1 + m - (intOf i).toNat)
      case atStart => exact ⟨0, _, by omega, rfl, DK0.out, WS.out, BW.out⟩
      case round =>
        obtain ⟨j, dd, hj, rfl, hdk, hws, hbw⟩ := hrel
        have DK := Lib.hid hdk; have WSX := Lib.hid hws; have BWX := Lib.hid hbw
        have hzx := hbw.size
        clear hdk hws hbw DK0 WS BW
        by_cases hlt2 : j < 1 + m
        · have hjI : (j : Int) < 1 + m := by omega
          have SY := Lib.hid (sync_no W.heap.size D P M 4 pg old lo c dd _ DK.out WSX.out ⟨hM, hD⟩ hzx)
          go_wp2_with fail
          refine SY.out.mono ?_
          rintro e w3 ⟨rfl, hdk, hws, hbw⟩
          have DK3 := Lib.hid hdk; have WS3 := Lib.hid hws; have BW3 := Lib.hid (BWX.out.trans hbw)
          have DD := Lib.hid (dead_is D P M 4 pg true 0 w3 hdk)
          have FN := Lib.hid (fuse_no D P M 4 pg 0 (-1) (by omega) w3 hdk)
          clear hdk hws hbw SY DK WSX BWX
          go_wp2_with fail
          refine DD.out.mono ?_
          rintro e w' ⟨rfl, rfl⟩
          clear DD
          go_wp2_with fail
          refine FN.out.mono ?_
          rintro e w4 ⟨rfl, hdk, hg⟩
          have DK4 := Lib.hid hdk
          have WS4 := Lib.hid (WS3.out.at (hg.block M WS3.out.mlt HDM.out))
          have BW4 := Lib.hid (BW3.out.grown hg BW3.out.size (fun k hk => by cases hk; exact hD))
          clear hdk hg FN DK3 WS3 BW3
          go_wp2
          go_roundw
          case rel => exact ⟨j + 1, _, by omega, by go_num, DK4.out, WS4.out, BW4.out⟩
          case measure => simp [intOf]; omega
        · obtain rfl : j = 1 + m := by omega
          have hjI : ¬ (((1 + m : Nat) : Int) < 1 + m) := by omega
          have CR := Lib.hid (crash_is D P M 4 c pg old lo dd 0 none 0 [] 0 0 W _ DK.out WSX.out BWX.out (LiesI.nil _ _) (by simp) hD hP hM)
          clear DK WSX BWX
          go_wp2_with fail
          refine CR.out.mono ?_
          rintro e w3 ⟨rfl, hdk, hmp, hbw⟩
          have DK3 := Lib.hid hdk; have WS3 : Hid (Was w3 M 4 (fun _ => []) [] c) := Was.nil hmp
          have BW3 := Lib.hid hbw
          have hz3 := hbw.size
          have DD := Lib.hid (dead_is D P M 4 _ false (-1) w3 hdk)
          clear hdk hmp hbw CR
          go_wp2_with fail
          refine DD.out.mono ?_
          rintro e w' ⟨rfl, rfl⟩
          clear DD
          have SY := Lib.hid (sync_ok W.heap.size D P M 4 _ _ _ c (-1) (by omega) w3 DK3.out WS3.out ⟨hM, hD⟩ hz3)
          go_wp2_with fail
          refine SY.out.mono ?_
          rintro e w4 ⟨rfl, hdk, hws, hbw⟩
          have BW4 := Lib.hid (BW3.out.trans hbw)
          clear hdk hws hbw SY DK3 WS3 BW3
          go_wp2_with fail
          refine (awake10 w4).mono ?_
          rintro e w5 ⟨rfl, hbw⟩
          have BW5 := Lib.hid (thenBelow BW4.out hbw)
          clear hbw BW4
          go_wp2
          go_ret
          exact ⟨rfl, BW5.out⟩
end Go.Proofs.Ytfgjcgonlpbdbaa
