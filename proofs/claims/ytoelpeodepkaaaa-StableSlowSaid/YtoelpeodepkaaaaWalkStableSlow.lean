/- The walk of StableSlow. -/
import Derived.Test.YtoelpeodepkaaaaStHeard
namespace Go.Proofs.Ytoelpeodepkaaaa
open Go Go.RowKit
set_option linter.unusedVariables false

set_option maxHeartbeats 8000000 in
set_option maxRecDepth 100000 in
theorem stableSlow_walk (n0 : Int) (p : Option Addr) (n c : Nat) (E : Nat → List Value) (W : World) (hn0 : (Lit.int .i64 n0).wf = true) (hl : CameR W p n c 65 IsHeard E) :
    Calls Try.prog 5 #[.int .i64 n0, .slice p n c] W (Yes W) := by
  obtain ⟨r, F, hH⟩ := hl.heard
  have H := Lib.hid hH
  have hle := hH.le; have hmx := hH.max
  unfold maxLen at hmx
  obtain ⟨i0, hi0, hu, hx0⟩ := uidx n0 5 (by omega) (by omega)
  have hu5 : wrap64 ((IntKind.u64.wrap n0).tmod 5) = (i0 : Int) := hu
  obtain ⟨N, hN⟩ : ∃ N : Nat, N = i0 + 1 := ⟨_, rfl⟩
  have hN5 : N ≤ 5 := by omega
  have hNx : (1 : Int) + i0 = N := by omega
  have HN := Lib.hid hNx
  have NW := Lib.hid (new_in (1 + (i0 : Int)) N W hNx (by omega) (by omega))
  have hN0 : 0 < N := by omega
  clear hl hH hn0 hu hNx hx0 hN
  go_enter Try.func5, Try.ntmps5
  go_wp2_with fail
  rw [HN.out]
  have NW2 := Lib.hid (by have := NW.out; rw [HN.out] at this; exact this)
  refine NW2.out.mono ?_
  rintro e w1 ⟨a, G, rfl, ha, hG, hm, hb⟩
  have B1 := Lib.hid hb; have M1 := Lib.hid hm
  have S1 := Lib.hid (stable_in a G N _ w1 hm)
  clear hb hm NW NW2 hu5
  go_wp2_with fail
  refine S1.out.mono ?_
  rintro e w2 ⟨rfl, hb2⟩
  have B2 := Lib.hid (thenBelow B1.out hb2); have M2 := Lib.hid (M1.out.later hb2)
  clear hb2 S1
  go_wp2_with (refine wpList_valloc vecI zeroV rfl rfl ?_)
  intro g6 w3 l6 r6 hb3
  have B3 := Lib.hid (thenBelow B2.out hb3); have M3 := Lib.hid (M2.out.later hb3); have R63 := Lib.hid r6
  have hG6 : G < g6 := Nat.lt_of_lt_of_le M2.out.glt l6
  have ha6 : a < g6 := Nat.lt_of_lt_of_le M2.out.alt l6
  have lw6 := Nat.le_trans B2.out.size l6
  clear hb3 r6
  go_wp2_with (refine wpList_vstore vecI rfl _ _ rfl g6 rfl _ rfl _ _ R63.out ?_)
  intro w4 r4 g4 _
  have B4 := Lib.hid (B3.out.trans (grown_below g4 B3.out.size lw6)); have M4 := Lib.hid (M3.out.kept g4 (by simp; omega) (by simp; omega)); have R64 := Lib.hid r4
  clear r4 g4
  go_wp2
  go_loopw [22] (fun i wr => ∃ (k : Nat) (R : Nat → Nat → Int), k ≤ n ∧ i = .int .i64 k ∧ Row wr g6 37 (stb R N) ∧ Mx wr a G N R ∧ Below W.heap.size W wr) (fun i _ => n - (intOf i).toNat)
  case atStart => exact ⟨0, _, by omega, rfl, R64.out, M4.out, B4.out⟩
  case round =>
    obtain ⟨k, R, hk, rfl, hr6, hm, hb⟩ := hrel
    obtain ⟨wo, rfl⟩ : ∃ wo : World, wo = wr := ⟨_, rfl⟩
    have B := Lib.hid hb; have M := Lib.hid hm; have R6 := Lib.hid hr6
    clear hb hm hr6
    by_cases hlt : k < n
    · obtain ⟨b, o, rfl, hc⟩ := (H.out.later B.out).lies (by omega)
      have HR := Lib.hid (hc k hlt)
      have hwd := H.out.wide k hlt
      have hkI : (k : Int) < n := by omega
      clear hc
      go_wp2_with (first | refine wpList_gload rfl _ rfl b (o + k * 65) rfl _ HR.out _ Try.underlying42 rfl (sizeHl (r k) (F k)) ?_ | refine wpList_galloc _ zeroH rfl rfl ?_)
      intro g8 w5 l8 h8 hb5
      have B5 := Lib.hid (thenBelow B.out hb5); have M5 := Lib.hid (M.out.later hb5); have R65 := Lib.hid (R6.out.later hb5)
      have hG8 : G < g8 := Nat.lt_of_lt_of_le M.out.glt l8
      have ha8 : a < g8 := Nat.lt_of_lt_of_le M.out.alt l8
      have h68 : g6 < g8 := Nat.lt_of_lt_of_le R6.out.lt l8
      have lw8 := Nat.le_trans B.out.size l8
      clear hb5
      go_wp2_with (refine wpList_gstore rfl _ _ rfl g8 rfl (hcs (r k) (F k)) rfl _ _ h8 (sizeH (r k) (F k)) (by rw [hcs_size, hcs_size]) (hcs_one (r k) (F k)) ?_)
      intro w6 h86 g86
      have B6 := Lib.hid (B5.out.trans (grown_below g86 B5.out.size lw8)); have M6 := Lib.hid (M5.out.kept g86 (by simp; omega) (by simp; omega)); have R66 := Lib.hid (R65.out.kept g86 (by simp; omega))
      obtain ⟨hv0, hv1⟩ := heard_var h86
      have HV1 := Lib.hid hv1
      clear h86 g86 h8 hv1
      by_cases h60 : (k : Int) ≥ 60
      · have SZ := Lib.hid M6.out.sized.calls
        have AW := Lib.hid (awake9 w6)
        go_wp2_with fail
        refine SZ.out.mono ?_
        rintro e w' ⟨rfl, rfl⟩
        go_wp2_with fail
        refine AW.out.mono ?_
        rintro e w7 ⟨rfl, hb7⟩
        have B7 := Lib.hid (thenBelow B6.out hb7)
        go_wp2
        go_ret
        exact ⟨rfl, B7.out⟩
      · have NT := Lib.hid (note_any a G N R (r k) (F k) w6 M6.out _ rfl)
        have GE : Hid (∀ j, stb R N j ≤ stb (jn R N (r k) (F k)) N j) := fun j => stb_mono (jn_ge R N (r k) (F k)) N j
        generalize jn R N (r k) (F k) = R' at NT GE
        generalize r k = rk at NT hv0 hwd HR
        generalize F k = Fk at NT HV1 HR
        go_wp2_with (first | refine wpList_vmid vecI rfl _ rfl g8 1 rfl _ HV1.out ?_)
        refine NT.out.mono ?_
        rintro e w7 ⟨rfl, hm7, hg7⟩
        have B7 := Lib.hid (B6.out.trans (grown_below hg7 B6.out.size hG)); have M7 := Lib.hid hm7; have R67 := Lib.hid (R66.out.kept hg7 (by simp; omega))
        have S7 := Lib.hid (stable_in a G N _ w7 hm7)
        clear hm7 hg7 NT
        go_wp2_with fail
        refine S7.out.mono ?_
        rintro e w8 ⟨rfl, hb8⟩
        have B8 := Lib.hid (thenBelow B7.out hb8); have M8 := Lib.hid (M7.out.later hb8); have R68 := Lib.hid (R67.out.later hb8)
        clear hb8 S7
        go_wp2_with (refine wpList_valloc vecI zeroV rfl rfl ?_)
        intro g9 w9 l9 r9 hb9
        have B9 := Lib.hid (thenBelow B8.out hb9); have M9 := Lib.hid (M8.out.later hb9); have R69 := Lib.hid (R68.out.later hb9); have R99 := Lib.hid r9
        have hG9 : G < g9 := Nat.lt_of_lt_of_le M8.out.glt l9
        have ha9 : a < g9 := Nat.lt_of_lt_of_le M8.out.alt l9
        have h69 : g6 < g9 := Nat.lt_of_lt_of_le R68.out.lt l9
        have lw9 := Nat.le_trans B8.out.size l9
        clear hb9 r9
        go_wp2_with (refine wpList_vstore vecI rfl _ _ rfl g9 rfl _ rfl _ _ R99.out ?_)
        intro wa ra ga _
        have BA := Lib.hid (B9.out.trans (grown_below ga B9.out.size lw9)); have MA := Lib.hid (M9.out.kept ga (by simp; omega) (by simp; omega)); have R6A := Lib.hid (R69.out.kept ga (by simp; omega)); have R9A := Lib.hid ra
        clear ra ga
        have WI := refWithin_is (stb R N) (stb R' N) wa
        rw [(vle_iff _ _).2 (fun j _ => GE.out j)] at WI
        have WI := Lib.hid WI
        go_wp2_with (first | refine wpList_vload vecI rfl _ rfl g6 rfl _ _ R6A.out ?_ | refine wpList_vload vecI rfl _ rfl g9 rfl _ _ R9A.out ?_)
        refine WI.out.mono ?_
        rintro e wb ⟨rfl, hbb⟩
        have BB := Lib.hid (thenBelow BA.out hbb); have MB := Lib.hid (MA.out.later hbb); have R6B := Lib.hid (R6A.out.later hbb); have R9B := Lib.hid (R9A.out.later hbb)
        clear hbb WI
        go_wp2
        go_loopw [42] (fun i wr => ∃ m : Nat, m ≤ N ∧ i = .int .i64 m ∧ Row wr g6 37 (stb R N) ∧ Row wr g9 37 (stb R' N) ∧ Mx wr a G N R' ∧ Below W.heap.size W wr) (fun i _ => N - (intOf i).toNat)
        case atStart => exact ⟨0, by omega, rfl, R6B.out, R9B.out, MB.out, BB.out⟩
        case round =>
          obtain ⟨m, hm, rfl, hq6, hq9, hqm, hqb⟩ := hrel
          have BQ := Lib.hid hqb; have MQ := Lib.hid hqm; have Q6 := Lib.hid hq6; have Q9 := Lib.hid hq9
          clear hqb hqm hq6 hq9
          by_cases hmN : m < N
          · have hmI : (m : Int) < N := by omega
            have cR := fun d os => Calls.regrown_of (row_in a G N R' m (Sort.grow (redrawn wr d) os) (MQ.out.later (below_regrown wr d os)) hmN)
            have cW := quiet_call (w := wr) (refWithin_is (stb R' N) (R' m))
            rw [(vle_iff _ _).2 (fun j _ => stb_le R' N m j hmN)] at cW
            go_wp2
            refine wp_region_quiet_below (by kernel_rfl) (by kernel_rfl) ?_
            refine wpQuiet_vload vecI rfl _ rfl g9 rfl _ _ (fun _ h => Q9.out.quiet h) ?_
            iterate 2 (quiet_step (fail))
            quiet_step (exact cR _ _)
            quiet_step (exact cW _ _)
            quiet_step (fail)
            refine wpQuiet_nil ?_
            intro _ hw'
            obtain ⟨⟨dq, osq⟩, hw''⟩ := hw'
            subst hw''
            have hb2 := below_regrown wr dq osq
            have M2 := Lib.hid (MQ.out.later hb2); have Q62 := Lib.hid (Q6.out.later hb2); have Q92 := Lib.hid (Q9.out.later hb2); have BQ2 := Lib.hid (thenBelow BQ.out hb2)
            generalize Sort.grow (redrawn wr dq) osq = wq at hb2 M2 Q62 Q92 BQ2
            clear hb2 cR cW
            go_wp2
            go_roundw
            case rel => exact ⟨m + 1, by omega, by go_num, Q62.out, Q92.out, M2.out, BQ2.out⟩
            case measure => simp [intOf]; omega
          · obtain rfl : m = N := by omega
            go_wp2_with (first | refine wpList_vload vecI rfl _ rfl g9 rfl _ _ Q9.out ?_ | refine wpList_vstore vecI rfl _ _ rfl g6 rfl _ rfl _ _ Q6.out ?_)
            intro wz rz gz _
            have RZ := Lib.hid rz; have BZ := Lib.hid (BQ.out.trans (grown_below gz BQ.out.size lw6)); have MZ := Lib.hid (MQ.out.kept gz (by simp; omega) (by simp; omega))
            clear rz gz
            go_wp2
            go_roundw
            case rel => exact ⟨k + 1, R', by omega, by go_num, RZ.out, MZ.out, BZ.out⟩
            case measure => simp [intOf]; omega
    · obtain rfl : k = n := by omega
      have SZ := Lib.hid M.out.sized.calls
      have AW := Lib.hid (awake9 wo)
      go_wp2_with fail
      refine SZ.out.mono ?_
      rintro e w' ⟨rfl, rfl⟩
      go_wp2_with fail
      refine AW.out.mono ?_
      rintro e w7 ⟨rfl, hb7⟩
      have B7 := Lib.hid (thenBelow B.out hb7)
      go_wp2
      go_ret
      exact ⟨rfl, B7.out⟩
end Go.Proofs.Ytoelpeodepkaaaa
