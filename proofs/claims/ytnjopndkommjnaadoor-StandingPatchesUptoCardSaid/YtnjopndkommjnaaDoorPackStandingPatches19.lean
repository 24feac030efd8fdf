/- The statement StandingPatches, proved for every input that its row reads: part 19 of 54. -/
import Derived.Test.YtnjopndkommjnaaDoorPackStandingPatches18
import Derived.Deep.CutBlock
import Derived.Deep.DeepCutAuto
/- symMergeCmpFunc: a list, and one thing behind it. -/
namespace Go.Proofs.YtnjopndkommjnaaDoor
open Go Go.RowKit
set_option linter.unusedVariables false
set_option maxRecDepth 1000000

set_option maxHeartbeats 1000000 in
theorem symBC_is (lt : Chg → Chg → Bool) (hlt : SW lt) (F : FuncId) (caps : Array Value) (HF : TellsC F caps lt) (B g c N : Nat) (P U S : List Chg) (v : Chg) (a m b : Nat) (w : World) (hN : (P ++ (U ++ (v :: S))).length = N) (h : RowC w B g c (P ++ (U ++ (v :: S)))) (hU : Srt lt U) (hU2 : 2 ≤ U.length) (ha : a = P.length) (hm : m = P.length + U.length) (hb : b = P.length + U.length + 1) (hbig : N ≤ 1000000) :
    Calls Tryd.prog 43 #[.slice (some ⟨g, 0, none⟩) N c, .int .i64 (a : Int), .int .i64 (m : Int), .int .i64 (b : Int), .func (.func F) #[] caps] w (SwC w B g c (P ++ (mrg lt U [v] ++ S))) := by
  obtain ⟨LL, hLL⟩ : ∃ LL, P ++ (U ++ (v :: S)) = LL := ⟨_, rfl⟩
  rw [hLL] at hN h
  have HL := Lib.hid hN; have HA := Lib.hid ha; have TF := Lib.hid HF; have HW := Lib.hid hlt; have HV := Lib.hid hU; have R0 := Lib.hid h
  have HM : Hid (m = a + U.length) := Lib.hid (by omega)
  have HB : Hid (b = m + 1) := Lib.hid (by omega)
  obtain ⟨n0, hn0⟩ : ∃ n, m - a = n := ⟨_, rfl⟩
  have hma : (m : Int) - (a : Int) = (n0 : Int) := by omega
  have hn2 : ¬ (n0 : Int) = 1 := by omega
  have hn3 : ((n0 : Int) == 1) = false := by simpa using hn2
  have hbm : (b : Int) - (m : Int) = 1 := by omega
  have AT : Hid (∀ k (h1 : a ≤ k) (h2 : k < m), ∃ h3 : k < LL.length, ∃ h4 : k - a < U.length, LL[k] = U[k - a]) := Lib.hid fun k h1 h2 => by
    have h4 : k - a < U.length := by omega
    refine ⟨by rw [← hLL]; simp only [List.length_append, List.length_cons]; omega, h4, ?_⟩
    subst hLL
    rw [List.getElem_append_right (by omega), List.getElem_append_left (by omega)]
    simp only [ha]
  have hlm : m < LL.length := by rw [← hLL, hm]; simp only [List.length_append, List.length_cons]; omega
  have LM : LL[m]'hlm = v := by
    subst hLL; subst hm
    rw [List.getElem_append_right (by omega), List.getElem_append_right (by omega)]
    simp
  have lb : b ≤ N := by rw [← hN, ← hLL]; simp only [List.length_append, List.length_cons]; omega
  have ham : a ≤ m := by omega
  have hmb : m ≤ b := by omega
  have hbb : b ≤ 1000000 := by omega
  have hLN : LL.length = N := hN
  have HLL := Lib.hid hLL
  clear h ha hm hb hN hlt HF hU hU2 hLL hn0
  go_enter Tryd.func43, Tryd.ntmps43
  go_wp2
  go_loopw [14, 15] (fun x y wr => ∃ i j : Nat, a ≤ i ∧ i ≤ j ∧ j ≤ m ∧ x = .int .i64 i ∧ y = .int .i64 j ∧ (∀ h : i - 1 - a < U.length, i = a ∨ lt v U[i - 1 - a] = false) ∧ (∀ h : j - a < U.length, j = m ∨ lt v U[j - a] = true) ∧ RowC wr B g c LL ∧ w.grownBy wr (some g)) (fun x y _ => (RowKit.intOf y).toNat - (RowKit.intOf x).toNat)
  case atStart => exact ⟨a, m, Nat.le_refl _, ham, Nat.le_refl _, rfl, rfl, fun _ => .inl rfl, fun _ => .inl rfl, R0.out, grRC _ _⟩
  case round =>
    obtain ⟨i, j, hmi, hij, hjb, rfl, rfl, hp, hq, hr, hg⟩ := hrel
    have RR := Lib.hid hr; have GR := Lib.hid hg; have HP := Lib.hid hp; have HQ := Lib.hid hq
    clear hr hg hp hq R0
    by_cases hlt' : i < j
    · have hlt2 : (i : Int) < (j : Int) := by omega
      obtain ⟨k, hk⟩ : ∃ k, (i + j) / 2 = k := ⟨_, rfl⟩
      have hc := half_cast i j
      rw [hk] at hc
      have hk1 : i ≤ k := by omega
      have hk2 : k < j := by omega
      clear hk
      go_wp2_with fail
      obtain ⟨hlk, hk4, hk5⟩ := AT.out k (by omega) (by omega)
      obtain ⟨x, hv⟩ : ∃ x, U[k - a] = x := ⟨_, rfl⟩
      have LK : LL[k] = x := by rw [hk5, hv]
      obtain ⟨bz, hbz⟩ : ∃ q, lt v x = q := ⟨_, rfl⟩
      have HBZ := Lib.hid hbz
      have HV2 := Lib.hid hv
      clear hk5
      generalize hQ : Exit.then _ _ = QX
      have KE1 : ∀ (iv : Int) (V2 : World), RowC V2 B g c LL → w.grownBy V2 (some g) → QX .normal { tmps := #[.slice (some ⟨g, 0, none⟩) N c, .int .i64 (a : Int), .int .i64 (m : Int), .int .i64 (b : Int), .func (.func F) #[] caps, undef, undef, undef, undef, undef, undef, undef, undef, undef, .int .i64 (i : Int), .int .i64 (j : Int), .int .i64 (k : Int), undef, undef, undef, undef, undef, undef, undef, undef, .int .i64 (m : Int), .int .i64 (a : Int), .int .i64 (n0 : Int), .bool false, undef, undef, undef, undef, undef, undef, undef, undef, undef, undef, undef, undef, undef, undef, undef, undef, undef, undef, undef, undef, undef, undef, undef, undef, undef, undef, undef, undef, undef, undef, undef, undef, undef, undef, undef, undef, undef, undef, undef, undef, undef, undef, undef, undef, undef, undef, undef, undef, .int .i64 (b : Int), .int .i64 (m : Int), .int .i64 1, .bool true, .int .i64 (a : Int), .int .i64 (m : Int), .int .i64 (i : Int), .int .i64 (j : Int), .bool true, .int .i64 (i : Int), .int .i64 (j : Int), .int .i64 ((i : Int) + (j : Int)), .int .u64 ((i : Int) + (j : Int)), .int .u64 (k : Int), .int .i64 (k : Int), .func (.func F) #[] caps, .slice (some ⟨g, 0, none⟩) N c, .int .i64 (m : Int), .pointer (some ⟨g, 0 + m * 3, none⟩), .agg v.cells.toArray, .slice (some ⟨g, 0, none⟩) N c, .int .i64 (k : Int), .pointer (some ⟨g, 0 + k * 3, none⟩), .agg x.cells.toArray, .int .i64 iv, .bool bz, .bool (!bz), u104, u105, u106, undef, undef, undef, undef, undef, undef, undef, undef, undef, undef, undef, undef, undef, undef, undef, undef, undef, undef, undef, undef, undef, undef, undef, undef, undef, undef, undef, undef, undef, undef, undef, undef, undef, undef, undef, undef, undef, undef, undef, undef, undef, undef, undef, undef, undef, undef, undef, undef, undef, undef, undef, undef, undef, undef, undef, undef, undef, undef, undef, undef, undef, undef, undef, undef, undef, undef, undef, undef, undef, undef, undef, undef, undef, undef, undef, undef, undef, undef, undef, undef, undef, undef, undef, undef, undef, undef, undef, undef, undef, undef, undef, undef, undef, undef, undef, undef, undef, undef, undef, undef, undef, undef, undef, undef, undef, undef, undef, undef, undef, undef, undef, undef, undef], defers := [] } V2 := by
        intro iv V2 hr hg
        rw [← hQ]
        clear hQ
        simp only [Exit.then]
        have R2 := Lib.hid hr; have G2 := Lib.hid hg
        clear hr hg RR GR LK LM hv hbz
        cases bz with
        | false =>
          have HP2 : Hid (∀ h : k + 1 - 1 - a < U.length, k + 1 = a ∨ lt v U[k + 1 - 1 - a] = false) := Lib.hid fun h => .inr (by simp only [Nat.add_sub_cancel]; rw [HV2.out]; exact HBZ.out)
          clear HP HBZ HV2
          go_wp2
          go_roundw
          case rel => exact ⟨k + 1, j, by omega, by omega, hjb, by go_num, rfl, HP2.out, HQ.out, R2.out, G2.out⟩
          case measure => simp [intOf]; omega
        | true =>
          have HQ2 : Hid (∀ h : k - a < U.length, k = m ∨ lt v U[k - a] = true) := Lib.hid fun h => .inr (by rw [HV2.out]; exact HBZ.out)
          clear HQ HBZ HV2
          go_wp2
          go_roundw
          case rel => exact ⟨i, k, hmi, by omega, by omega, rfl, rfl, HP.out, HQ2.out, R2.out, G2.out⟩
          case measure => simp [intOf]; omega
      have h0 : RowC wr.drew B g c LL ∧ w.grownBy wr.drew (some g) := ⟨RR.out, grDC GR.out⟩
      obtain ⟨AG, hAG⟩ : ∃ A, (#[.agg v.cells.toArray, .agg x.cells.toArray] ++ caps : Array Value) = A := ⟨_, rfl⟩
      have TLL : Calls Tryd.prog F AG wr.drew (TellPC (lt v x) wr.drew) := by rw [← hAG]; exact TF.out.tell v x wr.drew
      have TLE : (callFunc F AG).run Tryd.prog wr.drew = .ok (.enter F AG) wr.drew := TF.out.enter _ _
      refine rg_last (by kernel_rfl) rfl (S := fun U => RowC U B g c LL ∧ w.grownBy U (some g)) ?_
      refine rgd_pure 0 (some 92) rfl rfl (.func (.func F) #[] caps) (by kernel_rfl) (by kernel_rfl) (by kernel_rfl) (fun _ _ _ _ h => h) (by kernel_rfl) (fun w => by kernel_rfl) h0 ?_
      refine rgd_pure 1 (some 93) rfl rfl (.slice (some ⟨g, 0, none⟩) N c) (by kernel_rfl) (by kernel_rfl) (by kernel_rfl) (fun _ _ _ _ h => h) (by kernel_rfl) (fun w => by kernel_rfl) h0 ?_
      refine rgd_pure 2 (some 94) rfl rfl (.int .i64 (m : Int)) (by kernel_rfl) (by kernel_rfl) (by kernel_rfl) (fun _ _ _ _ h => h) (by kernel_rfl) (fun w => by kernel_rfl) h0 ?_
      refine rgd_pure 3 (some 95) rfl rfl (.pointer (some ⟨g, 0 + m * 3, none⟩)) (by kernel_rfl) (by kernel_rfl) (by kernel_rfl) (fun _ _ _ _ h => h) (by kernel_rfl) (fun w => exec_idxC _ _ rfl g 0 N c m (by kernel_rfl) (by kernel_rfl) (by omega) w) h0 ?_
      refine rgd_pureS 4 (some 96) rfl rfl (.agg v.cells.toArray) (by kernel_rfl) (by kernel_rfl) (by kernel_rfl) (fun _ _ _ _ h => h) (by kernel_rfl) (fun U hU => exec_ldC _ rfl hU.1 m hlm v LM (by kernel_rfl)) h0 ?_
      refine rgd_pure 5 (some 97) rfl rfl (.slice (some ⟨g, 0, none⟩) N c) (by kernel_rfl) (by kernel_rfl) (by kernel_rfl) (fun _ _ _ _ h => h) (by kernel_rfl) (fun w => by kernel_rfl) h0 ?_
      refine rgd_pure 6 (some 98) rfl rfl (.int .i64 (k : Int)) (by kernel_rfl) (by kernel_rfl) (by kernel_rfl) (fun _ _ _ _ h => h) (by kernel_rfl) (fun w => by kernel_rfl) h0 ?_
      refine rgd_pure 7 (some 99) rfl rfl (.pointer (some ⟨g, 0 + k * 3, none⟩)) (by kernel_rfl) (by kernel_rfl) (by kernel_rfl) (fun _ _ _ _ h => h) (by kernel_rfl) (fun w => exec_idxC _ _ rfl g 0 N c k (by kernel_rfl) (by kernel_rfl) (by omega) w) h0 ?_
      refine rgd_pureS 8 (some 100) rfl rfl (.agg x.cells.toArray) (by kernel_rfl) (by kernel_rfl) (by kernel_rfl) (fun _ _ _ _ h => h) (by kernel_rfl) (fun U hU => exec_ldC _ rfl hU.1 k hlk x LK (by kernel_rfl)) h0 ?_
      refine rgd_call 9 (some 101) (by kernel_rfl) rfl rfl (by kernel_rfl) F AG (exec_tellC _ _ _ rfl F caps (by kernel_rfl) _ AG (by kernel_rfl) hAG TLE) TLL ?_
      rintro _ V1 ⟨iv, rfl, hiv, hb1⟩
      have h1 : RowC V1 B g c LL ∧ w.grownBy V1 (some g) := ⟨h0.1.kept hb1, grTC h0.2 (grBC hb1)⟩
      rw [hbz] at hiv
      refine ⟨_, rfl, h1, ?_⟩
      refine rgd_pure 10 (some 102) rfl rfl (.bool bz) (by kernel_rfl) (by kernel_rfl) (by kernel_rfl) (fun _ _ _ _ h => h) (by kernel_rfl) (fun w => exec_lss _ _ _ _ rfl iv 0 bz hiv (by kernel_rfl) (by kernel_rfl) w) h1 ?_
      refine rgd_pure 11 (some 103) rfl rfl (.bool (!bz)) (by kernel_rfl) (by kernel_rfl) (by kernel_rfl) (fun _ _ _ _ h => h) (by kernel_rfl) (fun w => by kernel_rfl) h1 ?_
      exact wpAnyH_done (by kernel_rfl) (Eq.mp (by kernel_rfl) (KE1 iv V1 h1.1 h1.2)) _
    · obtain rfl : i = j := by omega
      have hlt2 : ¬ (i : Int) < (i : Int) := by omega
      have NE : Hid (mrg lt U [v] = U.take (i - a) ++ v :: U.drop (i - a)) := Lib.hid (by
        conv => lhs; rw [← List.take_append_drop (i - a) U]
        refine mrg_one (fun x hx => ?_) (fun x hx => ?_)
        · rcases Nat.eq_zero_or_pos (i - a) with h0 | h0
          · rw [h0] at hx; simp at hx
          · have hb1 : i - 1 - a < U.length := by have := HM.out; omega
            rcases HP.out hb1 with e | e
            · omega
            · have := srt_upto HW.out HV.out (s := i - 1 - a) hb1 (z := v) e x
              rw [show i - 1 - a + 1 = i - a by omega] at this
              exact this hx
        · by_cases hb1 : i - a < U.length
          · rcases HQ.out hb1 with e | e
            · have := HM.out; omega
            · exact srt_from_lt HW.out HV.out hb1 e x hx
          · rw [List.drop_of_length_le (by omega)] at hx; simp at hx)
      obtain ⟨U1, hU1⟩ : ∃ X, U.take (i - a) = X := ⟨_, rfl⟩
      obtain ⟨U2, hU2⟩ : ∃ X, U.drop (i - a) = X := ⟨_, rfl⟩
      have l1 : U1.length = i - a := by rw [← hU1, List.length_take]; have := HM.out; omega
      have VV : Hid (U = U1 ++ U2) := Lib.hid (by rw [← hU1, ← hU2, List.take_append_drop])
      rw [hU1, hU2] at NE
      obtain ⟨n2, hn2'⟩ : ∃ n, U2.length = n := ⟨_, rfl⟩
      have l2 : n2 = m - i := by rw [← hn2', ← hU2, List.length_drop]; have := HM.out; omega
      have L1 := Lib.hid l1; have L2 := Lib.hid hn2'; have LN2 := Lib.hid l2
      have R3 : Hid (RowC wr B g c (P ++ (U1 ++ (U2.take n2 ++ (v :: (U2.drop n2 ++ S)))))) := Lib.hid (by
        have := RR.out
        rw [← HLL.out, VV.out] at this
        rw [List.take_of_length_le (by omega), List.drop_of_length_le (by omega)]
        simpa using this)
      clear hU1 hU2 l1 hn2' l2 RR HP HQ AT LM
      go_wp2
      go_loopw [17] (fun v_ wr => ∃ t k : Nat, t ≤ n2 ∧ Hid (k = i + t) ∧ v_ = .int .i64 (k : Int) ∧ RowC wr B g c (P ++ (U1 ++ (U2.take t ++ (v :: (U2.drop t ++ S))))) ∧ w.grownBy wr (some g)) (fun v_ _ => (RowKit.intOf v_).toNat)
      case atStart => exact ⟨n2, m, Nat.le_refl _, Lib.hid (by have := LN2.out; omega), rfl, R3.out, GR.out⟩
      case round =>
        obtain ⟨t, k, htn, HK, rfl, hr, hg⟩ := hrel
        clear R3 GR
        have RR := Lib.hid hr; have GR := Lib.hid hg
        clear hr hg
        have hkm : k ≤ m := by have := HK.out; have := LN2.out; omega
        by_cases hkt : 0 < t
        · have hkz : (k : Int) > (i : Int) := by have := HK.out; omega
          obtain ⟨t', ht'⟩ : ∃ t', t = t' + 1 := ⟨t - 1, by omega⟩
          have htl : t' < U2.length := by rw [L2.out]; omega
          obtain ⟨y, hy⟩ : ∃ y, U2[t'] = y := ⟨_, rfl⟩
          obtain ⟨J, hJ⟩ : ∃ J, k = J + 1 := ⟨k - 1, by omega⟩
          obtain ⟨R9, hR9⟩ : ∃ R, U2.drop t ++ S = R := ⟨_, rfl⟩
          obtain ⟨PP, hPP⟩ : ∃ X, P ++ (U1 ++ U2.take t') = X := ⟨_, rfl⟩
          have e1 : P ++ (U1 ++ (U2.take t ++ (v :: (U2.drop t ++ S)))) = PP ++ y :: ([] ++ v :: R9) := by
            rw [← hR9, ht', List.take_succ_eq_append_getElem htl, hy, ← hPP]; simp only [List.append_assoc, List.cons_append, List.nil_append]
          have e2 : P ++ (U1 ++ (U2.take t' ++ (v :: (U2.drop t' ++ S)))) = PP ++ v :: ([] ++ y :: R9) := by
            rw [List.drop_eq_getElem_cons htl, hy, ← hPP, ← hR9, ht']; simp only [List.append_assoc, List.cons_append, List.nil_append]
          have lP : PP.length = J := by rw [← hPP]; simp only [List.length_append, List.length_take, L1.out, L2.out]; have := HK.out; have := HA.out; omega
          obtain ⟨L9, hL9⟩ : ∃ L, PP ++ y :: ([] ++ v :: R9) = L := ⟨_, rfl⟩
          have R4 : Hid (RowC wr B g c L9) := Lib.hid (by have := RR.out; rw [e1, hL9] at this; exact this)
          have lL9 : L9.length = N := by
            rw [← hL9, ← e1, ← HL.out, ← HLL.out, VV.out]; simp only [List.length_append, List.length_cons, List.length_take, List.length_drop, L1.out, L2.out]; omega
          have hlk : k < L9.length := by omega
          have hlJ : J < L9.length := by omega
          have LJ : L9[J]'hlJ = y := by subst hL9; subst lP; simp
          have LK : L9[k]'hlk = v := by
            subst hL9; subst hJ; subst lP
            rw [List.getElem_append_right (by omega)]
            simp
          have SM : Hid ((L9.set k y).set J v = P ++ (U1 ++ (U2.take t' ++ (v :: (U2.drop t' ++ S))))) := Lib.hid (by
            rw [e2, ← hL9, hJ, ← lP, List.set_comm _ _ (by omega)]
            have := swap_mid PP [] R9 y v
            simp only [List.length_nil, Nat.add_zero] at this
            exact this)
          have hJ1 : (k : Int) - 1 = (J : Int) := by omega
          have hJN : J ≤ 1000000 := by omega
          have HT' := Lib.hid ht'
          clear e1 e2 lP hL9 hPP hR9 hy RR ht'
          have HJk := Lib.hid hJ
          clear hJ
          have hJk : J < k := by have := HJk.out; omega
          go_wp2_with fail
          generalize hQ : Exit.inBlock _ _ = QX
          have RD : RowC wr.drew B g c L9 := R4.out
          have RZ := Lib.hid ((RD.set (i := k) hlk y).set (i := J) (by rw [List.length_set]; exact hlJ) v)
          have GZ := Lib.hid (grTC (grTC (grDC GR.out) (grown_setCells g y.cells wr.drew (k * 3))) (grown_setCells g v.cells _ (J * 3)))
          rw [SM.out] at RZ
          have KE : QX .normal { tmps := #[.slice (some ⟨g, 0, none⟩) N c, .int .i64 (a : Int), .int .i64 (m : Int), .int .i64 (b : Int), .func (.func F) #[] caps, undef, undef, undef, undef, undef, undef, undef, undef, undef, .int .i64 (i : Int), .int .i64 (i : Int), u16, .int .i64 (k : Int), undef, undef, undef, undef, undef, undef, undef, .int .i64 (m : Int), .int .i64 (a : Int), .int .i64 (n0 : Int), .bool false, undef, undef, undef, undef, undef, undef, undef, undef, undef, undef, undef, undef, undef, undef, undef, undef, undef, undef, undef, undef, undef, undef, undef, undef, undef, undef, undef, undef, undef, undef, undef, undef, undef, undef, undef, undef, undef, undef, undef, undef, undef, undef, undef, undef, undef, undef, undef, undef, .int .i64 (b : Int), .int .i64 (m : Int), .int .i64 1, .bool true, .int .i64 (a : Int), .int .i64 (m : Int), .int .i64 (i : Int), .int .i64 (i : Int), .bool false, u86, u87, u88, u89, u90, u91, u92, u93, u94, u95, u96, u97, u98, u99, u100, u101, u102, u103, u104, u105, u106, .int .i64 (m : Int), .int .i64 (k : Int), .int .i64 (i : Int), .bool true, u111, u112, .slice (some ⟨g, 0, none⟩) N c, .int .i64 (k : Int), .slice (some ⟨g, 0, none⟩) N c, .int .i64 (k : Int), .int .i64 (J : Int), .slice (some ⟨g, 0, none⟩) N c, .int .i64 (k : Int), .int .i64 (J : Int), .pointer (some ⟨g, 0 + J * 3, none⟩), .agg y.cells.toArray, .slice (some ⟨g, 0, none⟩) N c, .int .i64 (k : Int), .pointer (some ⟨g, 0 + k * 3, none⟩), .agg v.cells.toArray, .pointer (some ⟨g, 0 + k * 3, none⟩), .pointer (some ⟨g, 0 + J * 3, none⟩), undef, undef, undef, undef, undef, undef, undef, undef, undef, undef, undef, undef, undef, undef, undef, undef, undef, undef, undef, undef, undef, undef, undef, undef, undef, undef, undef, undef, undef, undef, undef, undef, undef, undef, undef, undef, undef, undef, undef, undef, undef, undef, undef, undef, undef, undef, undef, undef, undef, undef, undef, undef, undef, undef, undef, undef, undef, undef, undef, undef, undef, undef, undef, undef, undef, undef, undef, undef, undef, undef, undef, undef, undef, undef, undef, undef, undef, undef, undef, undef, undef, undef, undef, undef, undef, undef, undef, undef, undef, undef, undef], defers := [] } ((wr.drew.setCells g (k * 3) y.cells).setCells g (J * 3) v.cells) := by
            rw [← hQ]
            clear hQ
            simp only [Exit.inBlock, Exit.then]
            generalize ((wr.drew.setCells g (k * 3) y.cells).setCells g (J * 3) v.cells) = w9 at RZ GZ ⊢
            have HJ1 := Lib.hid hJ1
            clear RD R4 GR LK LJ SM hJ1
            go_wp2
            go_roundw
            case rel => exact ⟨t', J, by have := HT'.out; omega, Lib.hid (by have := HK.out; have := HT'.out; have := HJk.out; omega), congrArg (Value.int .i64) HJ1.out, RZ.out, GZ.out⟩
            case measure => simp [intOf]; omega
          refine rg_last (by kernel_rfl) rfl (S := fun _ => True) ?_
          refine rgd_pure 0 (some 113) rfl rfl (.slice (some ⟨g, 0, none⟩) N c) (by kernel_rfl) (by kernel_rfl) (by kernel_rfl) (fun _ _ _ _ h => h) (by kernel_rfl) (exec_is _ (.inl rfl) _ (by kernel_rfl)) trivial ?_
          refine rgd_pure 1 (some 114) rfl rfl (.int .i64 (k : Int)) (by kernel_rfl) (by kernel_rfl) (by kernel_rfl) (fun _ _ _ _ h => h) (by kernel_rfl) (exec_is _ (.inl rfl) _ (by kernel_rfl)) trivial ?_
          refine rgd_pure 2 (some 115) rfl rfl (.slice (some ⟨g, 0, none⟩) N c) (by kernel_rfl) (by kernel_rfl) (by kernel_rfl) (fun _ _ _ _ h => h) (by kernel_rfl) (exec_is _ (.inl rfl) _ (by kernel_rfl)) trivial ?_
          refine rgd_pure 3 (some 116) rfl rfl (.int .i64 (k : Int)) (by kernel_rfl) (by kernel_rfl) (by kernel_rfl) (fun _ _ _ _ h => h) (by kernel_rfl) (exec_is _ (.inl rfl) _ (by kernel_rfl)) trivial ?_
          refine rgd_pure 4 (some 117) rfl rfl (.int .i64 (J : Int)) (by kernel_rfl) (by kernel_rfl) (by kernel_rfl) (fun _ _ _ _ h => h) (by kernel_rfl) (fun w => exec_subGC _ _ _ _ rfl (k : Int) 1 (J : Int) (by rw [IntKind.wrap_i64]; omega) (by kernel_rfl) (by kernel_rfl) w) trivial ?_
          refine rgd_pure 5 (some 118) rfl rfl (.slice (some ⟨g, 0, none⟩) N c) (by kernel_rfl) (by kernel_rfl) (by kernel_rfl) (fun _ _ _ _ h => h) (by kernel_rfl) (exec_is _ (.inl rfl) _ (by kernel_rfl)) trivial ?_
          refine rgd_pure 6 (some 119) rfl rfl (.int .i64 (k : Int)) (by kernel_rfl) (by kernel_rfl) (by kernel_rfl) (fun _ _ _ _ h => h) (by kernel_rfl) (exec_is _ (.inl rfl) _ (by kernel_rfl)) trivial ?_
          refine rgd_pure 7 (some 120) rfl rfl (.int .i64 (J : Int)) (by kernel_rfl) (by kernel_rfl) (by kernel_rfl) (fun _ _ _ _ h => h) (by kernel_rfl) (fun w => exec_subGC _ _ _ _ rfl (k : Int) 1 (J : Int) (by rw [IntKind.wrap_i64]; omega) (by kernel_rfl) (by kernel_rfl) w) trivial ?_
          refine rgd_pure 8 (some 121) rfl rfl (.pointer (some ⟨g, 0 + J * 3, none⟩)) (by kernel_rfl) (by kernel_rfl) (by kernel_rfl) (fun _ _ _ _ h => h) (by kernel_rfl) (fun w => exec_idxC _ _ rfl g 0 N c J (by kernel_rfl) (by kernel_rfl) (by omega) w) trivial ?_
          refine rgd_pure 10 (some 123) rfl rfl (.slice (some ⟨g, 0, none⟩) N c) (by kernel_rfl) (by kernel_rfl) (by kernel_rfl) (fun _ _ _ _ h => h) (by kernel_rfl) (exec_is _ (.inl rfl) _ (by kernel_rfl)) trivial ?_
          refine rgd_pure 11 (some 124) rfl rfl (.int .i64 (k : Int)) (by kernel_rfl) (by kernel_rfl) (by kernel_rfl) (fun _ _ _ _ h => h) (by kernel_rfl) (exec_is _ (.inl rfl) _ (by kernel_rfl)) trivial ?_
          refine rgd_pure 12 (some 125) rfl rfl (.pointer (some ⟨g, 0 + k * 3, none⟩)) (by kernel_rfl) (by kernel_rfl) (by kernel_rfl) (fun _ _ _ _ h => h) (by kernel_rfl) (fun w => exec_idxC _ _ rfl g 0 N c k (by kernel_rfl) (by kernel_rfl) (by omega) w) trivial ?_
          refine rgd_acts 9 13 (some 122) (some 126) (by kernel_rfl) rfl rfl (by kernel_rfl) (.agg y.cells.toArray) wr.drew (exec_ldC _ rfl RD J hlJ y LJ (by kernel_rfl)) trivial rfl rfl (by kernel_rfl) (.agg v.cells.toArray) wr.drew (exec_ldC _ rfl RD k hlk v LK (by kernel_rfl)) trivial ?_ ?_
          · refine rgd_run 13 (some 126) (by kernel_rfl) rfl rfl (by kernel_rfl) (.agg v.cells.toArray) wr.drew (exec_ldC _ rfl RD k hlk v LK (by kernel_rfl)) trivial ?_
            refine rgd_pure 14 (some 127) rfl rfl (.pointer (some ⟨g, 0 + k * 3, none⟩)) (by kernel_rfl) (by kernel_rfl) (by kernel_rfl) (fun _ _ _ _ h => h) (by kernel_rfl) (fun w => exec_idxC _ _ rfl g 0 N c k (by kernel_rfl) (by kernel_rfl) (by omega) w) trivial ?_
            refine rgd_do 15 none (by kernel_rfl) rfl rfl (by kernel_rfl) (wr.drew.setCells g (k * 3) y.cells) (exec_stC _ _ rfl RD k hlk y (by kernel_rfl) (by kernel_rfl)) trivial ?_
            refine rgd_pure 16 (some 128) rfl rfl (.pointer (some ⟨g, 0 + J * 3, none⟩)) (by kernel_rfl) (by kernel_rfl) (by kernel_rfl) (fun _ _ _ _ h => h) (by kernel_rfl) (fun w => exec_idxC _ _ rfl g 0 N c J (by kernel_rfl) (by kernel_rfl) (by omega) w) trivial ?_
            refine rgd_do 17 none (by kernel_rfl) rfl rfl (by kernel_rfl) ((wr.drew.setCells g (k * 3) y.cells).setCells g (J * 3) v.cells) (exec_stC _ _ rfl (RD.set (i := k) hlk y) J (by rw [List.length_set]; exact hlJ) v (by kernel_rfl) (by kernel_rfl)) trivial ?_
            exact wpAnyH_done (by kernel_rfl) (Eq.mp (by kernel_rfl) KE) _
          · refine rgd_run 9 (some 122) (by kernel_rfl) rfl rfl (by kernel_rfl) (.agg y.cells.toArray) wr.drew (exec_ldC _ rfl RD J hlJ y LJ (by kernel_rfl)) trivial ?_
            refine rgd_pure 14 (some 127) rfl rfl (.pointer (some ⟨g, 0 + k * 3, none⟩)) (by kernel_rfl) (by kernel_rfl) (by kernel_rfl) (fun _ _ _ _ h => h) (by kernel_rfl) (fun w => exec_idxC _ _ rfl g 0 N c k (by kernel_rfl) (by kernel_rfl) (by omega) w) trivial ?_
            refine rgd_do 15 none (by kernel_rfl) rfl rfl (by kernel_rfl) (wr.drew.setCells g (k * 3) y.cells) (exec_stC _ _ rfl RD k hlk y (by kernel_rfl) (by kernel_rfl)) trivial ?_
            refine rgd_pure 16 (some 128) rfl rfl (.pointer (some ⟨g, 0 + J * 3, none⟩)) (by kernel_rfl) (by kernel_rfl) (by kernel_rfl) (fun _ _ _ _ h => h) (by kernel_rfl) (fun w => exec_idxC _ _ rfl g 0 N c J (by kernel_rfl) (by kernel_rfl) (by omega) w) trivial ?_
            refine rgd_do 17 none (by kernel_rfl) rfl rfl (by kernel_rfl) ((wr.drew.setCells g (k * 3) y.cells).setCells g (J * 3) v.cells) (exec_stC _ _ rfl (RD.set (i := k) hlk y) J (by rw [List.length_set]; exact hlJ) v (by kernel_rfl) (by kernel_rfl)) trivial ?_
            exact wpAnyH_done (by kernel_rfl) (Eq.mp (by kernel_rfl) KE) _
        · obtain rfl : t = 0 := by omega
          have hkz : ¬ (k : Int) > (i : Int) := by have := HK.out; omega
          have RF : Hid (RowC wr B g c (P ++ (mrg lt U [v] ++ S))) := Lib.hid (by
            have := RR.out
            rw [NE.out]
            simpa using this)
          clear RR NE
          go_wp2
          exact bodyPost_ret (results_none rfl _ _ _) rfl ⟨rfl, RF.out, GR.out⟩
end Go.Proofs.YtnjopndkommjnaaDoor
