/- The statement DocsReads, proved for every input that its row reads: part 33 of 54. -/
import Derived.Test.YtijmijokgenflaaGreatDoorPackDocsReads32
import Derived.Deep.CutBlock
import Derived.Deep.DeepCutAuto
/- symMergeCmpFunc: one thing, and a list behind it. -/
namespace Go.Proofs.YtijmijokgenflaaGreatDoor
open Go Go.RowKit
set_option linter.unusedVariables false
set_option maxRecDepth 1000000

theorem half_cast (i j : Nat) : ((i : Int) + (j : Int)) / 2 = (((i + j) / 2 : Nat) : Int) := by omega
set_option maxHeartbeats 1000000 in
theorem symAW_is (lt : Wr → Wr → Bool) (hlt : SW lt) (F : FuncId) (caps : Array Value) (HF : TellsW F caps lt) (B g c N : Nat) (P V S : List Wr) (u : Wr) (a m b : Nat) (w : World) (hN : (P ++ (u :: (V ++ S))).length = N) (h : RowW w B g c (P ++ (u :: (V ++ S)))) (hV : Srt lt V) (ha : a = P.length) (hm : m = P.length + 1) (hb : b = P.length + 1 + V.length) (hbig : N ≤ 1000000) :
    Calls Tryz.prog 96 #[.slice (some ⟨g, 0, none⟩) N c, .int .i64 (a : Int), .int .i64 (m : Int), .int .i64 (b : Int), .func (.func F) #[] caps] w (SwW w B g c (P ++ (mrg lt [u] V ++ S))) := by
  obtain ⟨LL, hLL⟩ : ∃ LL, P ++ (u :: (V ++ S)) = LL := ⟨_, rfl⟩
  rw [hLL] at hN h
  have HL := Lib.hid hN; have HA := Lib.hid ha; have HB := Lib.hid hb; have TF := Lib.hid HF; have HW := Lib.hid hlt; have HV := Lib.hid hV; have R0 := Lib.hid h
  have HM : Hid (m = a + 1) := Lib.hid (by omega)
  have hma : (m : Int) - (a : Int) = 1 := by omega
  have AT : Hid (∀ k (h1 : m ≤ k) (h2 : k < b), ∃ h3 : k < LL.length, ∃ h4 : k - m < V.length, LL[k] = V[k - m]) := Lib.hid fun k h1 h2 => by
    have h4 : k - m < V.length := by omega
    refine ⟨by rw [← hLL]; simp; omega, h4, ?_⟩
    subst hLL
    rw [List.getElem_append_right (by omega)]
    simp only [show k - P.length = (k - m) + 1 by omega, List.getElem_cons_succ]
    rw [List.getElem_append_left h4]
  have hla : a < LL.length := by rw [← hLL, ha]; simp
  have LA : LL[a]'hla = u := by subst hLL; subst ha; simp
  have lb : b ≤ N := by rw [← hN, ← hLL]; simp only [List.length_append, List.length_cons]; omega
  have ba : a ≤ 1000000 := by omega
  have hmb : m ≤ b := by omega
  have hbb : b ≤ 1000000 := by omega
  have hLN : LL.length = N := hN
  have HLL := Lib.hid hLL
  clear h ha hm hb hN hlt HF hV hLL
  go_enter Tryz.func96, Tryz.ntmps96
  go_wp2
  go_loopw [10, 11] (fun x y wr => ∃ i j : Nat, m ≤ i ∧ i ≤ j ∧ j ≤ b ∧ x = .int .i64 i ∧ y = .int .i64 j ∧ (∀ h : i - 1 - m < V.length, i = m ∨ lt V[i - 1 - m] u = true) ∧ (∀ h : j - m < V.length, j = b ∨ lt V[j - m] u = false) ∧ RowW wr B g c LL ∧ w.grownBy wr (some g)) (fun x y _ => (RowKit.intOf y).toNat - (RowKit.intOf x).toNat)
  case atStart => exact ⟨m, b, Nat.le_refl _, hmb, Nat.le_refl _, rfl, rfl, fun _ => .inl rfl, fun _ => .inl rfl, R0.out, grRW _ _⟩
  case round =>
    obtain ⟨i, j, hmi, hij, hjb, rfl, rfl, hp, hq, hr, hg⟩ := hrel
    have RR := Lib.hid hr; have GR := Lib.hid hg; have HP := Lib.hid hp; have HQ := Lib.hid hq
    clear hr hg hp hq R0
    by_cases hlt' : i < j
    · have hlt2 : (i : Int) < (j : Int) := by omega
      obtain ⟨k, hk⟩ : ∃ k, (i + j) / 2 = k := ⟨_, rfl⟩
      have hc := half_cast i j
      rw [hk] at hc
      have hk1 : i ≤ k := by omega
      have hk2 : k < j := by omega
      clear hk
      go_wp2_with fail
      obtain ⟨hlk, hk4, hk5⟩ := AT.out k (by omega) (by omega)
      obtain ⟨v, hv⟩ : ∃ v, V[k - m] = v := ⟨_, rfl⟩
      have LK : LL[k] = v := by rw [hk5, hv]
      obtain ⟨bz, hbz⟩ : ∃ q, lt v u = q := ⟨_, rfl⟩
      have HBZ := Lib.hid hbz
      have HV2 := Lib.hid hv
      clear hk5
      generalize hQ : Exit.then _ _ = QX
      have KE1 : ∀ (iv : Int) (V2 : World), RowW V2 B g c LL → w.grownBy V2 (some g) → QX .normal { tmps := #[.slice (some ⟨g, 0, none⟩) N c, .int .i64 (a : Int), .int .i64 (m : Int), .int .i64 (b : Int), .func (.func F) #[] caps, undef, undef, undef, undef, undef, .int .i64 (i : Int), .int .i64 (j : Int), .int .i64 (k : Int), undef, undef, undef, undef, undef, undef, undef, undef, undef, undef, undef, undef, .int .i64 (m : Int), .int .i64 (a : Int), .int .i64 1, .bool true, .int .i64 (m : Int), .int .i64 (b : Int), .int .i64 (i : Int), .int .i64 (j : Int), .bool true, .int .i64 (i : Int), .int .i64 (j : Int), .int .i64 ((i : Int) + (j : Int)), .int .u64 ((i : Int) + (j : Int)), .int .u64 (k : Int), .int .i64 (k : Int), .func (.func F) #[] caps, .slice (some ⟨g, 0, none⟩) N c, .int .i64 (k : Int), .pointer (some ⟨g, 0 + k * 6, none⟩), .agg v.cells.toArray, .slice (some ⟨g, 0, none⟩) N c, .int .i64 (a : Int), .pointer (some ⟨g, 0 + a * 6, none⟩), .agg u.cells.toArray, .int .i64 iv, .bool bz, u51, u52, u53, undef, undef, undef, undef, undef, undef, undef, undef, undef, undef, undef, undef, undef, undef, undef, undef, undef, undef, undef, undef, undef, undef, undef, undef, undef, undef, undef, undef, undef, undef, undef, undef, undef, undef, undef, undef, undef, undef, undef, undef, undef, undef, undef, undef, undef, undef, undef, undef, undef, undef, undef, undef, undef, undef, undef, undef, undef, undef, undef, undef, undef, undef, undef, undef, undef, undef, undef, undef, undef, undef, undef, undef, undef, undef, undef, undef, undef, undef, undef, undef, undef, undef, undef, undef, undef, undef, undef, undef, undef, undef, undef, undef, undef, undef, undef, undef, undef, undef, undef, undef, undef, undef, undef, undef, undef, undef, undef, undef, undef, undef, undef, undef, undef, undef, undef, undef, undef, undef, undef, undef, undef, undef, undef, undef, undef, undef, undef, undef, undef, undef, undef, undef, undef, undef, undef, undef, undef, undef, undef, undef, undef, undef, undef, undef, undef, undef, undef, undef, undef, undef, undef, undef, undef, undef, undef, undef, undef, undef, undef, undef, undef, undef, undef, undef, undef, undef], defers := [] } V2 := by
        intro iv V2 hr hg
        rw [← hQ]
        clear hQ
        simp only [Exit.then]
        have R2 := Lib.hid hr; have G2 := Lib.hid hg
        clear hr hg RR GR LK LA hv hbz
        cases bz with
        | true =>
          have HP2 : Hid (∀ h : k + 1 - 1 - m < V.length, k + 1 = m ∨ lt V[k + 1 - 1 - m] u = true) := Lib.hid fun h => .inr (by simp only [Nat.add_sub_cancel]; rw [HV2.out]; exact HBZ.out)
          clear HP HBZ HV2
          go_wp2
          go_roundw
          case rel => exact ⟨k + 1, j, by omega, by omega, hjb, by go_num, rfl, HP2.out, HQ.out, R2.out, G2.out⟩
          case measure => simp [intOf]; omega
        | false =>
          have HQ2 : Hid (∀ h : k - m < V.length, k = b ∨ lt V[k - m] u = false) := Lib.hid fun h => .inr (by rw [HV2.out]; exact HBZ.out)
          clear HQ HBZ HV2
          go_wp2
          go_roundw
          case rel => exact ⟨i, k, hmi, by omega, by omega, rfl, rfl, HP.out, HQ2.out, R2.out, G2.out⟩
          case measure => simp [intOf]; omega
      have h0 : RowW wr.drew B g c LL ∧ w.grownBy wr.drew (some g) := ⟨RR.out, grDW GR.out⟩
      obtain ⟨AG, hAG⟩ : ∃ A, (#[.agg v.cells.toArray, .agg u.cells.toArray] ++ caps : Array Value) = A := ⟨_, rfl⟩
      have TLL : Calls Tryz.prog F AG wr.drew (TellPW (lt v u) wr.drew) := by rw [← hAG]; exact TF.out.tell v u wr.drew
      have TLE : (callFunc F AG).run Tryz.prog wr.drew = .ok (.enter F AG) wr.drew := TF.out.enter _ _
      refine rg_last (by kernel_rfl) rfl (S := fun U => RowW U B g c LL ∧ w.grownBy U (some g)) ?_
      refine rgd_pure 0 (some 40) rfl rfl (.func (.func F) #[] caps) (by kernel_rfl) (by kernel_rfl) (by kernel_rfl) (fun _ _ _ _ h => h) (by kernel_rfl) (fun w => by kernel_rfl) h0 ?_
      refine rgd_pure 1 (some 41) rfl rfl (.slice (some ⟨g, 0, none⟩) N c) (by kernel_rfl) (by kernel_rfl) (by kernel_rfl) (fun _ _ _ _ h => h) (by kernel_rfl) (fun w => by kernel_rfl) h0 ?_
      refine rgd_pure 2 (some 42) rfl rfl (.int .i64 (k : Int)) (by kernel_rfl) (by kernel_rfl) (by kernel_rfl) (fun _ _ _ _ h => h) (by kernel_rfl) (fun w => by kernel_rfl) h0 ?_
      refine rgd_pure 3 (some 43) rfl rfl (.pointer (some ⟨g, 0 + k * 6, none⟩)) (by kernel_rfl) (by kernel_rfl) (by kernel_rfl) (fun _ _ _ _ h => h) (by kernel_rfl) (fun w => exec_idxW _ _ rfl g 0 N c k (by kernel_rfl) (by kernel_rfl) (by omega) w) h0 ?_
      refine rgd_pureS 4 (some 44) rfl rfl (.agg v.cells.toArray) (by kernel_rfl) (by kernel_rfl) (by kernel_rfl) (fun _ _ _ _ h => h) (by kernel_rfl) (fun U hU => exec_ldW _ rfl hU.1 k hlk v LK (by kernel_rfl)) h0 ?_
      refine rgd_pure 5 (some 45) rfl rfl (.slice (some ⟨g, 0, none⟩) N c) (by kernel_rfl) (by kernel_rfl) (by kernel_rfl) (fun _ _ _ _ h => h) (by kernel_rfl) (fun w => by kernel_rfl) h0 ?_
      refine rgd_pure 6 (some 46) rfl rfl (.int .i64 (a : Int)) (by kernel_rfl) (by kernel_rfl) (by kernel_rfl) (fun _ _ _ _ h => h) (by kernel_rfl) (fun w => by kernel_rfl) h0 ?_
      refine rgd_pure 7 (some 47) rfl rfl (.pointer (some ⟨g, 0 + a * 6, none⟩)) (by kernel_rfl) (by kernel_rfl) (by kernel_rfl) (fun _ _ _ _ h => h) (by kernel_rfl) (fun w => exec_idxW _ _ rfl g 0 N c a (by kernel_rfl) (by kernel_rfl) (by omega) w) h0 ?_
      refine rgd_pureS 8 (some 48) rfl rfl (.agg u.cells.toArray) (by kernel_rfl) (by kernel_rfl) (by kernel_rfl) (fun _ _ _ _ h => h) (by kernel_rfl) (fun U hU => exec_ldW _ rfl hU.1 a hla u LA (by kernel_rfl)) h0 ?_
      refine rgd_call 9 (some 49) (by kernel_rfl) rfl rfl (by kernel_rfl) F AG (exec_tellW _ _ _ rfl F caps (by kernel_rfl) _ AG (by kernel_rfl) hAG TLE) TLL ?_
      rintro _ V1 ⟨iv, rfl, hiv, hb1⟩
      have h1 : RowW V1 B g c LL ∧ w.grownBy V1 (some g) := ⟨h0.1.kept hb1, grTW h0.2 (grBW hb1)⟩
      rw [hbz] at hiv
      refine ⟨_, rfl, h1, ?_⟩
      refine rgd_pure 10 (some 50) rfl rfl (.bool bz) (by kernel_rfl) (by kernel_rfl) (by kernel_rfl) (fun _ _ _ _ h => h) (by kernel_rfl) (fun w => exec_lss _ _ _ _ rfl iv 0 bz hiv (by kernel_rfl) (by kernel_rfl) w) h1 ?_
      exact wpAnyH_done (by kernel_rfl) (Eq.mp (by kernel_rfl) (KE1 iv V1 h1.1 h1.2)) _
    · obtain rfl : i = j := by omega
      have hlt2 : ¬ (i : Int) < (i : Int) := by omega
      have NE : Hid (mrg lt [u] V = V.take (i - m) ++ u :: V.drop (i - m)) := Lib.hid (by
        conv => lhs; rw [← List.take_append_drop (i - m) V]
        refine mrg_one1 (fun x hx => ?_) (fun x hx => ?_)
        · have hl : (V.take (i - m)).length = i - m := by rw [List.length_take]; have := HB.out; have := HA.out; have := HM.out; omega
          rcases Nat.eq_zero_or_pos (i - m) with h0 | h0
          · rw [h0] at hx; simp at hx
          · have hb1 : i - 1 - m < V.length := by have := HB.out; have := HA.out; have := HM.out; omega
            rcases HP.out hb1 with e | e
            · omega
            · have := srt_upto_lt HW.out HV.out (t := i - 1 - m) hb1 (z := u) e x
              rw [show i - 1 - m + 1 = i - m by omega] at this
              exact this hx
        · by_cases hb1 : i - m < V.length
          · rcases HQ.out hb1 with e | e
            · have := HB.out; have := HA.out; have := HM.out; omega
            · exact srt_from HW.out HV.out hb1 e x hx
          · rw [List.drop_of_length_le (by omega)] at hx; simp at hx)
      obtain ⟨V1, hV1⟩ : ∃ X, V.take (i - m) = X := ⟨_, rfl⟩
      obtain ⟨V2, hV2⟩ : ∃ X, V.drop (i - m) = X := ⟨_, rfl⟩
      have l1 : V1.length = i - m := by rw [← hV1, List.length_take]; have := HB.out; have := HA.out; have := HM.out; omega
      have VV : Hid (V = V1 ++ V2) := Lib.hid (by rw [← hV1, ← hV2, List.take_append_drop])
      rw [hV1, hV2] at NE
      obtain ⟨n1, hn1⟩ : ∃ n, V1.length = n := ⟨_, rfl⟩
      have L1 := Lib.hid hn1
      obtain ⟨Z, hZ⟩ : ∃ Z, Z = a + n1 := ⟨_, rfl⟩
      have hiZ : (i : Int) - 1 = (Z : Int) := by have := HM.out; omega
      have haZ : a ≤ Z := by omega
      have hZb : Z + 1 ≤ b := by have := HM.out; omega
      have HZ := Lib.hid hZ
      have R3 : Hid (RowW wr B g c (P ++ (V1.take 0 ++ (u :: (V1.drop 0 ++ (V2 ++ S)))))) := Lib.hid (by
        have := RR.out
        rw [← HLL.out, VV.out] at this
        simpa using this)
      clear hV1 hV2 l1 hn1 hZ RR HP HQ AT LA
      go_wp2
      go_loopw [13] (fun v wr => ∃ t k : Nat, t ≤ n1 ∧ Hid (k = a + t) ∧ v = .int .i64 (k : Int) ∧ RowW wr B g c (P ++ (V1.take t ++ (u :: (V1.drop t ++ (V2 ++ S))))) ∧ w.grownBy wr (some g)) (fun v _ => Z - (RowKit.intOf v).toNat)
      case atStart => exact ⟨0, a, Nat.zero_le _, Lib.hid rfl, rfl, R3.out, GR.out⟩
      case round =>
        obtain ⟨t, k, htn, HK, rfl, hr, hg⟩ := hrel
        clear R3 GR
        have RR := Lib.hid hr; have GR := Lib.hid hg
        clear hr hg
        by_cases hkt : t < n1
        · have hkz : (k : Int) < (Z : Int) := by have := HK.out; have := HZ.out; omega
          obtain ⟨y, hy⟩ : ∃ y, V1[t]'(by rw [L1.out]; exact hkt) = y := ⟨_, rfl⟩
          obtain ⟨J, hJ⟩ : ∃ J, J = k + 1 := ⟨_, rfl⟩
          obtain ⟨R9, hR9⟩ : ∃ R, V1.drop (t + 1) ++ (V2 ++ S) = R := ⟨_, rfl⟩
          obtain ⟨PP, hPP⟩ : ∃ X, P ++ V1.take t = X := ⟨_, rfl⟩
          have e1 : P ++ (V1.take t ++ (u :: (V1.drop t ++ (V2 ++ S)))) = PP ++ u :: ([] ++ y :: R9) := by
            rw [List.drop_eq_getElem_cons (by rw [L1.out]; exact hkt), hy, ← hPP, ← hR9]; simp only [List.append_assoc, List.cons_append, List.nil_append]
          have e2 : P ++ (V1.take (t + 1) ++ (u :: (V1.drop (t + 1) ++ (V2 ++ S)))) = PP ++ y :: ([] ++ u :: R9) := by
            rw [List.take_succ_eq_append_getElem (by rw [L1.out]; exact hkt), hy, ← hPP, ← hR9]; simp only [List.append_assoc, List.cons_append, List.nil_append]
          have lP : PP.length = k := by rw [← hPP, List.length_append, List.length_take, L1.out]; have := HK.out; have := HA.out; omega
          obtain ⟨L9, hL9⟩ : ∃ L, PP ++ u :: ([] ++ y :: R9) = L := ⟨_, rfl⟩
          have R4 : Hid (RowW wr B g c L9) := Lib.hid (by have := RR.out; rw [e1, hL9] at this; exact this)
          have lL9 : L9.length = N := by rw [← hL9, ← e1, ← HL.out, ← HLL.out, VV.out]; simp; omega
          have hlk : k < L9.length := by omega
          have hlJ : J < L9.length := by rw [lL9]; have := HK.out; have := HZ.out; omega
          have LK : L9[k]'hlk = u := by subst hL9; subst lP; simp
          have LJ : L9[J]'hlJ = y := by
            subst hL9; subst lP; subst hJ
            rw [List.getElem_append_right (by omega)]
            simp
          have SM : Hid ((L9.set k y).set J u = P ++ (V1.take (t + 1) ++ (u :: (V1.drop (t + 1) ++ (V2 ++ S))))) := Lib.hid (by
            rw [e2, ← hL9, hJ, ← lP]
            have := swap_mid PP [] R9 u y
            simp only [List.length_nil, Nat.add_zero] at this
            exact this)
          have hJ1 : (k : Int) + 1 = (J : Int) := by omega
          have hJN : J ≤ 1000000 := by omega
          clear e1 e2 lP hL9 hPP hR9 hy RR
          go_wp2_with fail
          generalize hQ : Exit.inBlock _ _ = QX
          have RD : RowW wr.drew B g c L9 := R4.out
          have RZ := Lib.hid ((RD.set (i := k) hlk y).set (i := J) (by rw [List.length_set]; exact hlJ) u)
          have GZ := Lib.hid (grTW (grTW (grDW GR.out) (grown_setCells g y.cells wr.drew (k * 6))) (grown_setCells g u.cells _ (J * 6)))
          rw [SM.out] at RZ
          have KE : QX .normal { tmps := #[.slice (some ⟨g, 0, none⟩) N c, .int .i64 (a : Int), .int .i64 (m : Int), .int .i64 (b : Int), .func (.func F) #[] caps, undef, undef, undef, undef, undef, .int .i64 (i : Int), .int .i64 (i : Int), u12, .int .i64 (k : Int), undef, undef, undef, undef, undef, undef, undef, undef, undef, undef, undef, .int .i64 (m : Int), .int .i64 (a : Int), .int .i64 1, .bool true, .int .i64 (m : Int), .int .i64 (b : Int), .int .i64 (i : Int), .int .i64 (i : Int), .bool false, u34, u35, u36, u37, u38, u39, u40, u41, u42, u43, u44, u45, u46, u47, u48, u49, u50, u51, u52, u53, .int .i64 (a : Int), .int .i64 (k : Int), .int .i64 (i : Int), .int .i64 (Z : Int), .bool true, u59, u60, .slice (some ⟨g, 0, none⟩) N c, .int .i64 (k : Int), .slice (some ⟨g, 0, none⟩) N c, .int .i64 (k : Int), .int .i64 ((J : Nat) : Int), .slice (some ⟨g, 0, none⟩) N c, .int .i64 (k : Int), .int .i64 ((J : Nat) : Int), .pointer (some ⟨g, 0 + J * 6, none⟩), .agg y.cells.toArray, .slice (some ⟨g, 0, none⟩) N c, .int .i64 (k : Int), .pointer (some ⟨g, 0 + k * 6, none⟩), .agg u.cells.toArray, .pointer (some ⟨g, 0 + k * 6, none⟩), .pointer (some ⟨g, 0 + J * 6, none⟩), undef, undef, undef, undef, undef, undef, undef, undef, undef, undef, undef, undef, undef, undef, undef, undef, undef, undef, undef, undef, undef, undef, undef, undef, undef, undef, undef, undef, undef, undef, undef, undef, undef, undef, undef, undef, undef, undef, undef, undef, undef, undef, undef, undef, undef, undef, undef, undef, undef, undef, undef, undef, undef, undef, undef, undef, undef, undef, undef, undef, undef, undef, undef, undef, undef, undef, undef, undef, undef, undef, undef, undef, undef, undef, undef, undef, undef, undef, undef, undef, undef, undef, undef, undef, undef, undef, undef, undef, undef, undef, undef, undef, undef, undef, undef, undef, undef, undef, undef, undef, undef, undef, undef, undef, undef, undef, undef, undef, undef, undef, undef, undef, undef, undef, undef, undef, undef, undef, undef, undef, undef, undef, undef, undef, undef, undef, undef, undef, undef, undef, undef, undef, undef, undef, undef, undef, undef, undef, undef, undef, undef, undef, undef], defers := [] } ((wr.drew.setCells g (k * 6) y.cells).setCells g (J * 6) u.cells) := by
            rw [← hQ]
            clear hQ
            simp only [Exit.inBlock, Exit.then]
            generalize ((wr.drew.setCells g (k * 6) y.cells).setCells g (J * 6) u.cells) = w9 at RZ GZ ⊢
            have HJ1 := Lib.hid hJ1
            clear RD R4 GR LK LJ SM hJ1
            go_wp2
            go_roundw
            case rel => exact ⟨t + 1, J, by omega, Lib.hid (by have := HK.out; omega), congrArg (Value.int .i64) HJ1.out, RZ.out, GZ.out⟩
            case measure => simp [intOf]; omega
          refine rg_last (by kernel_rfl) rfl (S := fun _ => True) ?_
          refine rgd_pure 0 (some 61) rfl rfl (.slice (some ⟨g, 0, none⟩) N c) (by kernel_rfl) (by kernel_rfl) (by kernel_rfl) (fun _ _ _ _ h => h) (by kernel_rfl) (exec_is _ (.inl rfl) _ (by kernel_rfl)) trivial ?_
          refine rgd_pure 1 (some 62) rfl rfl (.int .i64 (k : Int)) (by kernel_rfl) (by kernel_rfl) (by kernel_rfl) (fun _ _ _ _ h => h) (by kernel_rfl) (exec_is _ (.inl rfl) _ (by kernel_rfl)) trivial ?_
          refine rgd_pure 2 (some 63) rfl rfl (.slice (some ⟨g, 0, none⟩) N c) (by kernel_rfl) (by kernel_rfl) (by kernel_rfl) (fun _ _ _ _ h => h) (by kernel_rfl) (exec_is _ (.inl rfl) _ (by kernel_rfl)) trivial ?_
          refine rgd_pure 3 (some 64) rfl rfl (.int .i64 (k : Int)) (by kernel_rfl) (by kernel_rfl) (by kernel_rfl) (fun _ _ _ _ h => h) (by kernel_rfl) (exec_is _ (.inl rfl) _ (by kernel_rfl)) trivial ?_
          refine rgd_pure 4 (some 65) rfl rfl (.int .i64 ((J : Nat) : Int)) (by kernel_rfl) (by kernel_rfl) (by kernel_rfl) (fun _ _ _ _ h => h) (by kernel_rfl) (fun w => exec_addI _ _ _ _ rfl ((k : Int)) (1) (((J : Nat) : Int)) (by rw [IntKind.wrap_i64]; omega) (by kernel_rfl) (by kernel_rfl) w) trivial ?_
          refine rgd_pure 5 (some 66) rfl rfl (.slice (some ⟨g, 0, none⟩) N c) (by kernel_rfl) (by kernel_rfl) (by kernel_rfl) (fun _ _ _ _ h => h) (by kernel_rfl) (exec_is _ (.inl rfl) _ (by kernel_rfl)) trivial ?_
          refine rgd_pure 6 (some 67) rfl rfl (.int .i64 (k : Int)) (by kernel_rfl) (by kernel_rfl) (by kernel_rfl) (fun _ _ _ _ h => h) (by kernel_rfl) (exec_is _ (.inl rfl) _ (by kernel_rfl)) trivial ?_
          refine rgd_pure 7 (some 68) rfl rfl (.int .i64 ((J : Nat) : Int)) (by kernel_rfl) (by kernel_rfl) (by kernel_rfl) (fun _ _ _ _ h => h) (by kernel_rfl) (fun w => exec_addI _ _ _ _ rfl ((k : Int)) (1) (((J : Nat) : Int)) (by rw [IntKind.wrap_i64]; omega) (by kernel_rfl) (by kernel_rfl) w) trivial ?_
          refine rgd_pure 8 (some 69) rfl rfl (.pointer (some ⟨g, 0 + J * 6, none⟩)) (by kernel_rfl) (by kernel_rfl) (by kernel_rfl) (fun _ _ _ _ h => h) (by kernel_rfl) (fun w => exec_idxW _ _ rfl g 0 N c J (by kernel_rfl) (by kernel_rfl) (by omega) w) trivial ?_
          refine rgd_pure 10 (some 71) rfl rfl (.slice (some ⟨g, 0, none⟩) N c) (by kernel_rfl) (by kernel_rfl) (by kernel_rfl) (fun _ _ _ _ h => h) (by kernel_rfl) (exec_is _ (.inl rfl) _ (by kernel_rfl)) trivial ?_
          refine rgd_pure 11 (some 72) rfl rfl (.int .i64 (k : Int)) (by kernel_rfl) (by kernel_rfl) (by kernel_rfl) (fun _ _ _ _ h => h) (by kernel_rfl) (exec_is _ (.inl rfl) _ (by kernel_rfl)) trivial ?_
          refine rgd_pure 12 (some 73) rfl rfl (.pointer (some ⟨g, 0 + k * 6, none⟩)) (by kernel_rfl) (by kernel_rfl) (by kernel_rfl) (fun _ _ _ _ h => h) (by kernel_rfl) (fun w => exec_idxW _ _ rfl g 0 N c k (by kernel_rfl) (by kernel_rfl) (by omega) w) trivial ?_
          refine rgd_acts 9 13 (some 70) (some 74) (by kernel_rfl) rfl rfl (by kernel_rfl) (.agg y.cells.toArray) wr.drew (exec_ldW _ rfl RD J hlJ y LJ (by kernel_rfl)) trivial rfl rfl (by kernel_rfl) (.agg u.cells.toArray) wr.drew (exec_ldW _ rfl RD k hlk u LK (by kernel_rfl)) trivial ?_ ?_
          · refine rgd_run 13 (some 74) (by kernel_rfl) rfl rfl (by kernel_rfl) (.agg u.cells.toArray) wr.drew (exec_ldW _ rfl RD k hlk u LK (by kernel_rfl)) trivial ?_
            refine rgd_pure 14 (some 75) rfl rfl (.pointer (some ⟨g, 0 + k * 6, none⟩)) (by kernel_rfl) (by kernel_rfl) (by kernel_rfl) (fun _ _ _ _ h => h) (by kernel_rfl) (fun w => exec_idxW _ _ rfl g 0 N c k (by kernel_rfl) (by kernel_rfl) (by omega) w) trivial ?_
            refine rgd_do 15 none (by kernel_rfl) rfl rfl (by kernel_rfl) (wr.drew.setCells g (k * 6) y.cells) (exec_stW _ _ rfl RD k hlk y (by kernel_rfl) (by kernel_rfl)) trivial ?_
            refine rgd_pure 16 (some 76) rfl rfl (.pointer (some ⟨g, 0 + J * 6, none⟩)) (by kernel_rfl) (by kernel_rfl) (by kernel_rfl) (fun _ _ _ _ h => h) (by kernel_rfl) (fun w => exec_idxW _ _ rfl g 0 N c J (by kernel_rfl) (by kernel_rfl) (by omega) w) trivial ?_
            refine rgd_do 17 none (by kernel_rfl) rfl rfl (by kernel_rfl) ((wr.drew.setCells g (k * 6) y.cells).setCells g (J * 6) u.cells) (exec_stW _ _ rfl (RD.set (i := k) hlk y) J (by rw [List.length_set]; exact hlJ) u (by kernel_rfl) (by kernel_rfl)) trivial ?_
            exact wpAnyH_done (by kernel_rfl) (Eq.mp (by kernel_rfl) KE) _
          · refine rgd_run 9 (some 70) (by kernel_rfl) rfl rfl (by kernel_rfl) (.agg y.cells.toArray) wr.drew (exec_ldW _ rfl RD J hlJ y LJ (by kernel_rfl)) trivial ?_
            refine rgd_pure 14 (some 75) rfl rfl (.pointer (some ⟨g, 0 + k * 6, none⟩)) (by kernel_rfl) (by kernel_rfl) (by kernel_rfl) (fun _ _ _ _ h => h) (by kernel_rfl) (fun w => exec_idxW _ _ rfl g 0 N c k (by kernel_rfl) (by kernel_rfl) (by omega) w) trivial ?_
            refine rgd_do 15 none (by kernel_rfl) rfl rfl (by kernel_rfl) (wr.drew.setCells g (k * 6) y.cells) (exec_stW _ _ rfl RD k hlk y (by kernel_rfl) (by kernel_rfl)) trivial ?_
            refine rgd_pure 16 (some 76) rfl rfl (.pointer (some ⟨g, 0 + J * 6, none⟩)) (by kernel_rfl) (by kernel_rfl) (by kernel_rfl) (fun _ _ _ _ h => h) (by kernel_rfl) (fun w => exec_idxW _ _ rfl g 0 N c J (by kernel_rfl) (by kernel_rfl) (by omega) w) trivial ?_
            refine rgd_do 17 none (by kernel_rfl) rfl rfl (by kernel_rfl) ((wr.drew.setCells g (k * 6) y.cells).setCells g (J * 6) u.cells) (exec_stW _ _ rfl (RD.set (i := k) hlk y) J (by rw [List.length_set]; exact hlJ) u (by kernel_rfl) (by kernel_rfl)) trivial ?_
            exact wpAnyH_done (by kernel_rfl) (Eq.mp (by kernel_rfl) KE) _
        · have hkz : ¬ (k : Int) < (Z : Int) := by have := HK.out; have := HZ.out; omega
          have RF : Hid (RowW wr B g c (P ++ (mrg lt [u] V ++ S))) := Lib.hid (by
            have := RR.out
            rw [List.take_of_length_le (by rw [L1.out]; omega), List.drop_of_length_le (by rw [L1.out]; omega)] at this
            rw [NE.out]
            simpa using this)
          clear RR NE
          go_wp2
          exact bodyPost_ret (results_none rfl _ _ _) rfl ⟨rfl, RF.out, GR.out⟩
end Go.Proofs.YtijmijokgenflaaGreatDoor
/- symMergeCmpFunc: a list, and one thing behind it. -/
namespace Go.Proofs.YtijmijokgenflaaGreatDoor
open Go Go.RowKit
set_option linter.unusedVariables false
set_option maxRecDepth 1000000

set_option maxHeartbeats 1000000 in
theorem symBW_is (lt : Wr → Wr → Bool) (hlt : SW lt) (F : FuncId) (caps : Array Value) (HF : TellsW F caps lt) (B g c N : Nat) (P U S : List Wr) (v : Wr) (a m b : Nat) (w : World) (hN : (P ++ (U ++ (v :: S))).length = N) (h : RowW w B g c (P ++ (U ++ (v :: S)))) (hU : Srt lt U) (hU2 : 2 ≤ U.length) (ha : a = P.length) (hm : m = P.length + U.length) (hb : b = P.length + U.length + 1) (hbig : N ≤ 1000000) :
    Calls Tryz.prog 96 #[.slice (some ⟨g, 0, none⟩) N c, .int .i64 (a : Int), .int .i64 (m : Int), .int .i64 (b : Int), .func (.func F) #[] caps] w (SwW w B g c (P ++ (mrg lt U [v] ++ S))) := by
  obtain ⟨LL, hLL⟩ : ∃ LL, P ++ (U ++ (v :: S)) = LL := ⟨_, rfl⟩
  rw [hLL] at hN h
  have HL := Lib.hid hN; have HA := Lib.hid ha; have TF := Lib.hid HF; have HW := Lib.hid hlt; have HV := Lib.hid hU; have R0 := Lib.hid h
  have HM : Hid (m = a + U.length) := Lib.hid (by omega)
  have HB : Hid (b = m + 1) := Lib.hid (by omega)
  obtain ⟨n0, hn0⟩ : ∃ n, m - a = n := ⟨_, rfl⟩
  have hma : (m : Int) - (a : Int) = (n0 : Int) := by omega
  have hn2 : ¬ (n0 : Int) = 1 := by omega
  have hn3 : ((n0 : Int) == 1) = false := by simpa using hn2
  have hbm : (b : Int) - (m : Int) = 1 := by omega
  have AT : Hid (∀ k (h1 : a ≤ k) (h2 : k < m), ∃ h3 : k < LL.length, ∃ h4 : k - a < U.length, LL[k] = U[k - a]) := Lib.hid fun k h1 h2 => by
    have h4 : k - a < U.length := by omega
    refine ⟨by rw [← hLL]; simp only [List.length_append, List.length_cons]; omega, h4, ?_⟩
    subst hLL
    rw [List.getElem_append_right (by omega), List.getElem_append_left (by omega)]
    simp only [ha]
  have hlm : m < LL.length := by rw [← hLL, hm]; simp only [List.length_append, List.length_cons]; omega
  have LM : LL[m]'hlm = v := by
    subst hLL; subst hm
    rw [List.getElem_append_right (by omega), List.getElem_append_right (by omega)]
    simp
  have lb : b ≤ N := by rw [← hN, ← hLL]; simp only [List.length_append, List.length_cons]; omega
  have ham : a ≤ m := by omega
  have hmb : m ≤ b := by omega
  have hbb : b ≤ 1000000 := by omega
  have hLN : LL.length = N := hN
  have HLL := Lib.hid hLL
  clear h ha hm hb hN hlt HF hU hU2 hLL hn0
  go_enter Tryz.func96, Tryz.ntmps96
  go_wp2
  go_loopw [14, 15] (fun x y wr => ∃ i j : Nat, a ≤ i ∧ i ≤ j ∧ j ≤ m ∧ x = .int .i64 i ∧ y = .int .i64 j ∧ (∀ h : i - 1 - a < U.length, i = a ∨ lt v U[i - 1 - a] = false) ∧ (∀ h : j - a < U.length, j = m ∨ lt v U[j - a] = true) ∧ RowW wr B g c LL ∧ w.grownBy wr (some g)) (fun x y _ => (RowKit.intOf y).toNat - (RowKit.intOf x).toNat)
  case atStart => exact ⟨a, m, Nat.le_refl _, ham, Nat.le_refl _, rfl, rfl, fun _ => .inl rfl, fun _ => .inl rfl, R0.out, grRW _ _⟩
  case round =>
    obtain ⟨i, j, hmi, hij, hjb, rfl, rfl, hp, hq, hr, hg⟩ := hrel
    have RR := Lib.hid hr; have GR := Lib.hid hg; have HP := Lib.hid hp; have HQ := Lib.hid hq
    clear hr hg hp hq R0
    by_cases hlt' : i < j
    · have hlt2 : (i : Int) < (j : Int) := by omega
      obtain ⟨k, hk⟩ : ∃ k, (i + j) / 2 = k := ⟨_, rfl⟩
      have hc := half_cast i j
      rw [hk] at hc
      have hk1 : i ≤ k := by omega
      have hk2 : k < j := by omega
      clear hk
      go_wp2_with fail
      obtain ⟨hlk, hk4, hk5⟩ := AT.out k (by omega) (by omega)
      obtain ⟨x, hv⟩ : ∃ x, U[k - a] = x := ⟨_, rfl⟩
      have LK : LL[k] = x := by rw [hk5, hv]
      obtain ⟨bz, hbz⟩ : ∃ q, lt v x = q := ⟨_, rfl⟩
      have HBZ := Lib.hid hbz
      have HV2 := Lib.hid hv
      clear hk5
      generalize hQ : Exit.then _ _ = QX
      have KE1 : ∀ (iv : Int) (V2 : World), RowW V2 B g c LL → w.grownBy V2 (some g) → QX .normal { tmps := #[.slice (some ⟨g, 0, none⟩) N c, .int .i64 (a : Int), .int .i64 (m : Int), .int .i64 (b : Int), .func (.func F) #[] caps, undef, undef, undef, undef, undef, undef, undef, undef, undef, .int .i64 (i : Int), .int .i64 (j : Int), .int .i64 (k : Int), undef, undef, undef, undef, undef, undef, undef, undef, .int .i64 (m : Int), .int .i64 (a : Int), .int .i64 (n0 : Int), .bool false, undef, undef, undef, undef, undef, undef, undef, undef, undef, undef, undef, undef, undef, undef, undef, undef, undef, undef, undef, undef, undef, undef, undef, undef, undef, undef, undef, undef, undef, undef, undef, undef, undef, undef, undef, undef, undef, undef, undef, undef, undef, undef, undef, undef, undef, undef, undef, undef, .int .i64 (b : Int), .int .i64 (m : Int), .int .i64 1, .bool true, .int .i64 (a : Int), .int .i64 (m : Int), .int .i64 (i : Int), .int .i64 (j : Int), .bool true, .int .i64 (i : Int), .int .i64 (j : Int), .int .i64 ((i : Int) + (j : Int)), .int .u64 ((i : Int) + (j : Int)), .int .u64 (k : Int), .int .i64 (k : Int), .func (.func F) #[] caps, .slice (some ⟨g, 0, none⟩) N c, .int .i64 (m : Int), .pointer (some ⟨g, 0 + m * 6, none⟩), .agg v.cells.toArray, .slice (some ⟨g, 0, none⟩) N c, .int .i64 (k : Int), .pointer (some ⟨g, 0 + k * 6, none⟩), .agg x.cells.toArray, .int .i64 iv, .bool bz, .bool (!bz), u104, u105, u106, undef, undef, undef, undef, undef, undef, undef, undef, undef, undef, undef, undef, undef, undef, undef, undef, undef, undef, undef, undef, undef, undef, undef, undef, undef, undef, undef, undef, undef, undef, undef, undef, undef, undef, undef, undef, undef, undef, undef, undef, undef, undef, undef, undef, undef, undef, undef, undef, undef, undef, undef, undef, undef, undef, undef, undef, undef, undef, undef, undef, undef, undef, undef, undef, undef, undef, undef, undef, undef, undef, undef, undef, undef, undef, undef, undef, undef, undef, undef, undef, undef, undef, undef, undef, undef, undef, undef, undef, undef, undef, undef, undef, undef, undef, undef, undef, undef, undef, undef, undef, undef, undef, undef, undef, undef, undef, undef, undef, undef, undef, undef, undef, undef], defers := [] } V2 := by
        intro iv V2 hr hg
        rw [← hQ]
        clear hQ
        simp only [Exit.then]
        have R2 := Lib.hid hr; have G2 := Lib.hid hg
        clear hr hg RR GR LK LM hv hbz
        cases bz with
        | false =>
          have HP2 : Hid (∀ h : k + 1 - 1 - a < U.length, k + 1 = a ∨ lt v U[k + 1 - 1 - a] = false) := Lib.hid fun h => .inr (by simp only [Nat.add_sub_cancel]; rw [HV2.out]; exact HBZ.out)
          clear HP HBZ HV2
          go_wp2
          go_roundw
          case rel => exact ⟨k + 1, j, by omega, by omega, hjb, by go_num, rfl, HP2.out, HQ.out, R2.out, G2.out⟩
          case measure => simp [intOf]; omega
        | true =>
          have HQ2 : Hid (∀ h : k - a < U.length, k = m ∨ lt v U[k - a] = true) := Lib.hid fun h => .inr (by rw [HV2.out]; exact HBZ.out)
          clear HQ HBZ HV2
          go_wp2
          go_roundw
          case rel => exact ⟨i, k, hmi, by omega, by omega, rfl, rfl, HP.out, HQ2.out, R2.out, G2.out⟩
          case measure => simp [intOf]; omega
      have h0 : RowW wr.drew B g c LL ∧ w.grownBy wr.drew (some g) := ⟨RR.out, grDW GR.out⟩
      obtain ⟨AG, hAG⟩ : ∃ A, (#[.agg v.cells.toArray, .agg x.cells.toArray] ++ caps : Array Value) = A := ⟨_, rfl⟩
      have TLL : Calls Tryz.prog F AG wr.drew (TellPW (lt v x) wr.drew) := by rw [← hAG]; exact TF.out.tell v x wr.drew
      have TLE : (callFunc F AG).run Tryz.prog wr.drew = .ok (.enter F AG) wr.drew := TF.out.enter _ _
      refine rg_last (by kernel_rfl) rfl (S := fun U => RowW U B g c LL ∧ w.grownBy U (some g)) ?_
      refine rgd_pure 0 (some 92) rfl rfl (.func (.func F) #[] caps) (by kernel_rfl) (by kernel_rfl) (by kernel_rfl) (fun _ _ _ _ h => h) (by kernel_rfl) (fun w => by kernel_rfl) h0 ?_
      refine rgd_pure 1 (some 93) rfl rfl (.slice (some ⟨g, 0, none⟩) N c) (by kernel_rfl) (by kernel_rfl) (by kernel_rfl) (fun _ _ _ _ h => h) (by kernel_rfl) (fun w => by kernel_rfl) h0 ?_
      refine rgd_pure 2 (some 94) rfl rfl (.int .i64 (m : Int)) (by kernel_rfl) (by kernel_rfl) (by kernel_rfl) (fun _ _ _ _ h => h) (by kernel_rfl) (fun w => by kernel_rfl) h0 ?_
      refine rgd_pure 3 (some 95) rfl rfl (.pointer (some ⟨g, 0 + m * 6, none⟩)) (by kernel_rfl) (by kernel_rfl) (by kernel_rfl) (fun _ _ _ _ h => h) (by kernel_rfl) (fun w => exec_idxW _ _ rfl g 0 N c m (by kernel_rfl) (by kernel_rfl) (by omega) w) h0 ?_
      refine rgd_pureS 4 (some 96) rfl rfl (.agg v.cells.toArray) (by kernel_rfl) (by kernel_rfl) (by kernel_rfl) (fun _ _ _ _ h => h) (by kernel_rfl) (fun U hU => exec_ldW _ rfl hU.1 m hlm v LM (by kernel_rfl)) h0 ?_
      refine rgd_pure 5 (some 97) rfl rfl (.slice (some ⟨g, 0, none⟩) N c) (by kernel_rfl) (by kernel_rfl) (by kernel_rfl) (fun _ _ _ _ h => h) (by kernel_rfl) (fun w => by kernel_rfl) h0 ?_
      refine rgd_pure 6 (some 98) rfl rfl (.int .i64 (k : Int)) (by kernel_rfl) (by kernel_rfl) (by kernel_rfl) (fun _ _ _ _ h => h) (by kernel_rfl) (fun w => by kernel_rfl) h0 ?_
      refine rgd_pure 7 (some 99) rfl rfl (.pointer (some ⟨g, 0 + k * 6, none⟩)) (by kernel_rfl) (by kernel_rfl) (by kernel_rfl) (fun _ _ _ _ h => h) (by kernel_rfl) (fun w => exec_idxW _ _ rfl g 0 N c k (by kernel_rfl) (by kernel_rfl) (by omega) w) h0 ?_
      refine rgd_pureS 8 (some 100) rfl rfl (.agg x.cells.toArray) (by kernel_rfl) (by kernel_rfl) (by kernel_rfl) (fun _ _ _ _ h => h) (by kernel_rfl) (fun U hU => exec_ldW _ rfl hU.1 k hlk x LK (by kernel_rfl)) h0 ?_
      refine rgd_call 9 (some 101) (by kernel_rfl) rfl rfl (by kernel_rfl) F AG (exec_tellW _ _ _ rfl F caps (by kernel_rfl) _ AG (by kernel_rfl) hAG TLE) TLL ?_
      rintro _ V1 ⟨iv, rfl, hiv, hb1⟩
      have h1 : RowW V1 B g c LL ∧ w.grownBy V1 (some g) := ⟨h0.1.kept hb1, grTW h0.2 (grBW hb1)⟩
      rw [hbz] at hiv
      refine ⟨_, rfl, h1, ?_⟩
      refine rgd_pure 10 (some 102) rfl rfl (.bool bz) (by kernel_rfl) (by kernel_rfl) (by kernel_rfl) (fun _ _ _ _ h => h) (by kernel_rfl) (fun w => exec_lss _ _ _ _ rfl iv 0 bz hiv (by kernel_rfl) (by kernel_rfl) w) h1 ?_
      refine rgd_pure 11 (some 103) rfl rfl (.bool (!bz)) (by kernel_rfl) (by kernel_rfl) (by kernel_rfl) (fun _ _ _ _ h => h) (by kernel_rfl) (fun w => by kernel_rfl) h1 ?_
      exact wpAnyH_done (by kernel_rfl) (Eq.mp (by kernel_rfl) (KE1 iv V1 h1.1 h1.2)) _
    · obtain rfl : i = j := by omega
      have hlt2 : ¬ (i : Int) < (i : Int) := by omega
      have NE : Hid (mrg lt U [v] = U.take (i - a) ++ v :: U.drop (i - a)) := Lib.hid (by
        conv => lhs; rw [← List.take_append_drop (i - a) U]
        refine mrg_one (fun x hx => ?_) (fun x hx => ?_)
        · rcases Nat.eq_zero_or_pos (i - a) with h0 | h0
          · rw [h0] at hx; simp at hx
          · have hb1 : i - 1 - a < U.length := by have := HM.out; omega
            rcases HP.out hb1 with e | e
            · omega
            · have := srt_upto HW.out HV.out (s := i - 1 - a) hb1 (z := v) e x
              rw [show i - 1 - a + 1 = i - a by omega] at this
              exact this hx
        · by_cases hb1 : i - a < U.length
          · rcases HQ.out hb1 with e | e
            · have := HM.out; omega
            · exact srt_from_lt HW.out HV.out hb1 e x hx
          · rw [List.drop_of_length_le (by omega)] at hx; simp at hx)
      obtain ⟨U1, hU1⟩ : ∃ X, U.take (i - a) = X := ⟨_, rfl⟩
      obtain ⟨U2, hU2⟩ : ∃ X, U.drop (i - a) = X := ⟨_, rfl⟩
      have l1 : U1.length = i - a := by rw [← hU1, List.length_take]; have := HM.out; omega
      have VV : Hid (U = U1 ++ U2) := Lib.hid (by rw [← hU1, ← hU2, List.take_append_drop])
      rw [hU1, hU2] at NE
      obtain ⟨n2, hn2'⟩ : ∃ n, U2.length = n := ⟨_, rfl⟩
      have l2 : n2 = m - i := by rw [← hn2', ← hU2, List.length_drop]; have := HM.out; omega
      have L1 := Lib.hid l1; have L2 := Lib.hid hn2'; have LN2 := Lib.hid l2
      have R3 : Hid (RowW wr B g c (P ++ (U1 ++ (U2.take n2 ++ (v :: (U2.drop n2 ++ S)))))) := Lib.hid (by
        have := RR.out
        rw [← HLL.out, VV.out] at this
        rw [List.take_of_length_le (by omega), List.drop_of_length_le (by omega)]
        simpa using this)
      clear hU1 hU2 l1 hn2' l2 RR HP HQ AT LM
      go_wp2
      go_loopw [17] (fun v_ wr => ∃ t k : Nat, t ≤ n2 ∧ Hid (k = i + t) ∧ v_ = .int .i64 (k : Int) ∧ RowW wr B g c (P ++ (U1 ++ (U2.take t ++ (v :: (U2.drop t ++ S))))) ∧ w.grownBy wr (some g)) (fun v_ _ => (RowKit.intOf v_).toNat)
      case atStart => exact ⟨n2, m, Nat.le_refl _, Lib.hid (by have := LN2.out; omega), rfl, R3.out, GR.out⟩
      case round =>
        obtain ⟨t, k, htn, HK, rfl, hr, hg⟩ := hrel
        clear R3 GR
        have RR := Lib.hid hr; have GR := Lib.hid hg
        clear hr hg
        have hkm : k ≤ m := by have := HK.out; have := LN2.out; omega
        by_cases hkt : 0 < t
        · have hkz : (k : Int) > (i : Int) := by have := HK.out; omega
          obtain ⟨t', ht'⟩ : ∃ t', t = t' + 1 := ⟨t - 1, by omega⟩
          have htl : t' < U2.length := by rw [L2.out]; omega
          obtain ⟨y, hy⟩ : ∃ y, U2[t'] = y := ⟨_, rfl⟩
          obtain ⟨J, hJ⟩ : ∃ J, k = J + 1 := ⟨k - 1, by omega⟩
          obtain ⟨R9, hR9⟩ : ∃ R, U2.drop t ++ S = R := ⟨_, rfl⟩
          obtain ⟨PP, hPP⟩ : ∃ X, P ++ (U1 ++ U2.take t') = X := ⟨_, rfl⟩
          have e1 : P ++ (U1 ++ (U2.take t ++ (v :: (U2.drop t ++ S)))) = PP ++ y :: ([] ++ v :: R9) := by
            rw [← hR9, ht', List.take_succ_eq_append_getElem htl, hy, ← hPP]; simp only [List.append_assoc, List.cons_append, List.nil_append]
          have e2 : P ++ (U1 ++ (U2.take t' ++ (v :: (U2.drop t' ++ S)))) = PP ++ v :: ([] ++ y :: R9) := by
            rw [List.drop_eq_getElem_cons htl, hy, ← hPP, ← hR9, ht']; simp only [List.append_assoc, List.cons_append, List.nil_append]
          have lP : PP.length = J := by rw [← hPP]; simp only [List.length_append, List.length_take, L1.out, L2.out]; have := HK.out; have := HA.out; omega
          obtain ⟨L9, hL9⟩ : ∃ L, PP ++ y :: ([] ++ v :: R9) = L := ⟨_, rfl⟩
          have R4 : Hid (RowW wr B g c L9) := Lib.hid (by have := RR.out; rw [e1, hL9] at this; exact this)
          have lL9 : L9.length = N := by
            rw [← hL9, ← e1, ← HL.out, ← HLL.out, VV.out]; simp only [List.length_append, List.length_cons, List.length_take, List.length_drop, L1.out, L2.out]; omega
          have hlk : k < L9.length := by omega
          have hlJ : J < L9.length := by omega
          have LJ : L9[J]'hlJ = y := by subst hL9; subst lP; simp
          have LK : L9[k]'hlk = v := by
            subst hL9; subst hJ; subst lP
            rw [List.getElem_append_right (by omega)]
            simp
          have SM : Hid ((L9.set k y).set J v = P ++ (U1 ++ (U2.take t' ++ (v :: (U2.drop t' ++ S))))) := Lib.hid (by
            rw [e2, ← hL9, hJ, ← lP, List.set_comm _ _ (by omega)]
            have := swap_mid PP [] R9 y v
            simp only [List.length_nil, Nat.add_zero] at this
            exact this)
          have hJ1 : (k : Int) - 1 = (J : Int) := by omega
          have hJN : J ≤ 1000000 := by omega
          have HT' := Lib.hid ht'
          clear e1 e2 lP hL9 hPP hR9 hy RR ht'
          have HJk := Lib.hid hJ
          clear hJ
          have hJk : J < k := by have := HJk.out; omega
          go_wp2_with fail
          generalize hQ : Exit.inBlock _ _ = QX
          have RD : RowW wr.drew B g c L9 := R4.out
          have RZ := Lib.hid ((RD.set (i := k) hlk y).set (i := J) (by rw [List.length_set]; exact hlJ) v)
          have GZ := Lib.hid (grTW (grTW (grDW GR.out) (grown_setCells g y.cells wr.drew (k * 6))) (grown_setCells g v.cells _ (J * 6)))
          rw [SM.out] at RZ
          have KE : QX .normal { tmps := #[.slice (some ⟨g, 0, none⟩) N c, .int .i64 (a : Int), .int .i64 (m : Int), .int .i64 (b : Int), .func (.func F) #[] caps, undef, undef, undef, undef, undef, undef, undef, undef, undef, .int .i64 (i : Int), .int .i64 (i : Int), u16, .int .i64 (k : Int), undef, undef, undef, undef, undef, undef, undef, .int .i64 (m : Int), .int .i64 (a : Int), .int .i64 (n0 : Int), .bool false, undef, undef, undef, undef, undef, undef, undef, undef, undef, undef, undef, undef, undef, undef, undef, undef, undef, undef, undef, undef, undef, undef, undef, undef, undef, undef, undef, undef, undef, undef, undef, undef, undef, undef, undef, undef, undef, undef, undef, undef, undef, undef, undef, undef, undef, undef, undef, undef, .int .i64 (b : Int), .int .i64 (m : Int), .int .i64 1, .bool true, .int .i64 (a : Int), .int .i64 (m : Int), .int .i64 (i : Int), .int .i64 (i : Int), .bool false, u86, u87, u88, u89, u90, u91, u92, u93, u94, u95, u96, u97, u98, u99, u100, u101, u102, u103, u104, u105, u106, .int .i64 (m : Int), .int .i64 (k : Int), .int .i64 (i : Int), .bool true, u111, u112, .slice (some ⟨g, 0, none⟩) N c, .int .i64 (k : Int), .slice (some ⟨g, 0, none⟩) N c, .int .i64 (k : Int), .int .i64 (J : Int), .slice (some ⟨g, 0, none⟩) N c, .int .i64 (k : Int), .int .i64 (J : Int), .pointer (some ⟨g, 0 + J * 6, none⟩), .agg y.cells.toArray, .slice (some ⟨g, 0, none⟩) N c, .int .i64 (k : Int), .pointer (some ⟨g, 0 + k * 6, none⟩), .agg v.cells.toArray, .pointer (some ⟨g, 0 + k * 6, none⟩), .pointer (some ⟨g, 0 + J * 6, none⟩), undef, undef, undef, undef, undef, undef, undef, undef, undef, undef, undef, undef, undef, undef, undef, undef, undef, undef, undef, undef, undef, undef, undef, undef, undef, undef, undef, undef, undef, undef, undef, undef, undef, undef, undef, undef, undef, undef, undef, undef, undef, undef, undef, undef, undef, undef, undef, undef, undef, undef, undef, undef, undef, undef, undef, undef, undef, undef, undef, undef, undef, undef, undef, undef, undef, undef, undef, undef, undef, undef, undef, undef, undef, undef, undef, undef, undef, undef, undef, undef, undef, undef, undef, undef, undef, undef, undef, undef, undef, undef, undef], defers := [] } ((wr.drew.setCells g (k * 6) y.cells).setCells g (J * 6) v.cells) := by
            rw [← hQ]
            clear hQ
            simp only [Exit.inBlock, Exit.then]
            generalize ((wr.drew.setCells g (k * 6) y.cells).setCells g (J * 6) v.cells) = w9 at RZ GZ ⊢
            have HJ1 := Lib.hid hJ1
            clear RD R4 GR LK LJ SM hJ1
            go_wp2
            go_roundw
            case rel => exact ⟨t', J, by have := HT'.out; omega, Lib.hid (by have := HK.out; have := HT'.out; have := HJk.out; omega), congrArg (Value.int .i64) HJ1.out, RZ.out, GZ.out⟩
            case measure => simp [intOf]; omega
          refine rg_last (by kernel_rfl) rfl (S := fun _ => True) ?_
          refine rgd_pure 0 (some 113) rfl rfl (.slice (some ⟨g, 0, none⟩) N c) (by kernel_rfl) (by kernel_rfl) (by kernel_rfl) (fun _ _ _ _ h => h) (by kernel_rfl) (exec_is _ (.inl rfl) _ (by kernel_rfl)) trivial ?_
          refine rgd_pure 1 (some 114) rfl rfl (.int .i64 (k : Int)) (by kernel_rfl) (by kernel_rfl) (by kernel_rfl) (fun _ _ _ _ h => h) (by kernel_rfl) (exec_is _ (.inl rfl) _ (by kernel_rfl)) trivial ?_
          refine rgd_pure 2 (some 115) rfl rfl (.slice (some ⟨g, 0, none⟩) N c) (by kernel_rfl) (by kernel_rfl) (by kernel_rfl) (fun _ _ _ _ h => h) (by kernel_rfl) (exec_is _ (.inl rfl) _ (by kernel_rfl)) trivial ?_
          refine rgd_pure 3 (some 116) rfl rfl (.int .i64 (k : Int)) (by kernel_rfl) (by kernel_rfl) (by kernel_rfl) (fun _ _ _ _ h => h) (by kernel_rfl) (exec_is _ (.inl rfl) _ (by kernel_rfl)) trivial ?_
          refine rgd_pure 4 (some 117) rfl rfl (.int .i64 (J : Int)) (by kernel_rfl) (by kernel_rfl) (by kernel_rfl) (fun _ _ _ _ h => h) (by kernel_rfl) (fun w => exec_subGW _ _ _ _ rfl (k : Int) 1 (J : Int) (by rw [IntKind.wrap_i64]; omega) (by kernel_rfl) (by kernel_rfl) w) trivial ?_
          refine rgd_pure 5 (some 118) rfl rfl (.slice (some ⟨g, 0, none⟩) N c) (by kernel_rfl) (by kernel_rfl) (by kernel_rfl) (fun _ _ _ _ h => h) (by kernel_rfl) (exec_is _ (.inl rfl) _ (by kernel_rfl)) trivial ?_
          refine rgd_pure 6 (some 119) rfl rfl (.int .i64 (k : Int)) (by kernel_rfl) (by kernel_rfl) (by kernel_rfl) (fun _ _ _ _ h => h) (by kernel_rfl) (exec_is _ (.inl rfl) _ (by kernel_rfl)) trivial ?_
          refine rgd_pure 7 (some 120) rfl rfl (.int .i64 (J : Int)) (by kernel_rfl) (by kernel_rfl) (by kernel_rfl) (fun _ _ _ _ h => h) (by kernel_rfl) (fun w => exec_subGW _ _ _ _ rfl (k : Int) 1 (J : Int) (by rw [IntKind.wrap_i64]; omega) (by kernel_rfl) (by kernel_rfl) w) trivial ?_
          refine rgd_pure 8 (some 121) rfl rfl (.pointer (some ⟨g, 0 + J * 6, none⟩)) (by kernel_rfl) (by kernel_rfl) (by kernel_rfl) (fun _ _ _ _ h => h) (by kernel_rfl) (fun w => exec_idxW _ _ rfl g 0 N c J (by kernel_rfl) (by kernel_rfl) (by omega) w) trivial ?_
          refine rgd_pure 10 (some 123) rfl rfl (.slice (some ⟨g, 0, none⟩) N c) (by kernel_rfl) (by kernel_rfl) (by kernel_rfl) (fun _ _ _ _ h => h) (by kernel_rfl) (exec_is _ (.inl rfl) _ (by kernel_rfl)) trivial ?_
          refine rgd_pure 11 (some 124) rfl rfl (.int .i64 (k : Int)) (by kernel_rfl) (by kernel_rfl) (by kernel_rfl) (fun _ _ _ _ h => h) (by kernel_rfl) (exec_is _ (.inl rfl) _ (by kernel_rfl)) trivial ?_
          refine rgd_pure 12 (some 125) rfl rfl (.pointer (some ⟨g, 0 + k * 6, none⟩)) (by kernel_rfl) (by kernel_rfl) (by kernel_rfl) (fun _ _ _ _ h => h) (by kernel_rfl) (fun w => exec_idxW _ _ rfl g 0 N c k (by kernel_rfl) (by kernel_rfl) (by omega) w) trivial ?_
          refine rgd_acts 9 13 (some 122) (some 126) (by kernel_rfl) rfl rfl (by kernel_rfl) (.agg y.cells.toArray) wr.drew (exec_ldW _ rfl RD J hlJ y LJ (by kernel_rfl)) trivial rfl rfl (by kernel_rfl) (.agg v.cells.toArray) wr.drew (exec_ldW _ rfl RD k hlk v LK (by kernel_rfl)) trivial ?_ ?_
          · refine rgd_run 13 (some 126) (by kernel_rfl) rfl rfl (by kernel_rfl) (.agg v.cells.toArray) wr.drew (exec_ldW _ rfl RD k hlk v LK (by kernel_rfl)) trivial ?_
            refine rgd_pure 14 (some 127) rfl rfl (.pointer (some ⟨g, 0 + k * 6, none⟩)) (by kernel_rfl) (by kernel_rfl) (by kernel_rfl) (fun _ _ _ _ h => h) (by kernel_rfl) (fun w => exec_idxW _ _ rfl g 0 N c k (by kernel_rfl) (by kernel_rfl) (by omega) w) trivial ?_
            refine rgd_do 15 none (by kernel_rfl) rfl rfl (by kernel_rfl) (wr.drew.setCells g (k * 6) y.cells) (exec_stW _ _ rfl RD k hlk y (by kernel_rfl) (by kernel_rfl)) trivial ?_
            refine rgd_pure 16 (some 128) rfl rfl (.pointer (some ⟨g, 0 + J * 6, none⟩)) (by kernel_rfl) (by kernel_rfl) (by kernel_rfl) (fun _ _ _ _ h => h) (by kernel_rfl) (fun w => exec_idxW _ _ rfl g 0 N c J (by kernel_rfl) (by kernel_rfl) (by omega) w) trivial ?_
            refine rgd_do 17 none (by kernel_rfl) rfl rfl (by kernel_rfl) ((wr.drew.setCells g (k * 6) y.cells).setCells g (J * 6) v.cells) (exec_stW _ _ rfl (RD.set (i := k) hlk y) J (by rw [List.length_set]; exact hlJ) v (by kernel_rfl) (by kernel_rfl)) trivial ?_
            exact wpAnyH_done (by kernel_rfl) (Eq.mp (by kernel_rfl) KE) _
          · refine rgd_run 9 (some 122) (by kernel_rfl) rfl rfl (by kernel_rfl) (.agg y.cells.toArray) wr.drew (exec_ldW _ rfl RD J hlJ y LJ (by kernel_rfl)) trivial ?_
            refine rgd_pure 14 (some 127) rfl rfl (.pointer (some ⟨g, 0 + k * 6, none⟩)) (by kernel_rfl) (by kernel_rfl) (by kernel_rfl) (fun _ _ _ _ h => h) (by kernel_rfl) (fun w => exec_idxW _ _ rfl g 0 N c k (by kernel_rfl) (by kernel_rfl) (by omega) w) trivial ?_
            refine rgd_do 15 none (by kernel_rfl) rfl rfl (by kernel_rfl) (wr.drew.setCells g (k * 6) y.cells) (exec_stW _ _ rfl RD k hlk y (by kernel_rfl) (by kernel_rfl)) trivial ?_
            refine rgd_pure 16 (some 128) rfl rfl (.pointer (some ⟨g, 0 + J * 6, none⟩)) (by kernel_rfl) (by kernel_rfl) (by kernel_rfl) (fun _ _ _ _ h => h) (by kernel_rfl) (fun w => exec_idxW _ _ rfl g 0 N c J (by kernel_rfl) (by kernel_rfl) (by omega) w) trivial ?_
            refine rgd_do 17 none (by kernel_rfl) rfl rfl (by kernel_rfl) ((wr.drew.setCells g (k * 6) y.cells).setCells g (J * 6) v.cells) (exec_stW _ _ rfl (RD.set (i := k) hlk y) J (by rw [List.length_set]; exact hlJ) v (by kernel_rfl) (by kernel_rfl)) trivial ?_
            exact wpAnyH_done (by kernel_rfl) (Eq.mp (by kernel_rfl) KE) _
        · obtain rfl : t = 0 := by omega
          have hkz : ¬ (k : Int) > (i : Int) := by have := HK.out; omega
          have RF : Hid (RowW wr B g c (P ++ (mrg lt U [v] ++ S))) := Lib.hid (by
            have := RR.out
            rw [NE.out]
            simpa using this)
          clear RR NE
          go_wp2
          exact bodyPost_ret (results_none rfl _ _ _) rfl ⟨rfl, RF.out, GR.out⟩
end Go.Proofs.YtijmijokgenflaaGreatDoor
