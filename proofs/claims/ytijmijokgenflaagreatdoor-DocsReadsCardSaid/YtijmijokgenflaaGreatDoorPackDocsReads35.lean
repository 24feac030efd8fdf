/- The statement DocsReads, proved for every input that its row reads: part 35 of 54. -/
import Derived.Test.YtijmijokgenflaaGreatDoorPackDocsReads34
import Derived.Deep.CutBlock
import Derived.Deep.DeepCutAuto
/- symMergeCmpFunc: two neighbouring pieces in order made one. -/
namespace Go.Proofs.YtijmijokgenflaaGreatDoor
open Go Go.RowKit
set_option linter.unusedVariables false
set_option maxRecDepth 1000000

set_option maxHeartbeats 4000000 in
theorem symDW_is (lt : Wr → Wr → Bool) (hlt : SW lt) (F : FuncId) (caps : Array Value) (HF : TellsW F caps lt) (B g c N : Nat) (hbig : N ≤ 1000000) (fuel : Nat)
    (IH0 : ∀ (P U V S : List Wr) (a m b : Nat) (w : World), U.length + V.length ≤ fuel → (P ++ (U ++ (V ++ S))).length = N → RowW w B g c (P ++ (U ++ (V ++ S))) → Srt lt U → Srt lt V → 0 < U.length → 0 < V.length → a = P.length → m = P.length + U.length → b = P.length + U.length + V.length →
      Calls Tryz.prog 96 #[.slice (some ⟨g, 0, none⟩) N c, .int .i64 (a : Int), .int .i64 (m : Int), .int .i64 (b : Int), .func (.func F) #[] caps] w (SwW w B g c (P ++ (mrg lt U V ++ S))))
    (P U V S : List Wr) (a m b : Nat) (w : World) (hf : U.length + V.length ≤ fuel + 1) (hN : (P ++ (U ++ (V ++ S))).length = N) (h : RowW w B g c (P ++ (U ++ (V ++ S)))) (hU : Srt lt U) (hV : Srt lt V) (hU1 : 2 ≤ U.length) (hV1 : 2 ≤ V.length) (ha : a = P.length) (hm : m = P.length + U.length) (hb : b = P.length + U.length + V.length) (hcase : mid_ a b < m) :
    Calls Tryz.prog 96 #[.slice (some ⟨g, 0, none⟩) N c, .int .i64 (a : Int), .int .i64 (m : Int), .int .i64 (b : Int), .func (.func F) #[] caps] w (SwW w B g c (P ++ (mrg lt U V ++ S))) := by
    have IH := Lib.hid IH0
    obtain ⟨LL, hLL⟩ : ∃ LL, P ++ (U ++ (V ++ S)) = LL := ⟨_, rfl⟩
    rw [hLL] at hN h
    have HL := Lib.hid hN; have HA := Lib.hid ha; have TF := Lib.hid HF; have HW := Lib.hid hlt; have HU := Lib.hid hU; have HV := Lib.hid hV; have R0 := Lib.hid h
    have HM : Hid (m = a + U.length) := Lib.hid (by omega)
    have HB : Hid (b = m + V.length) := Lib.hid (by omega)
    have HFU := Lib.hid hf
    obtain ⟨n0, hn0⟩ : ∃ n, m - a = n := ⟨_, rfl⟩
    have hma : (m : Int) - (a : Int) = (n0 : Int) := by omega
    have hn2 : ¬ (n0 : Int) = 1 := by omega
    have hn3 : ((n0 : Int) == 1) = false := by simpa using hn2
    obtain ⟨n1, hn1⟩ : ∃ n, b - m = n := ⟨_, rfl⟩
    have hbm : (b : Int) - (m : Int) = (n1 : Int) := by omega
    have hn4 : ¬ (n1 : Int) = 1 := by omega
    have hn5 : ((n1 : Int) == 1) = false := by simpa using hn4
    have ATU : Hid (∀ k (h1 : a ≤ k) (h2 : k < m), ∃ h3 : k < LL.length, ∃ h4 : k - a < U.length, LL[k] = U[k - a]) := Lib.hid fun k h1 h2 => by
      have h4 : k - a < U.length := by omega
      refine ⟨by rw [← hLL]; simp only [List.length_append]; omega, h4, ?_⟩
      subst hLL
      rw [List.getElem_append_right (by omega), List.getElem_append_left (by omega)]
      simp only [ha]
    have ATV : Hid (∀ k (h1 : m ≤ k) (h2 : k < b), ∃ h3 : k < LL.length, ∃ h4 : k - m < V.length, LL[k] = V[k - m]) := Lib.hid fun k h1 h2 => by
      have h4 : k - m < V.length := by omega
      refine ⟨by rw [← hLL]; simp only [List.length_append]; omega, h4, ?_⟩
      subst hLL
      rw [List.getElem_append_right (by omega), List.getElem_append_right (by omega), List.getElem_append_left (by omega)]
      simp only [show k - P.length - U.length = k - m by omega]
    have lb : b ≤ N := by rw [← hN, ← hLL]; simp only [List.length_append]; omega
    have ham : a + 2 ≤ m := by omega
    have hmb : m + 2 ≤ b := by omega
    have hbb : b ≤ 1000000 := by omega
    have hLN : LL.length = N := hN
    have HLL := Lib.hid hLL
    obtain ⟨mid, PN, s0, r0, hmid, hmd1, hmd2, hPN, h0, hs0, hr0, hsr, hrm, hNsb, hNrm⟩ := sym_nums a m b ham hmb
    have hc : ((a : Int) + (b : Int)) / 2 = (mid : Int) := by rw [← hmid]; exact half_cast a b
    obtain ⟨NN, hNN⟩ : ∃ n, PN + 1 = n := ⟨_, rfl⟩
    rw [hNN] at hNsb hNrm h0 hPN
    have hNI : (mid : Int) + (m : Int) = (NN : Int) := by clear hc h0; omega
    have hPI : (NN : Int) - 1 = (PN : Int) := by clear hc h0 hNI; omega
    have HNN := Lib.hid hPN; have HPN := Lib.hid hNN.symm
    have lNN : NN ≤ 2000000 := by clear hc h0 hNI hPI; omega
    have lPN : PN < NN := by clear hc h0 hNI hPI; omega
    have H0 : Hid (s0 + b = NN ∧ r0 = mid ∧ mid < m) := Lib.hid (by clear hc hNI hPI; unfold mid_ at hcase; omega)
    have q4 : (m : Int) > (mid : Int) := by clear hc hNI hPI; have := H0.out; omega
    have q5 : (NN : Int) - (b : Int) = (s0 : Int) := by clear hc hNI hPI; have := H0.out; omega
    obtain rfl : mid = r0 := H0.out.2.1.symm
    have HQS := Lib.hid True.intro
    clear h ha hm hb hN hlt HF hU hV IH0 hLL hn0 hn1 hf hmid hNN hPN h0 hU1 hV1 hmd1 hmd2 hcase
    go_enter Tryz.func96, Tryz.ntmps96
    go_wp2
    clear hn2 hn3 hn4 hn5 hma hbm hc HQS
    go_loopw [20, 21] (fun x y wr => ∃ s r : Nat, s0 ≤ s ∧ s ≤ r ∧ r ≤ mid ∧ x = .int .i64 s ∧ y = .int .i64 r ∧ (∀ (h1 : s - 1 - a < U.length) (h2 : NN - s - m < V.length), s = s0 ∨ lt V[NN - s - m] U[s - 1 - a] = false) ∧ (∀ (h1 : r - a < U.length) (h2 : NN - 1 - r - m < V.length), r = mid ∨ lt V[NN - 1 - r - m] U[r - a] = true) ∧ RowW wr B g c LL ∧ w.grownBy wr (some g)) (fun x y _ => (RowKit.intOf y).toNat - (RowKit.intOf x).toNat)
    case atStart => exact ⟨s0, mid, Nat.le_refl _, hsr, Nat.le_refl _, rfl, rfl, fun _ _ => .inl rfl, fun _ _ => .inl rfl, R0.out, grRW _ _⟩
    case round =>
      obtain ⟨i, j, hmi, hij, hjb, rfl, rfl, hp, hq, hr, hg⟩ := hrel
      have RR := Lib.hid hr; have GR := Lib.hid hg; have HP := Lib.hid hp; have HQ := Lib.hid hq
      clear hr hg hp hq R0
      by_cases hlt' : i < j
      · have hlt2 : (i : Int) < (j : Int) := by omega
        obtain ⟨k, hk⟩ : ∃ k, (i + j) / 2 = k := ⟨_, rfl⟩
        have hc2 := half_cast i j
        rw [hk] at hc2
        have hk1 : i ≤ k := by omega
        have hk2 : k < j := by omega
        obtain ⟨Q, hQk⟩ : ∃ Q, PN = Q + k := ⟨PN - k, by have := HPN.out; omega⟩
        have hQI : (PN : Int) - (k : Int) = (Q : Int) := by omega
        have HQK := Lib.hid hQk
        have hQ1 : m ≤ Q := by have := HPN.out; omega
        have hQ2 : Q < b := by have := HPN.out; omega
        clear hk hQk
        go_wp2_with fail
        obtain ⟨hlk, hk4, hk5⟩ := ATU.out k (by omega) (by omega)
        obtain ⟨hlQ, hQ4, hQ5⟩ := ATV.out Q hQ1 hQ2
        have hkN : k < N := by omega
        have hQN : Q < N := by omega
        obtain ⟨x, hv⟩ : ∃ x, U[k - a] = x := ⟨_, rfl⟩
        obtain ⟨y, hy⟩ : ∃ x, V[Q - m] = x := ⟨_, rfl⟩
        have LK : LL[k] = x := by rw [hk5, hv]
        have LQ : LL[Q] = y := by rw [hQ5, hy]
        obtain ⟨bz, hbz⟩ : ∃ q, lt y x = q := ⟨_, rfl⟩
        have HBZ := Lib.hid hbz
        have HX2 := Lib.hid hv; have HY2 := Lib.hid hy
        clear hk5 hQ5
        generalize hQX : Exit.then _ _ = QX
        have KE1 : ∀ (iv : Int) (V2 : World), RowW V2 B g c LL → w.grownBy V2 (some g) → QX .normal { tmps := #[.slice (some ⟨g, 0, none⟩) N c, .int .i64 (a : Int), .int .i64 (m : Int), .int .i64 (b : Int), .func (.func F) #[] caps, undef, undef, undef, undef, undef, undef, undef, undef, undef, undef, undef, undef, undef, .int .i64 (mid : Int), .int .i64 (NN : Int), .int .i64 (i : Int), .int .i64 (j : Int), .int .i64 (PN : Int), .int .i64 (k : Int), undef, .int .i64 (m : Int), .int .i64 (a : Int), .int .i64 (n0 : Int), .bool false, undef, undef, undef, undef, undef, undef, undef, undef, undef, undef, undef, undef, undef, undef, undef, undef, undef, undef, undef, undef, undef, undef, undef, undef, undef, undef, undef, undef, undef, undef, undef, undef, undef, undef, undef, undef, undef, undef, undef, undef, undef, undef, undef, undef, undef, undef, undef, undef, .int .i64 (b : Int), .int .i64 (m : Int), .int .i64 (n1 : Int), .bool false, undef, undef, undef, undef, undef, undef, undef, undef, undef, undef, undef, undef, undef, undef, undef, undef, undef, undef, undef, undef, undef, undef, undef, undef, undef, undef, undef, undef, undef, undef, undef, undef, undef, undef, undef, undef, undef, undef, undef, undef, undef, undef, undef, undef, undef, undef, undef, undef, .int .i64 (a : Int), .int .i64 (b : Int), .int .i64 ((a : Int) + (b : Int)), .int .u64 ((a : Int) + (b : Int)), .int .u64 (mid : Int), .int .i64 (mid : Int), .int .i64 (mid : Int), .int .i64 (m : Int), .int .i64 (NN : Int), .int .i64 (m : Int), .int .i64 (mid : Int), .bool true, .int .i64 (NN : Int), .int .i64 (b : Int), .int .i64 (s0 : Int), .int .i64 (mid : Int), undef, undef, .int .i64 (NN : Int), .int .i64 (PN : Int), .int .i64 (i : Int), .int .i64 (j : Int), .bool true, .int .i64 (i : Int), .int .i64 (j : Int), .int .i64 ((i : Int) + (j : Int)), .int .u64 ((i : Int) + (j : Int)), .int .u64 (k : Int), .int .i64 (k : Int), .func (.func F) #[] caps, .slice (some ⟨g, 0, none⟩) N c, .int .i64 (PN : Int), .int .i64 (k : Int), .int .i64 (Q : Int), .pointer (some ⟨g, 0 + Q * 6, none⟩), .agg y.cells.toArray, .slice (some ⟨g, 0, none⟩) N c, .int .i64 (k : Int), .pointer (some ⟨g, 0 + k * 6, none⟩), .agg x.cells.toArray, .int .i64 iv, .bool bz, .bool (!bz), u172, u173, u174, undef, undef, undef, undef, undef, undef, undef, undef, undef, undef, undef, undef, undef, undef, undef, undef, undef, undef, undef, undef, undef, undef, undef, undef, undef, undef, undef, undef, undef, undef, undef, undef, undef, undef, undef, undef, undef, undef, undef, undef, undef, undef, undef, undef, undef], defers := [] } V2 := by
          intro iv V2 hr hg
          rw [← hQX]
          clear hQX
          simp only [Exit.then]
          have R2 := Lib.hid hr; have G2 := Lib.hid hg
          clear hr hg RR GR LK LQ hv hy hbz hkN hQN
          cases bz with
          | false =>
            have HP2 : Hid (∀ (h1 : k + 1 - 1 - a < U.length) (h2 : NN - (k + 1) - m < V.length), k + 1 = s0 ∨ lt V[NN - (k + 1) - m] U[k + 1 - 1 - a] = false) := Lib.hid fun h1 h2 => .inr (by
              have e : NN - (k + 1) - m = Q - m := by have := HPN.out; have := HQK.out; omega
              simp only [Nat.add_sub_cancel, e]
              rw [HX2.out, HY2.out]; exact HBZ.out)
            clear HP HBZ HX2 HY2
            go_wp2
            go_roundw
            case rel => exact ⟨k + 1, j, by omega, by omega, hjb, by go_num, rfl, HP2.out, HQ.out, R2.out, G2.out⟩
            case measure => simp [intOf]; omega
          | true =>
            have HQ2 : Hid (∀ (h1 : k - a < U.length) (h2 : NN - 1 - k - m < V.length), k = mid ∨ lt V[NN - 1 - k - m] U[k - a] = true) := Lib.hid fun h1 h2 => .inr (by
              have e : NN - 1 - k - m = Q - m := by have := HPN.out; have := HQK.out; omega
              simp only [e]
              rw [HX2.out, HY2.out]; exact HBZ.out)
            clear HQ HBZ HX2 HY2
            go_wp2
            go_roundw
            case rel => exact ⟨i, k, hmi, by omega, by omega, rfl, rfl, HP.out, HQ2.out, R2.out, G2.out⟩
            case measure => simp [intOf]; omega
        have h0 : RowW wr.drew B g c LL ∧ w.grownBy wr.drew (some g) := ⟨RR.out, grDW GR.out⟩
        obtain ⟨AG, hAG⟩ : ∃ A, (#[.agg y.cells.toArray, .agg x.cells.toArray] ++ caps : Array Value) = A := ⟨_, rfl⟩
        have TLL : Calls Tryz.prog F AG wr.drew (TellPW (lt y x) wr.drew) := by rw [← hAG]; exact TF.out.tell y x wr.drew
        have TLE : (callFunc F AG).run Tryz.prog wr.drew = .ok (.enter F AG) wr.drew := TF.out.enter _ _
        refine rg_last (by kernel_rfl) rfl (S := fun U => RowW U B g c LL ∧ w.grownBy U (some g)) ?_
        refine rgd_pure 0 (some 158) rfl rfl (.func (.func F) #[] caps) (by kernel_rfl) (by kernel_rfl) (by kernel_rfl) (fun _ _ _ _ h => h) (by kernel_rfl) (fun w => by kernel_rfl) h0 ?_
        refine rgd_pure 1 (some 159) rfl rfl (.slice (some ⟨g, 0, none⟩) N c) (by kernel_rfl) (by kernel_rfl) (by kernel_rfl) (fun _ _ _ _ h => h) (by kernel_rfl) (fun w => by kernel_rfl) h0 ?_
        refine rgd_pure 2 (some 160) rfl rfl (.int .i64 (PN : Int)) (by kernel_rfl) (by kernel_rfl) (by kernel_rfl) (fun _ _ _ _ h => h) (by kernel_rfl) (fun w => by kernel_rfl) h0 ?_
        refine rgd_pure 3 (some 161) rfl rfl (.int .i64 (k : Int)) (by kernel_rfl) (by kernel_rfl) (by kernel_rfl) (fun _ _ _ _ h => h) (by kernel_rfl) (fun w => by kernel_rfl) h0 ?_
        refine rgd_pure 4 (some 162) rfl rfl (.int .i64 (Q : Int)) (by kernel_rfl) (by kernel_rfl) (by kernel_rfl) (fun _ _ _ _ h => h) (by kernel_rfl) (fun w => exec_subGW _ _ _ _ rfl (PN : Int) (k : Int) (Q : Int) (by rw [IntKind.wrap_i64]; omega) (by kernel_rfl) (by kernel_rfl) w) h0 ?_
        refine rgd_pure 5 (some 163) rfl rfl (.pointer (some ⟨g, 0 + Q * 6, none⟩)) (by kernel_rfl) (by kernel_rfl) (by kernel_rfl) (fun _ _ _ _ h => h) (by kernel_rfl) (fun w => exec_idxW _ _ rfl g 0 N c Q (by kernel_rfl) (by kernel_rfl) hQN w) h0 ?_
        refine rgd_pureS 6 (some 164) rfl rfl (.agg y.cells.toArray) (by kernel_rfl) (by kernel_rfl) (by kernel_rfl) (fun _ _ _ _ h => h) (by kernel_rfl) (fun U hU => exec_ldW _ rfl hU.1 Q hlQ y LQ (by kernel_rfl)) h0 ?_
        refine rgd_pure 7 (some 165) rfl rfl (.slice (some ⟨g, 0, none⟩) N c) (by kernel_rfl) (by kernel_rfl) (by kernel_rfl) (fun _ _ _ _ h => h) (by kernel_rfl) (fun w => by kernel_rfl) h0 ?_
        refine rgd_pure 8 (some 166) rfl rfl (.int .i64 (k : Int)) (by kernel_rfl) (by kernel_rfl) (by kernel_rfl) (fun _ _ _ _ h => h) (by kernel_rfl) (fun w => by kernel_rfl) h0 ?_
        refine rgd_pure 9 (some 167) rfl rfl (.pointer (some ⟨g, 0 + k * 6, none⟩)) (by kernel_rfl) (by kernel_rfl) (by kernel_rfl) (fun _ _ _ _ h => h) (by kernel_rfl) (fun w => exec_idxW _ _ rfl g 0 N c k (by kernel_rfl) (by kernel_rfl) hkN w) h0 ?_
        refine rgd_pureS 10 (some 168) rfl rfl (.agg x.cells.toArray) (by kernel_rfl) (by kernel_rfl) (by kernel_rfl) (fun _ _ _ _ h => h) (by kernel_rfl) (fun U hU => exec_ldW _ rfl hU.1 k hlk x LK (by kernel_rfl)) h0 ?_
        refine rgd_call 11 (some 169) (by kernel_rfl) rfl rfl (by kernel_rfl) F AG (exec_tellW _ _ _ rfl F caps (by kernel_rfl) _ AG (by kernel_rfl) hAG TLE) TLL ?_
        rintro _ V1 ⟨iv, rfl, hiv, hb1⟩
        have h1 : RowW V1 B g c LL ∧ w.grownBy V1 (some g) := ⟨h0.1.kept hb1, grTW h0.2 (grBW hb1)⟩
        rw [hbz] at hiv
        refine ⟨_, rfl, h1, ?_⟩
        refine rgd_pure 12 (some 170) rfl rfl (.bool bz) (by kernel_rfl) (by kernel_rfl) (by kernel_rfl) (fun _ _ _ _ h => h) (by kernel_rfl) (fun w => exec_lss _ _ _ _ rfl iv 0 bz hiv (by kernel_rfl) (by kernel_rfl) w) h1 ?_
        refine rgd_pure 13 (some 171) rfl rfl (.bool (!bz)) (by kernel_rfl) (by kernel_rfl) (by kernel_rfl) (fun _ _ _ _ h => h) (by kernel_rfl) (fun w => by kernel_rfl) h1 ?_
        exact wpAnyH_done (by kernel_rfl) (Eq.mp (by kernel_rfl) (KE1 iv V1 h1.1 h1.2)) _
      · obtain rfl : i = j := by omega
        have hlt2 : ¬ (i : Int) < (i : Int) := by omega
        obtain ⟨En, hEn⟩ : ∃ e, NN = e + i := ⟨NN - i, by omega⟩
        have hEI : (NN : Int) - (i : Int) = (En : Int) := by omega
        have hE1 : m ≤ En := by omega
        have hE2 : En ≤ b := by omega
        have hE3 : i + En = mid + m := by have := HNN.out; omega
        have C1 : Hid (∀ u ∈ U.take (i - a), ∀ v ∈ V.drop (En - m), lt v u = false) := Lib.hid (by
          intro u hu v hv
          by_cases hb1 : 0 < i - a
          · by_cases hb2 : En - m < V.length
            · have h1 : i - 1 - a < U.length := by have := HM.out; omega
              have e2 : NN - i - m = En - m := by omega
              have h2 : NN - i - m < V.length := by rw [e2]; exact hb2
              rcases HP.out h1 h2 with e | e
              · exfalso; (have := H0.out; have := HB.out; omega)
              · simp only [e2] at e
                have := srt_upto HW.out HU.out (s := i - 1 - a) h1 (z := V[En - m]) e u (by rw [show i - 1 - a + 1 = i - a by omega]; exact hu)
                exact srt_from HW.out HV.out hb2 this v hv
            · rw [List.drop_of_length_le (by omega)] at hv; simp at hv
          · rw [show i - a = 0 by omega] at hu; simp at hu)
        have C2 : Hid (∀ v ∈ V.take (En - m), ∀ u ∈ U.drop (i - a), lt v u = true) := Lib.hid (by
          intro v hv u hu
          by_cases hb1 : 0 < En - m
          · by_cases hb2 : i - a < U.length
            · have e2 : NN - 1 - i - m = En - m - 1 := by omega
              have h3 : En - m - 1 < V.length := by have := HB.out; omega
              have h2 : NN - 1 - i - m < V.length := by rw [e2]; exact h3
              rcases HQ.out hb2 h2 with e | e
              · exfalso; omega
              · simp only [e2] at e
                have := srt_upto_lt HW.out HV.out (t := En - m - 1) h3 (z := U[i - a]) e v (by rw [show En - m - 1 + 1 = En - m by omega]; exact hv)
                exact srt_from_lt HW.out HU.out hb2 this u hu
            · rw [List.drop_of_length_le (by omega)] at hu; simp at hu
          · rw [show En - m = 0 by omega] at hv; simp at hv)
        have NE0 : Hid (mrg lt U V = mrg lt (U.take (i - a)) (V.take (En - m)) ++ mrg lt (U.drop (i - a)) (V.drop (En - m))) := Lib.hid (by
          conv => lhs; rw [← List.take_append_drop (i - a) U, ← List.take_append_drop (En - m) V]
          exact mrg_apart C1.out C2.out)
        obtain ⟨U1, hU1⟩ : ∃ X, U.take (i - a) = X := ⟨_, rfl⟩
        obtain ⟨U2, hU2⟩ : ∃ X, U.drop (i - a) = X := ⟨_, rfl⟩
        obtain ⟨V1, hV1⟩ : ∃ X, V.take (En - m) = X := ⟨_, rfl⟩
        obtain ⟨V2, hV2⟩ : ∃ X, V.drop (En - m) = X := ⟨_, rfl⟩
        have LU1 : Hid (U1.length = i - a) := Lib.hid (by rw [← hU1, List.length_take]; have := HM.out; omega)
        have LV1 : Hid (V1.length = En - m) := Lib.hid (by rw [← hV1, List.length_take]; have := HB.out; omega)
        have LU2 : Hid (U2.length = m - i) := Lib.hid (by rw [← hU2, List.length_drop]; have := HM.out; omega)
        have LV2 : Hid (V2.length = b - En) := Lib.hid (by rw [← hV2, List.length_drop]; have := HB.out; omega)
        have UU : Hid (U = U1 ++ U2) := Lib.hid (by rw [← hU1, ← hU2, List.take_append_drop])
        have VV : Hid (V = V1 ++ V2) := Lib.hid (by rw [← hV1, ← hV2, List.take_append_drop])
        have SU := srt_sub (show Srt lt (U1 ++ U2) by rw [← UU.out]; exact HU.out)
        have SVV := srt_sub (show Srt lt (V1 ++ V2) by rw [← VV.out]; exact HV.out)
        have SU1 := Lib.hid SU.1; have SU2 := Lib.hid SU.2; have SV1 := Lib.hid SVV.1; have SV2 := Lib.hid SVV.2
        obtain ⟨M1, hM1⟩ : ∃ X, mrg lt U1 V1 = X := ⟨_, rfl⟩
        have HM1 := Lib.hid hM1
        have LM1 : Hid (M1.length = U1.length + V1.length) := Lib.hid (by rw [← hM1, mrg_len])
        have NE : Hid (mrg lt U V = mrg lt U1 V1 ++ mrg lt U2 V2) := Lib.hid (by rw [NE0.out, hU1, hU2, hV1, hV2])
        have R3 : Hid (RowW wr B g c (P ++ (U1 ++ (U2 ++ (V1 ++ (V2 ++ S)))))) := Lib.hid (by
          have := RR.out
          rw [← HLL.out, UU.out, VV.out] at this
          simpa only [List.append_assoc] using this)
        clear NE0 C1 C2 hU1 hU2 hV1 hV2 SU SVV hM1 RR HP HQ ATU ATV hEn
        have him : i ≤ mid := by omega
        by_cases c1 : i < m
        · have c1i : (i : Int) < (m : Int) := by omega
          by_cases c2 : m < En
          · have c2i : (m : Int) < (En : Int) := by omega
            have HC := Lib.hid (rotW_is B g c N (P ++ U1) U2 V1 (V2 ++ S) i m En (.func (.func F) #[] caps) wr (by rw [← HL.out, ← HLL.out, UU.out, VV.out]; simp only [List.length_append]; omega) (by have := R3.out; simpa only [List.append_assoc] using this) (by rw [List.length_append]; have := LU1.out; have := HA.out; omega) (by rw [List.length_append]; have := LU1.out; have := LU2.out; have := HA.out; omega) (by rw [List.length_append]; have := LU1.out; have := LU2.out; have := LV1.out; have := HA.out; omega) (by have := LU2.out; omega) (by have := LV1.out; omega) hbig)
            go_wp2_with fail
            refine HC.out.mono ?_
            rintro e w5 ⟨rfl, hr, hg⟩
            have RB : Hid (RowW w5 B g c (P ++ (U1 ++ (V1 ++ (U2 ++ (V2 ++ S)))))) := Lib.hid (by simpa only [List.append_assoc] using hr)
            have GB := Lib.hid (grTW GR.out hg)
            clear hr hg HC
            dsimp only
            by_cases c3 : a < i
            · have c3i : (a : Int) < (i : Int) := by omega
              by_cases c4 : i < mid
              · have c4i : (i : Int) < (mid : Int) := by omega
                have HC := Lib.hid (IH.out P U1 V1 (U2 ++ (V2 ++ S)) a i mid w5 (by have := LU1.out; have := LV1.out; have := HFU.out; have := HM.out; have := HB.out; omega) (by rw [← HL.out, ← HLL.out, UU.out, VV.out]; simp only [List.length_append]; omega) RB.out SU1.out SV1.out (by have := LU1.out; omega) (by have := LV1.out; omega) HA.out (by have := LU1.out; have := HA.out; omega) (by have := LU1.out; have := LV1.out; have := HA.out; omega))
                go_wp2_with fail
                refine HC.out.mono ?_
                rintro e w6 ⟨rfl, hr, hg⟩
                have RB2 : Hid (RowW w6 B g c (P ++ (M1 ++ (U2 ++ (V2 ++ S))))) := Lib.hid (by rw [← HM1.out]; exact hr)
                have GB2 := Lib.hid (grTW GB.out hg)
                clear hr hg HC
                dsimp only
                by_cases c5 : mid < En
                · have c5i : (mid : Int) < (En : Int) := by omega
                  by_cases c6 : En < b
                  · have c6i : (En : Int) < (b : Int) := by omega
                    have HC := Lib.hid (IH.out (P ++ M1) U2 V2 S mid En b w6 (by have := LU2.out; have := LV2.out; have := HFU.out; have := HM.out; have := HB.out; have := LU1.out; omega) (by rw [← HL.out, ← HLL.out, UU.out, VV.out]; have := LM1.out; simp only [List.length_append]; omega) (by have := RB2.out; simpa only [List.append_assoc] using this) SU2.out SV2.out (by have := LU2.out; omega) (by have := LV2.out; omega) (by rw [List.length_append]; have := LM1.out; have := LU1.out; have := LV1.out; have := HA.out; omega) (by rw [List.length_append]; have := LM1.out; have := LU1.out; have := LV1.out; have := LU2.out; have := HA.out; omega) (by rw [List.length_append]; have := LM1.out; have := LU1.out; have := LV1.out; have := LU2.out; have := LV2.out; have := HA.out; omega))
                    go_wp2_with fail
                    refine HC.out.mono ?_
                    rintro e w7 ⟨rfl, hr, hg⟩
                    have RF : Hid (RowW w7 B g c (P ++ (mrg lt U V ++ S))) := Lib.hid (by rw [NE.out, HM1.out]; simpa only [List.append_assoc] using hr)
                    have GF := Lib.hid (grTW GB2.out hg)
                    clear hr hg HC
                    dsimp only
                    go_wp2
                    exact bodyPost_end (results_none rfl _ _ _) rfl ⟨rfl, RF.out, GF.out⟩
                  · have c6i : ¬ (En : Int) < (b : Int) := by omega
                    have RF : Hid (RowW w6 B g c (P ++ (mrg lt U V ++ S))) := Lib.hid (by
                      have hz := List.eq_nil_of_length_eq_zero (show V2.length = 0 by have := LV2.out; omega)
                      rw [NE.out, HM1.out]
                      have := RB2.out
                      rw [hz] at this ⊢
                      simpa only [mrg_nil, mrg_nil2, List.append_assoc, List.nil_append, List.append_nil] using this)
                    go_wp2
                    exact bodyPost_end (results_none rfl _ _ _) rfl ⟨rfl, RF.out, GB2.out⟩
                · have c5i : ¬ (mid : Int) < (En : Int) := by omega
                  have RF : Hid (RowW w6 B g c (P ++ (mrg lt U V ++ S))) := Lib.hid (by
                    have hz := List.eq_nil_of_length_eq_zero (show U2.length = 0 by have := LU2.out; omega)
                    rw [NE.out, HM1.out]
                    have := RB2.out
                    rw [hz] at this ⊢
                    simpa only [mrg_nil, mrg_nil2, List.append_assoc, List.nil_append, List.append_nil] using this)
                  go_wp2
                  exact bodyPost_end (results_none rfl _ _ _) rfl ⟨rfl, RF.out, GB2.out⟩
              · have c4i : ¬ (i : Int) < (mid : Int) := by omega
                have RB2 : Hid (RowW w5 B g c (P ++ (M1 ++ (U2 ++ (V2 ++ S))))) := Lib.hid (by
                  have hz := List.eq_nil_of_length_eq_zero (show V1.length = 0 by have := LV1.out; omega)
                  rw [← HM1.out]
                  have := RB.out
                  rw [hz] at this ⊢
                  simpa only [mrg_nil, mrg_nil2, List.append_assoc, List.nil_append, List.append_nil] using this)
                have GB2 := GB
                by_cases c5 : mid < En
                · have c5i : (mid : Int) < (En : Int) := by omega
                  by_cases c6 : En < b
                  · have c6i : (En : Int) < (b : Int) := by omega
                    have HC := Lib.hid (IH.out (P ++ M1) U2 V2 S mid En b w5 (by have := LU2.out; have := LV2.out; have := HFU.out; have := HM.out; have := HB.out; have := LU1.out; omega) (by rw [← HL.out, ← HLL.out, UU.out, VV.out]; have := LM1.out; simp only [List.length_append]; omega) (by have := RB2.out; simpa only [List.append_assoc] using this) SU2.out SV2.out (by have := LU2.out; omega) (by have := LV2.out; omega) (by rw [List.length_append]; have := LM1.out; have := LU1.out; have := LV1.out; have := HA.out; omega) (by rw [List.length_append]; have := LM1.out; have := LU1.out; have := LV1.out; have := LU2.out; have := HA.out; omega) (by rw [List.length_append]; have := LM1.out; have := LU1.out; have := LV1.out; have := LU2.out; have := LV2.out; have := HA.out; omega))
                    go_wp2_with fail
                    refine HC.out.mono ?_
                    rintro e w7 ⟨rfl, hr, hg⟩
                    have RF : Hid (RowW w7 B g c (P ++ (mrg lt U V ++ S))) := Lib.hid (by rw [NE.out, HM1.out]; simpa only [List.append_assoc] using hr)
                    have GF := Lib.hid (grTW GB2.out hg)
                    clear hr hg HC
                    dsimp only
                    go_wp2
                    exact bodyPost_end (results_none rfl _ _ _) rfl ⟨rfl, RF.out, GF.out⟩
                  · have c6i : ¬ (En : Int) < (b : Int) := by omega
                    have RF : Hid (RowW w5 B g c (P ++ (mrg lt U V ++ S))) := Lib.hid (by
                      have hz := List.eq_nil_of_length_eq_zero (show V2.length = 0 by have := LV2.out; omega)
                      rw [NE.out, HM1.out]
                      have := RB2.out
                      rw [hz] at this ⊢
                      simpa only [mrg_nil, mrg_nil2, List.append_assoc, List.nil_append, List.append_nil] using this)
                    go_wp2
                    exact bodyPost_end (results_none rfl _ _ _) rfl ⟨rfl, RF.out, GB2.out⟩
                · have c5i : ¬ (mid : Int) < (En : Int) := by omega
                  have RF : Hid (RowW w5 B g c (P ++ (mrg lt U V ++ S))) := Lib.hid (by
                    have hz := List.eq_nil_of_length_eq_zero (show U2.length = 0 by have := LU2.out; omega)
                    rw [NE.out, HM1.out]
                    have := RB2.out
                    rw [hz] at this ⊢
                    simpa only [mrg_nil, mrg_nil2, List.append_assoc, List.nil_append, List.append_nil] using this)
                  go_wp2
                  exact bodyPost_end (results_none rfl _ _ _) rfl ⟨rfl, RF.out, GB2.out⟩
            · have c3i : ¬ (a : Int) < (i : Int) := by omega
              have RB2 : Hid (RowW w5 B g c (P ++ (M1 ++ (U2 ++ (V2 ++ S))))) := Lib.hid (by
                have hz := List.eq_nil_of_length_eq_zero (show U1.length = 0 by have := LU1.out; omega)
                rw [← HM1.out]
                have := RB.out
                rw [hz] at this ⊢
                simpa only [mrg_nil, mrg_nil2, List.append_assoc, List.nil_append, List.append_nil] using this)
              have GB2 := GB
              by_cases c5 : mid < En
              · have c5i : (mid : Int) < (En : Int) := by omega
                by_cases c6 : En < b
                · have c6i : (En : Int) < (b : Int) := by omega
                  have HC := Lib.hid (IH.out (P ++ M1) U2 V2 S mid En b w5 (by have := LU2.out; have := LV2.out; have := HFU.out; have := HM.out; have := HB.out; have := LU1.out; omega) (by rw [← HL.out, ← HLL.out, UU.out, VV.out]; have := LM1.out; simp only [List.length_append]; omega) (by have := RB2.out; simpa only [List.append_assoc] using this) SU2.out SV2.out (by have := LU2.out; omega) (by have := LV2.out; omega) (by rw [List.length_append]; have := LM1.out; have := LU1.out; have := LV1.out; have := HA.out; omega) (by rw [List.length_append]; have := LM1.out; have := LU1.out; have := LV1.out; have := LU2.out; have := HA.out; omega) (by rw [List.length_append]; have := LM1.out; have := LU1.out; have := LV1.out; have := LU2.out; have := LV2.out; have := HA.out; omega))
                  go_wp2_with fail
                  refine HC.out.mono ?_
                  rintro e w7 ⟨rfl, hr, hg⟩
                  have RF : Hid (RowW w7 B g c (P ++ (mrg lt U V ++ S))) := Lib.hid (by rw [NE.out, HM1.out]; simpa only [List.append_assoc] using hr)
                  have GF := Lib.hid (grTW GB2.out hg)
                  clear hr hg HC
                  dsimp only
                  go_wp2
                  exact bodyPost_end (results_none rfl _ _ _) rfl ⟨rfl, RF.out, GF.out⟩
                · have c6i : ¬ (En : Int) < (b : Int) := by omega
                  have RF : Hid (RowW w5 B g c (P ++ (mrg lt U V ++ S))) := Lib.hid (by
                    have hz := List.eq_nil_of_length_eq_zero (show V2.length = 0 by have := LV2.out; omega)
                    rw [NE.out, HM1.out]
                    have := RB2.out
                    rw [hz] at this ⊢
                    simpa only [mrg_nil, mrg_nil2, List.append_assoc, List.nil_append, List.append_nil] using this)
                  go_wp2
                  exact bodyPost_end (results_none rfl _ _ _) rfl ⟨rfl, RF.out, GB2.out⟩
              · have c5i : ¬ (mid : Int) < (En : Int) := by omega
                have RF : Hid (RowW w5 B g c (P ++ (mrg lt U V ++ S))) := Lib.hid (by
                  have hz := List.eq_nil_of_length_eq_zero (show U2.length = 0 by have := LU2.out; omega)
                  rw [NE.out, HM1.out]
                  have := RB2.out
                  rw [hz] at this ⊢
                  simpa only [mrg_nil, mrg_nil2, List.append_assoc, List.nil_append, List.append_nil] using this)
                go_wp2
                exact bodyPost_end (results_none rfl _ _ _) rfl ⟨rfl, RF.out, GB2.out⟩
          · have c2i : ¬ (m : Int) < (En : Int) := by omega
            have RB : Hid (RowW wr B g c (P ++ (U1 ++ (V1 ++ (U2 ++ (V2 ++ S)))))) := Lib.hid (by
              have hz := List.eq_nil_of_length_eq_zero (show V1.length = 0 by have := LV1.out; omega)
              have := R3.out
              rw [hz] at this ⊢
              simpa only [List.append_assoc, List.nil_append, List.append_nil] using this)
            have GB := GR
            by_cases c3 : a < i
            · have c3i : (a : Int) < (i : Int) := by omega
              by_cases c4 : i < mid
              · have c4i : (i : Int) < (mid : Int) := by omega
                have HC := Lib.hid (IH.out P U1 V1 (U2 ++ (V2 ++ S)) a i mid wr (by have := LU1.out; have := LV1.out; have := HFU.out; have := HM.out; have := HB.out; omega) (by rw [← HL.out, ← HLL.out, UU.out, VV.out]; simp only [List.length_append]; omega) RB.out SU1.out SV1.out (by have := LU1.out; omega) (by have := LV1.out; omega) HA.out (by have := LU1.out; have := HA.out; omega) (by have := LU1.out; have := LV1.out; have := HA.out; omega))
                go_wp2_with fail
                refine HC.out.mono ?_
                rintro e w6 ⟨rfl, hr, hg⟩
                have RB2 : Hid (RowW w6 B g c (P ++ (M1 ++ (U2 ++ (V2 ++ S))))) := Lib.hid (by rw [← HM1.out]; exact hr)
                have GB2 := Lib.hid (grTW GB.out hg)
                clear hr hg HC
                dsimp only
                by_cases c5 : mid < En
                · have c5i : (mid : Int) < (En : Int) := by omega
                  by_cases c6 : En < b
                  · have c6i : (En : Int) < (b : Int) := by omega
                    have HC := Lib.hid (IH.out (P ++ M1) U2 V2 S mid En b w6 (by have := LU2.out; have := LV2.out; have := HFU.out; have := HM.out; have := HB.out; have := LU1.out; omega) (by rw [← HL.out, ← HLL.out, UU.out, VV.out]; have := LM1.out; simp only [List.length_append]; omega) (by have := RB2.out; simpa only [List.append_assoc] using this) SU2.out SV2.out (by have := LU2.out; omega) (by have := LV2.out; omega) (by rw [List.length_append]; have := LM1.out; have := LU1.out; have := LV1.out; have := HA.out; omega) (by rw [List.length_append]; have := LM1.out; have := LU1.out; have := LV1.out; have := LU2.out; have := HA.out; omega) (by rw [List.length_append]; have := LM1.out; have := LU1.out; have := LV1.out; have := LU2.out; have := LV2.out; have := HA.out; omega))
                    go_wp2_with fail
                    refine HC.out.mono ?_
                    rintro e w7 ⟨rfl, hr, hg⟩
                    have RF : Hid (RowW w7 B g c (P ++ (mrg lt U V ++ S))) := Lib.hid (by rw [NE.out, HM1.out]; simpa only [List.append_assoc] using hr)
                    have GF := Lib.hid (grTW GB2.out hg)
                    clear hr hg HC
                    dsimp only
                    go_wp2
                    exact bodyPost_end (results_none rfl _ _ _) rfl ⟨rfl, RF.out, GF.out⟩
                  · have c6i : ¬ (En : Int) < (b : Int) := by omega
                    have RF : Hid (RowW w6 B g c (P ++ (mrg lt U V ++ S))) := Lib.hid (by
                      have hz := List.eq_nil_of_length_eq_zero (show V2.length = 0 by have := LV2.out; omega)
                      rw [NE.out, HM1.out]
                      have := RB2.out
                      rw [hz] at this ⊢
                      simpa only [mrg_nil, mrg_nil2, List.append_assoc, List.nil_append, List.append_nil] using this)
                    go_wp2
                    exact bodyPost_end (results_none rfl _ _ _) rfl ⟨rfl, RF.out, GB2.out⟩
                · have c5i : ¬ (mid : Int) < (En : Int) := by omega
                  have RF : Hid (RowW w6 B g c (P ++ (mrg lt U V ++ S))) := Lib.hid (by
                    have hz := List.eq_nil_of_length_eq_zero (show U2.length = 0 by have := LU2.out; omega)
                    rw [NE.out, HM1.out]
                    have := RB2.out
                    rw [hz] at this ⊢
                    simpa only [mrg_nil, mrg_nil2, List.append_assoc, List.nil_append, List.append_nil] using this)
                  go_wp2
                  exact bodyPost_end (results_none rfl _ _ _) rfl ⟨rfl, RF.out, GB2.out⟩
              · have c4i : ¬ (i : Int) < (mid : Int) := by omega
                have RB2 : Hid (RowW wr B g c (P ++ (M1 ++ (U2 ++ (V2 ++ S))))) := Lib.hid (by
                  have hz := List.eq_nil_of_length_eq_zero (show V1.length = 0 by have := LV1.out; omega)
                  rw [← HM1.out]
                  have := RB.out
                  rw [hz] at this ⊢
                  simpa only [mrg_nil, mrg_nil2, List.append_assoc, List.nil_append, List.append_nil] using this)
                have GB2 := GB
                by_cases c5 : mid < En
                · have c5i : (mid : Int) < (En : Int) := by omega
                  by_cases c6 : En < b
                  · have c6i : (En : Int) < (b : Int) := by omega
                    have HC := Lib.hid (IH.out (P ++ M1) U2 V2 S mid En b wr (by have := LU2.out; have := LV2.out; have := HFU.out; have := HM.out; have := HB.out; have := LU1.out; omega) (by rw [← HL.out, ← HLL.out, UU.out, VV.out]; have := LM1.out; simp only [List.length_append]; omega) (by have := RB2.out; simpa only [List.append_assoc] using this) SU2.out SV2.out (by have := LU2.out; omega) (by have := LV2.out; omega) (by rw [List.length_append]; have := LM1.out; have := LU1.out; have := LV1.out; have := HA.out; omega) (by rw [List.length_append]; have := LM1.out; have := LU1.out; have := LV1.out; have := LU2.out; have := HA.out; omega) (by rw [List.length_append]; have := LM1.out; have := LU1.out; have := LV1.out; have := LU2.out; have := LV2.out; have := HA.out; omega))
                    go_wp2_with fail
                    refine HC.out.mono ?_
                    rintro e w7 ⟨rfl, hr, hg⟩
                    have RF : Hid (RowW w7 B g c (P ++ (mrg lt U V ++ S))) := Lib.hid (by rw [NE.out, HM1.out]; simpa only [List.append_assoc] using hr)
                    have GF := Lib.hid (grTW GB2.out hg)
                    clear hr hg HC
                    dsimp only
                    go_wp2
                    exact bodyPost_end (results_none rfl _ _ _) rfl ⟨rfl, RF.out, GF.out⟩
                  · have c6i : ¬ (En : Int) < (b : Int) := by omega
                    have RF : Hid (RowW wr B g c (P ++ (mrg lt U V ++ S))) := Lib.hid (by
                      have hz := List.eq_nil_of_length_eq_zero (show V2.length = 0 by have := LV2.out; omega)
                      rw [NE.out, HM1.out]
                      have := RB2.out
                      rw [hz] at this ⊢
                      simpa only [mrg_nil, mrg_nil2, List.append_assoc, List.nil_append, List.append_nil] using this)
                    go_wp2
                    exact bodyPost_end (results_none rfl _ _ _) rfl ⟨rfl, RF.out, GB2.out⟩
                · have c5i : ¬ (mid : Int) < (En : Int) := by omega
                  have RF : Hid (RowW wr B g c (P ++ (mrg lt U V ++ S))) := Lib.hid (by
                    have hz := List.eq_nil_of_length_eq_zero (show U2.length = 0 by have := LU2.out; omega)
                    rw [NE.out, HM1.out]
                    have := RB2.out
                    rw [hz] at this ⊢
                    simpa only [mrg_nil, mrg_nil2, List.append_assoc, List.nil_append, List.append_nil] using this)
                  go_wp2
                  exact bodyPost_end (results_none rfl _ _ _) rfl ⟨rfl, RF.out, GB2.out⟩
            · have c3i : ¬ (a : Int) < (i : Int) := by omega
              have RB2 : Hid (RowW wr B g c (P ++ (M1 ++ (U2 ++ (V2 ++ S))))) := Lib.hid (by
                have hz := List.eq_nil_of_length_eq_zero (show U1.length = 0 by have := LU1.out; omega)
                rw [← HM1.out]
                have := RB.out
                rw [hz] at this ⊢
                simpa only [mrg_nil, mrg_nil2, List.append_assoc, List.nil_append, List.append_nil] using this)
              have GB2 := GB
              by_cases c5 : mid < En
              · have c5i : (mid : Int) < (En : Int) := by omega
                by_cases c6 : En < b
                · have c6i : (En : Int) < (b : Int) := by omega
                  have HC := Lib.hid (IH.out (P ++ M1) U2 V2 S mid En b wr (by have := LU2.out; have := LV2.out; have := HFU.out; have := HM.out; have := HB.out; have := LU1.out; omega) (by rw [← HL.out, ← HLL.out, UU.out, VV.out]; have := LM1.out; simp only [List.length_append]; omega) (by have := RB2.out; simpa only [List.append_assoc] using this) SU2.out SV2.out (by have := LU2.out; omega) (by have := LV2.out; omega) (by rw [List.length_append]; have := LM1.out; have := LU1.out; have := LV1.out; have := HA.out; omega) (by rw [List.length_append]; have := LM1.out; have := LU1.out; have := LV1.out; have := LU2.out; have := HA.out; omega) (by rw [List.length_append]; have := LM1.out; have := LU1.out; have := LV1.out; have := LU2.out; have := LV2.out; have := HA.out; omega))
                  go_wp2_with fail
                  refine HC.out.mono ?_
                  rintro e w7 ⟨rfl, hr, hg⟩
                  have RF : Hid (RowW w7 B g c (P ++ (mrg lt U V ++ S))) := Lib.hid (by rw [NE.out, HM1.out]; simpa only [List.append_assoc] using hr)
                  have GF := Lib.hid (grTW GB2.out hg)
                  clear hr hg HC
                  dsimp only
                  go_wp2
                  exact bodyPost_end (results_none rfl _ _ _) rfl ⟨rfl, RF.out, GF.out⟩
                · have c6i : ¬ (En : Int) < (b : Int) := by omega
                  have RF : Hid (RowW wr B g c (P ++ (mrg lt U V ++ S))) := Lib.hid (by
                    have hz := List.eq_nil_of_length_eq_zero (show V2.length = 0 by have := LV2.out; omega)
                    rw [NE.out, HM1.out]
                    have := RB2.out
                    rw [hz] at this ⊢
                    simpa only [mrg_nil, mrg_nil2, List.append_assoc, List.nil_append, List.append_nil] using this)
                  go_wp2
                  exact bodyPost_end (results_none rfl _ _ _) rfl ⟨rfl, RF.out, GB2.out⟩
              · have c5i : ¬ (mid : Int) < (En : Int) := by omega
                have RF : Hid (RowW wr B g c (P ++ (mrg lt U V ++ S))) := Lib.hid (by
                  have hz := List.eq_nil_of_length_eq_zero (show U2.length = 0 by have := LU2.out; omega)
                  rw [NE.out, HM1.out]
                  have := RB2.out
                  rw [hz] at this ⊢
                  simpa only [mrg_nil, mrg_nil2, List.append_assoc, List.nil_append, List.append_nil] using this)
                go_wp2
                exact bodyPost_end (results_none rfl _ _ _) rfl ⟨rfl, RF.out, GB2.out⟩
        · have c1i : ¬ (i : Int) < (m : Int) := by omega
          have RB : Hid (RowW wr B g c (P ++ (U1 ++ (V1 ++ (U2 ++ (V2 ++ S)))))) := Lib.hid (by
            have hz := List.eq_nil_of_length_eq_zero (show U2.length = 0 by have := LU2.out; omega)
            have := R3.out
            rw [hz] at this ⊢
            simpa only [List.append_assoc, List.nil_append, List.append_nil] using this)
          have GB := GR
          by_cases c3 : a < i
          · have c3i : (a : Int) < (i : Int) := by omega
            by_cases c4 : i < mid
            · have c4i : (i : Int) < (mid : Int) := by omega
              have HC := Lib.hid (IH.out P U1 V1 (U2 ++ (V2 ++ S)) a i mid wr (by have := LU1.out; have := LV1.out; have := HFU.out; have := HM.out; have := HB.out; omega) (by rw [← HL.out, ← HLL.out, UU.out, VV.out]; simp only [List.length_append]; omega) RB.out SU1.out SV1.out (by have := LU1.out; omega) (by have := LV1.out; omega) HA.out (by have := LU1.out; have := HA.out; omega) (by have := LU1.out; have := LV1.out; have := HA.out; omega))
              go_wp2_with fail
              refine HC.out.mono ?_
              rintro e w6 ⟨rfl, hr, hg⟩
              have RB2 : Hid (RowW w6 B g c (P ++ (M1 ++ (U2 ++ (V2 ++ S))))) := Lib.hid (by rw [← HM1.out]; exact hr)
              have GB2 := Lib.hid (grTW GB.out hg)
              clear hr hg HC
              dsimp only
              by_cases c5 : mid < En
              · have c5i : (mid : Int) < (En : Int) := by omega
                by_cases c6 : En < b
                · have c6i : (En : Int) < (b : Int) := by omega
                  have HC := Lib.hid (IH.out (P ++ M1) U2 V2 S mid En b w6 (by have := LU2.out; have := LV2.out; have := HFU.out; have := HM.out; have := HB.out; have := LU1.out; omega) (by rw [← HL.out, ← HLL.out, UU.out, VV.out]; have := LM1.out; simp only [List.length_append]; omega) (by have := RB2.out; simpa only [List.append_assoc] using this) SU2.out SV2.out (by have := LU2.out; omega) (by have := LV2.out; omega) (by rw [List.length_append]; have := LM1.out; have := LU1.out; have := LV1.out; have := HA.out; omega) (by rw [List.length_append]; have := LM1.out; have := LU1.out; have := LV1.out; have := LU2.out; have := HA.out; omega) (by rw [List.length_append]; have := LM1.out; have := LU1.out; have := LV1.out; have := LU2.out; have := LV2.out; have := HA.out; omega))
                  go_wp2_with fail
                  refine HC.out.mono ?_
                  rintro e w7 ⟨rfl, hr, hg⟩
                  have RF : Hid (RowW w7 B g c (P ++ (mrg lt U V ++ S))) := Lib.hid (by rw [NE.out, HM1.out]; simpa only [List.append_assoc] using hr)
                  have GF := Lib.hid (grTW GB2.out hg)
                  clear hr hg HC
                  dsimp only
                  go_wp2
                  exact bodyPost_end (results_none rfl _ _ _) rfl ⟨rfl, RF.out, GF.out⟩
                · have c6i : ¬ (En : Int) < (b : Int) := by omega
                  have RF : Hid (RowW w6 B g c (P ++ (mrg lt U V ++ S))) := Lib.hid (by
                    have hz := List.eq_nil_of_length_eq_zero (show V2.length = 0 by have := LV2.out; omega)
                    rw [NE.out, HM1.out]
                    have := RB2.out
                    rw [hz] at this ⊢
                    simpa only [mrg_nil, mrg_nil2, List.append_assoc, List.nil_append, List.append_nil] using this)
                  go_wp2
                  exact bodyPost_end (results_none rfl _ _ _) rfl ⟨rfl, RF.out, GB2.out⟩
              · have c5i : ¬ (mid : Int) < (En : Int) := by omega
                have RF : Hid (RowW w6 B g c (P ++ (mrg lt U V ++ S))) := Lib.hid (by
                  have hz := List.eq_nil_of_length_eq_zero (show U2.length = 0 by have := LU2.out; omega)
                  rw [NE.out, HM1.out]
                  have := RB2.out
                  rw [hz] at this ⊢
                  simpa only [mrg_nil, mrg_nil2, List.append_assoc, List.nil_append, List.append_nil] using this)
                go_wp2
                exact bodyPost_end (results_none rfl _ _ _) rfl ⟨rfl, RF.out, GB2.out⟩
            · have c4i : ¬ (i : Int) < (mid : Int) := by omega
              have RB2 : Hid (RowW wr B g c (P ++ (M1 ++ (U2 ++ (V2 ++ S))))) := Lib.hid (by
                have hz := List.eq_nil_of_length_eq_zero (show V1.length = 0 by have := LV1.out; omega)
                rw [← HM1.out]
                have := RB.out
                rw [hz] at this ⊢
                simpa only [mrg_nil, mrg_nil2, List.append_assoc, List.nil_append, List.append_nil] using this)
              have GB2 := GB
              by_cases c5 : mid < En
              · have c5i : (mid : Int) < (En : Int) := by omega
                by_cases c6 : En < b
                · have c6i : (En : Int) < (b : Int) := by omega
                  have HC := Lib.hid (IH.out (P ++ M1) U2 V2 S mid En b wr (by have := LU2.out; have := LV2.out; have := HFU.out; have := HM.out; have := HB.out; have := LU1.out; omega) (by rw [← HL.out, ← HLL.out, UU.out, VV.out]; have := LM1.out; simp only [List.length_append]; omega) (by have := RB2.out; simpa only [List.append_assoc] using this) SU2.out SV2.out (by have := LU2.out; omega) (by have := LV2.out; omega) (by rw [List.length_append]; have := LM1.out; have := LU1.out; have := LV1.out; have := HA.out; omega) (by rw [List.length_append]; have := LM1.out; have := LU1.out; have := LV1.out; have := LU2.out; have := HA.out; omega) (by rw [List.length_append]; have := LM1.out; have := LU1.out; have := LV1.out; have := LU2.out; have := LV2.out; have := HA.out; omega))
                  go_wp2_with fail
                  refine HC.out.mono ?_
                  rintro e w7 ⟨rfl, hr, hg⟩
                  have RF : Hid (RowW w7 B g c (P ++ (mrg lt U V ++ S))) := Lib.hid (by rw [NE.out, HM1.out]; simpa only [List.append_assoc] using hr)
                  have GF := Lib.hid (grTW GB2.out hg)
                  clear hr hg HC
                  dsimp only
                  go_wp2
                  exact bodyPost_end (results_none rfl _ _ _) rfl ⟨rfl, RF.out, GF.out⟩
                · have c6i : ¬ (En : Int) < (b : Int) := by omega
                  have RF : Hid (RowW wr B g c (P ++ (mrg lt U V ++ S))) := Lib.hid (by
                    have hz := List.eq_nil_of_length_eq_zero (show V2.length = 0 by have := LV2.out; omega)
                    rw [NE.out, HM1.out]
                    have := RB2.out
                    rw [hz] at this ⊢
                    simpa only [mrg_nil, mrg_nil2, List.append_assoc, List.nil_append, List.append_nil] using this)
                  go_wp2
                  exact bodyPost_end (results_none rfl _ _ _) rfl ⟨rfl, RF.out, GB2.out⟩
              · have c5i : ¬ (mid : Int) < (En : Int) := by omega
                have RF : Hid (RowW wr B g c (P ++ (mrg lt U V ++ S))) := Lib.hid (by
                  have hz := List.eq_nil_of_length_eq_zero (show U2.length = 0 by have := LU2.out; omega)
                  rw [NE.out, HM1.out]
                  have := RB2.out
                  rw [hz] at this ⊢
                  simpa only [mrg_nil, mrg_nil2, List.append_assoc, List.nil_append, List.append_nil] using this)
                go_wp2
                exact bodyPost_end (results_none rfl _ _ _) rfl ⟨rfl, RF.out, GB2.out⟩
          · have c3i : ¬ (a : Int) < (i : Int) := by omega
            have RB2 : Hid (RowW wr B g c (P ++ (M1 ++ (U2 ++ (V2 ++ S))))) := Lib.hid (by
              have hz := List.eq_nil_of_length_eq_zero (show U1.length = 0 by have := LU1.out; omega)
              rw [← HM1.out]
              have := RB.out
              rw [hz] at this ⊢
              simpa only [mrg_nil, mrg_nil2, List.append_assoc, List.nil_append, List.append_nil] using this)
            have GB2 := GB
            by_cases c5 : mid < En
            · have c5i : (mid : Int) < (En : Int) := by omega
              by_cases c6 : En < b
              · have c6i : (En : Int) < (b : Int) := by omega
                have HC := Lib.hid (IH.out (P ++ M1) U2 V2 S mid En b wr (by have := LU2.out; have := LV2.out; have := HFU.out; have := HM.out; have := HB.out; have := LU1.out; omega) (by rw [← HL.out, ← HLL.out, UU.out, VV.out]; have := LM1.out; simp only [List.length_append]; omega) (by have := RB2.out; simpa only [List.append_assoc] using this) SU2.out SV2.out (by have := LU2.out; omega) (by have := LV2.out; omega) (by rw [List.length_append]; have := LM1.out; have := LU1.out; have := LV1.out; have := HA.out; omega) (by rw [List.length_append]; have := LM1.out; have := LU1.out; have := LV1.out; have := LU2.out; have := HA.out; omega) (by rw [List.length_append]; have := LM1.out; have := LU1.out; have := LV1.out; have := LU2.out; have := LV2.out; have := HA.out; omega))
                go_wp2_with fail
                refine HC.out.mono ?_
                rintro e w7 ⟨rfl, hr, hg⟩
                have RF : Hid (RowW w7 B g c (P ++ (mrg lt U V ++ S))) := Lib.hid (by rw [NE.out, HM1.out]; simpa only [List.append_assoc] using hr)
                have GF := Lib.hid (grTW GB2.out hg)
                clear hr hg HC
                dsimp only
                go_wp2
                exact bodyPost_end (results_none rfl _ _ _) rfl ⟨rfl, RF.out, GF.out⟩
              · have c6i : ¬ (En : Int) < (b : Int) := by omega
                have RF : Hid (RowW wr B g c (P ++ (mrg lt U V ++ S))) := Lib.hid (by
                  have hz := List.eq_nil_of_length_eq_zero (show V2.length = 0 by have := LV2.out; omega)
                  rw [NE.out, HM1.out]
                  have := RB2.out
                  rw [hz] at this ⊢
                  simpa only [mrg_nil, mrg_nil2, List.append_assoc, List.nil_append, List.append_nil] using this)
                go_wp2
                exact bodyPost_end (results_none rfl _ _ _) rfl ⟨rfl, RF.out, GB2.out⟩
            · have c5i : ¬ (mid : Int) < (En : Int) := by omega
              have RF : Hid (RowW wr B g c (P ++ (mrg lt U V ++ S))) := Lib.hid (by
                have hz := List.eq_nil_of_length_eq_zero (show U2.length = 0 by have := LU2.out; omega)
                rw [NE.out, HM1.out]
                have := RB2.out
                rw [hz] at this ⊢
                simpa only [mrg_nil, mrg_nil2, List.append_assoc, List.nil_append, List.append_nil] using this)
              go_wp2
              exact bodyPost_end (results_none rfl _ _ _) rfl ⟨rfl, RF.out, GB2.out⟩
end Go.Proofs.YtijmijokgenflaaGreatDoor
