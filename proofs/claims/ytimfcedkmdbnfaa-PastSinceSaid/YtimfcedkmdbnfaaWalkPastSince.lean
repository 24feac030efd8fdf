/- The walk of PastSince. -/
import Derived.Test.YtimfcedkmdbnfaaPastSinceA
import Derived.Test.YtimfcedkmdbnfaaPastAwake
import Derived.Test.YtimfcedkmdbnfaaVecRows
namespace Go.Proofs.Ytimfcedkmdbnfaa
open Go Go.RowKit
set_option linter.unusedVariables false

set_option maxHeartbeats 40000000 in
set_option maxRecDepth 1000000 in
theorem pastSince_walk (p : Option Addr) (c : Nat) (L : List EvP) (F : Nat → Int) (q : Option Addr) (d : Nat) (M : List EvP) (G : Nat → Int) (v : Nat → Int) (most : Int) (W : World)
    (h : EvsAt W p L) (ho : ∀ a, p = some a → ∃ b o, a = ⟨b, o, none⟩) (hlc : L.length ≤ c) (hpc : p = none → c = 0) (h2 : EvsAt W q M) (ho2 : ∀ a, q = some a → ∃ b o, a = ⟨b, o, none⟩) (hld : M.length ≤ d) (hqc : q = none → d = 0) (hm : (Lit.int .i64 most).wf = true) :
    Calls Try.prog 3 #[.agg (pcs (.slice p L.length c) F), .agg (pcs (.slice q M.length d) G), .agg (vf v), .int .i64 most] W (Yes W) := by
  have hmr := wide_wf hm
  have EV := Lib.hid h; have HO := Lib.hid ho; have HPC := Lib.hid hpc; have EW := Lib.hid h2; have HO2 := Lib.hid ho2; have HQC := Lib.hid hqc
  clear h ho hm hpc h2 ho2 hqc
  go_enter Try.func3, Try.ntmps3
  go_wp2_with (refine wpList_gbox rfl _ rfl (pcs (.slice p L.length c) F) rfl ?_)
  intro g4 w1 l1 h1 hb1
  have P1 : Hid (Px w1 g4 (.slice p L.length c) F) := Lib.hid h1
  have B1 := Lib.hid hb1
  clear h1 hb1
  go_wp2_with (refine wpList_gbox rfl _ rfl (pcs (.slice q M.length d) G) rfl ?_)
  intro g5 w2 l2 h2 hb2
  have P2 := Lib.hid (P1.out.later hb2); have B2 := Lib.hid (thenBelow B1.out hb2)
  have Q2 : Hid (Px w2 g5 (.slice q M.length d) G) := Lib.hid h2
  clear h2 hb2 P1
  go_wp2_with (refine wpList_vbox vecI rfl _ rfl v rfl ?_)
  intro g6 w3 l3 rv hb3
  have P3 := Lib.hid (P2.out.later hb3); have Q3 := Lib.hid (Q2.out.later hb3); have B3 := Lib.hid (thenBelow B2.out hb3); have R3 := Lib.hid rv
  clear rv hb3 P2 Q2
  have s3 := P3.out.slot
  have t3 := Q3.out.slot
  have ba := below_alloc w3 (.cells #[.slice p L.length c, .slice q M.length d] 22)
  have na := heap_alloc_new w3 (.cells #[.slice p L.length c, .slice q M.length d] 22)
  have B5 := Lib.hid (thenBelow B3.out ba)
  have P5 := Lib.hid (P3.out.later ba); have Q5 := Lib.hid (Q3.out.later ba); have R5 := Lib.hid (R3.out.later ba)
  have E5 := Lib.hid (EV.out.below B5.out); have F5 := Lib.hid (EW.out.below B5.out)
  have FW : Hid (Calls Try.prog 4 #[.slice (some ⟨w3.heap.size, 0, none⟩) 2 2] (w3.alloc (.cells #[.slice p L.length c, .slice q M.length d] 22)) (FewR (w3.alloc (.cells #[.slice p L.length c, .slice q M.length d] 22)) [⟨p, c, L⟩, ⟨q, d, M⟩])) :=
    Lib.hid (fewE_is w3.heap.size 2 [⟨p, c, L⟩, ⟨q, d, M⟩] _ (fun i hi => by
      have hi2 : i < 2 := hi
      match i, hi2 with
      | 0, _ => exact ⟨(cell_of_row _ _ 0 _ _ _ na).trans rfl, E5.out⟩
      | 1, _ => exact ⟨(cell_of_row _ _ 1 _ _ _ na).trans rfl, F5.out⟩) (by simp))
  clear ba na
  go_wp2_with fail
  generalize w3.alloc (.cells #[.slice p L.length c, .slice q M.length d] 22) = w5 at P5 Q5 R5 B5 E5 F5 FW ⊢
  refine FW.out.mono ?_
  rintro e w6 ⟨fw, rfl, hfw, hb6⟩
  have P6 := Lib.hid (P5.out.later hb6); have Q6 := Lib.hid (Q5.out.later hb6); have R6 := Lib.hid (R5.out.later hb6); have B6 := Lib.hid (thenBelow B5.out hb6)
  clear FW hb6 P3 Q3 R3 E5 F5 s3 t3 P5 Q5 R5
  cases fw with
  | false =>
    have AW := Lib.hid (awake13 w6)
    clear hfw
    go_wp2_with fail
    refine AW.out.mono ?_
    rintro e w9 ⟨rfl, hb9⟩
    have B9 := Lib.hid (thenBelow B6.out hb9)
    clear hb9
    go_wp2
    go_ret
    exact ⟨rfl, B9.out⟩
  | true =>
    have hs1 := hfw rfl 0 (by simp)
    have hs2 := hfw rfl 1 (by simp)
    have hL : L.length ≤ 80 := hs1.1
    have hM : M.length ≤ 80 := hs2.1
    have HG : Hid (∀ x ∈ L, x.e.gone.length ≤ 1000) := Lib.hid fun x hx => Nat.le_trans (hs1.2 x hx) (by decide)
    have HG2 : Hid (∀ x ∈ M, x.e.gone.length ≤ 1000) := Lib.hid fun x hx => Nat.le_trans (hs2.2 x hx) (by decide)
    clear hfw hs1 hs2
    have HGE : Hid (∀ e ∈ evs L, e.gone.length ≤ 1000) := Lib.hid fun e he => by
      obtain ⟨x, hx, rfl⟩ := List.mem_map.1 he
      exact HG.out x hx
    have HGE2 : Hid (∀ e ∈ evs M, e.gone.length ≤ 1000) := Lib.hid fun e he => by
      obtain ⟨x, hx, rfl⟩ := List.mem_map.1 he
      exact HG2.out x hx
    have SA := Lib.hid (fun (U : World) (hU : Below w6.heap.size w6 U) => sinceA_is p c L F v U (EV.out.below (thenBelow B6.out hU)) HO.out (by omega) HG.out most hmr)
    have SB := Lib.hid (fun (U : World) (hU : Below w6.heap.size w6 U) => refSinceA_is p c L F v U (EV.out.below (thenBelow B6.out hU)) (by omega) most hmr)
    have hsl := sinceOf_len (evs L) F v most.toNat
    have SG : Hid (∀ e ∈ sinceOf (evs L) F v most.toNat, e.gone.length ≤ 1000) := Lib.hid fun e he => HGE.out e (sinceOf_mem he)
    have hel : (evs L).length = L.length := by simp [evs]
    rw [hel] at hsl
    generalize sinceOf (evs L) F v most.toNat = sl at SA SB hsl SG
    generalize vle F v = bb at SA SB
    clear hel
    go_wp2_with (first | refine wpList_gload rfl _ rfl g4 0 rfl (pcs (.slice p L.length c) F).toList P6.out.whole _ Try.underlying26 rfl (sizePl _ F) ?_ | refine wpList_gload rfl _ rfl g6 0 rfl (vf v).toList R6.out.range _ Try.underlying24 rfl (sizeVcl v) ?_)
    refine (SA.out _ (Below.refl _ _)).mono ?_
    rintro e w7 ⟨q9, c9, K9, rfl, hE9, he9, hb7⟩
    have B7 := Lib.hid hb7; have E9 := Lib.hid hE9; have HK9 := Lib.hid he9
    have P7 := Lib.hid (P6.out.later hb7); have R7 := Lib.hid (R6.out.later hb7)
    clear hE9 he9 hb7
    go_wp2_with (first | refine wpList_gload rfl _ rfl g4 0 rfl (pcs (.slice p L.length c) F).toList P7.out.whole _ Try.underlying26 rfl (sizePl _ F) ?_ | refine wpList_gload rfl _ rfl g6 0 rfl (vf v).toList R7.out.range _ Try.underlying24 rfl (sizeVcl v) ?_)
    refine (SB.out _ B7.out).mono ?_
    rintro e w8 ⟨q8, c8, K8, rfl, hE8, he8, hb8⟩
    have B8 := Lib.hid (thenBelow B7.out hb8); have E8 := Lib.hid hE8; have HK8 := Lib.hid he8; have E98 := Lib.hid (E9.out.below hb8)
    have P8 := Lib.hid (P6.out.later B8.out); have Q8 := Lib.hid (Q6.out.later B8.out)
    clear hE8 he8 hb8 SA SB P7 R7 R6 E9
    have s8 := P8.out.slot
    go_wp2_with fail
    clear s8
    go_loopw [13, 41] (fun n i wr => ∃ j : Nat, j ≤ L.length ∧ n = .int .i64 (dropsOf (evs (L.take j)) : Nat) ∧ i = .int .i64 j ∧ Below w8.heap.size w8 wr) (fun _ i _ => L.length - (intOf i).toNat)
    case atStart => exact ⟨0, Nat.zero_le _, rfl, rfl, Below.refl _ _⟩
    case round =>
      obtain ⟨j, hj, rfl, rfl, hb⟩ := hrel
      have BB := Lib.hid hb
      by_cases hjl : j < L.length
      · have hjl' : (j : Int) < L.length := by omega
        obtain ⟨b, o, rfl, hlt, hr⟩ := (EV.out.below (thenBelow B6.out (thenBelow B8.out hb))).at hjl
        obtain ⟨c0, c1, c2, c3, c4, c5, c6, c7⟩ := ev_cells hr
        have DT := Lib.hid (drops_take L j hjl)
        have hdl : dropsOf (evs (L.take j)) ≤ j := by
          have h1 := drops_rest (evs (L.take j))
          have h2 : (evs (L.take j)).length = j := by rw [evs, List.length_map, List.length_take]; omega
          omega
        clear hb hr hlt
        obtain ⟨y, hy⟩ : ∃ y, L[j] = y := ⟨_, rfl⟩
        rw [hy] at c0 c1 c2 c3 c4 c5 c6 c7 DT
        clear hy
        generalize dropsOf (evs (L.take j)) = m at hdl DT
        obtain ⟨⟨r, n, t, kd, dd, fl, tx, gn⟩, gp, gc⟩ := y
        simp only at c0 c1 c2 c3 c4 c5 c6 c7 DT
        have BA := Lib.hid (thenBelow BB.out (below_alloc wr (.cells #[.int .i64 r, .int .i64 n, .int .i64 t, .int .i64 kd, .string dd, .int .i64 fl, .string tx, .slice gp gn.length gc] 35)))
        by_cases hk : kd = 2
        · have D2 : Hid (dropsOf (evs (L.take (j + 1))) = m + 1) := by rw [DT.out, if_pos hk]; exact Lib.hid rfl
          clear DT
          subst hk
          go_wp2
          go_roundw
          case rel => exact ⟨j + 1, by omega, by rw [D2.out]; go_num, by go_num, by simpa using BA.out⟩
          case measure => simp [intOf]; omega
        · have D2 : Hid (dropsOf (evs (L.take (j + 1))) = m) := by rw [DT.out, if_neg hk]; exact Lib.hid rfl
          clear DT
          go_wp2
          go_roundw
          case rel => exact ⟨j + 1, by omega, by rw [D2.out], by go_num, by simpa using BA.out⟩
          case measure => simp [intOf]; omega
      · obtain rfl : j = L.length := by omega
        have hjl' : ¬ ((L.length : Nat) : Int) < L.length := by omega
        have BC := Lib.hid (thenBelow B8.out BB.out)
        have P9 := Lib.hid (P8.out.later BB.out); have Q9 := Lib.hid (Q8.out.later BB.out); have A9 := Lib.hid (E98.out.below BB.out); have A8 := Lib.hid (E8.out.below BB.out)
        have BW := Lib.hid (thenBelow B6.out BC.out)
        have EVr := Lib.hid (EV.out.below BW.out); have EWr := Lib.hid (EW.out.below BW.out)
        clear hb P8 Q8 E98 E8 P6 Q6 BC BB B8 B7
        rw [List.take_length]
        go_wp2_with fail
        rename_i K hK
        have D0 : Below wr.heap.size wr wr.drew := to_drew (Below.refl _ _)
        have P10 := Lib.hid (P9.out.later D0); have Q10 := Lib.hid (Q9.out.later D0); have A91 := Lib.hid (A9.out.below D0); have A81 := Lib.hid (A8.out.below D0); have EL := Lib.hid (EVr.out.below D0); have EM := Lib.hid (EWr.out.below D0); have BD := Lib.hid (thenBelow BW.out D0)
        have l9 : K9.length ≤ 1000 := by have h1 := congrArg List.length HK9.out; simp only [evs, List.length_map] at h1; omega
        have l8 : K8.length ≤ 1000 := by have h1 := congrArg List.length HK8.out; simp only [evs, List.length_map] at h1; omega
        have bl : (behindOf (evs L) (evs M)).length ≤ 1000 := by have h1 := behindOf_len (evs L) (evs M); simp only [evs, List.length_map] at h1 ⊢; omega
        have BG : Hid (∀ e ∈ behindOf (evs L) (evs M), e.gone.length ≤ 1000) := Lib.hid fun e he => by
          rcases behindOf_mem _ _ e he with h | h
          · exact HGE.out e h
          · exact HGE2.out e h
        have T1 : Hid (∀ U, Below wr.drew.heap.size wr.drew U → Calls Try.prog 8 #[.slice q9 K9.length c9, .slice q8 K8.length c8] U (Tells U (evs K9 = evs K8))) := Lib.hid fun U hU => refSameX_is q9 c9 K9 q8 c8 K8 U (A91.out.below hU) (A81.out.below hU) l9 l8 (gone_of HK9.out SG.out) (gone_of HK8.out SG.out)
        have T2 : Hid (∀ U, Below wr.drew.heap.size wr.drew U → Calls Try.prog 10 #[.agg (pcs (.slice p L.length c) F), .agg (pcs (.slice q M.length d) G)] U (PastR U (behindOf (evs L) (evs M)) (fun i => max (F i) (G i)))) := Lib.hid fun U hU => join_is p c L F q d M G U (EL.out.below hU) HO.out (by omega) HG.out (EM.out.below hU) HO2.out (by omega) HG2.out
        have T3 : Hid (∀ U, Below wr.drew.heap.size wr.drew U → Calls Try.prog 11 #[.agg (pcs (.slice p L.length c) F), .agg (pcs (.slice q M.length d) G)] U (JoinS U (behindOf (evs L) (evs M)) (fun i => max (F i) (G i)))) := Lib.hid fun U hU => refJoinP_is p c L F q d M G U (EL.out.below hU) HPC.out (by omega) (EM.out.below hU) (by omega)
        have T5 : Hid (∀ U, Below wr.drew.heap.size wr.drew U → Calls Try.prog 12 #[.agg (pcs (.slice p L.length c) F)] U (fun e w' => e = .returned (.int .i64 (dropsOf (evs L) : Nat)) ∧ Below U.heap.size U w')) := Lib.hid fun U hU => drops_is p c L F U (EL.out.below hU) (by omega)
        have T6 : Hid (∀ U, Below wr.drew.heap.size wr.drew U → Calls Try.prog 13 #[.agg (pcs (.slice p L.length c) F), .agg (pcs (.slice q M.length d) G)] U (Tells U (veq F G = true ∧ evs L = evs M))) := Lib.hid fun U hU => sameP_is p c L q d M F G U (EL.out.below hU) (EM.out.below hU) (by omega) (by omega) HG.out HG2.out
        have T7 : Hid (∀ U, Below wr.drew.heap.size wr.drew U → Calls Try.prog 9 #[.agg (pcs (.slice p L.length c) F), .agg (pcs (.slice q M.length d) G)] U (Tells U (veq F G = true ∧ evs L = evs M))) := Lib.hid fun U hU => refSameQ_is p c L q d M F G U (EL.out.below hU) (EM.out.below hU) (by omega) (by omega) HG.out HG2.out
        have T8 : Hid (∀ U, Below wr.drew.heap.size wr.drew U → Calls Try.prog 14 #[.slice p L.length c, .slice q M.length d] U (Tells U (evs L = evs M))) := Lib.hid fun U hU => sameE_is p c L q d M U (EL.out.below hU) (EM.out.below hU) (by omega) (by omega) HG.out HG2.out
        have T9 : Hid (∀ U, Below wr.drew.heap.size wr.drew U → Calls Try.prog 8 #[.slice p L.length c, .slice q M.length d] U (Tells U (evs L = evs M))) := Lib.hid fun U hU => refSameX_is p c L q d M U (EL.out.below hU) (EM.out.below hU) (by omega) (by omega) HG.out HG2.out
        generalize behindOf (evs L) (evs M) = be at T2 T3 BG bl
        generalize dropsOf (evs L) = dr at T5 hK ⊢
        have m0 : Below wr.drew.heap.size wr.drew wr.drew := Below.refl _ _
        refine rg_calm (by kernel_rfl) rfl (S := fun U => Below wr.drew.heap.size wr.drew U) ?_
        refine rgd_pure 0 (some 51) rfl rfl (.slice q9 K9.length c9) (by kernel_rfl) (by kernel_rfl) (by kernel_rfl) (fun _ _ _ _ h => h) (by kernel_rfl) (fun w => by kernel_rfl) m0 ?_
        refine rgd_pure 1 (some 52) rfl rfl (.slice q8 K8.length c8) (by kernel_rfl) (by kernel_rfl) (by kernel_rfl) (fun _ _ _ _ h => h) (by kernel_rfl) (fun w => by kernel_rfl) m0 ?_
        refine rgd_call 2 (some 53) (by kernel_rfl) rfl rfl (by kernel_rfl) 8 (#[.slice q9 K9.length c9, .slice q8 K8.length c8]) (by kernel_rfl) (T1.out _ m0) ?_
        rintro _ y1 hy
        obtain ⟨rfl, b1⟩ := hy.yes (HK9.out.trans HK8.out.symm)
        have m1 : Below wr.drew.heap.size wr.drew y1 := thenBelow m0 b1
        refine ⟨_, rfl, m1, ?_⟩
        refine rgd_pure 3 (some 54) rfl rfl (.bool true) (by kernel_rfl) (by kernel_rfl) (by kernel_rfl) (fun _ _ _ _ h => h) (by kernel_rfl) (fun w => by kernel_rfl) m1 ?_
        refine rgd_pure 4 (some 55) rfl rfl (.bool bb) (by kernel_rfl) (by kernel_rfl) (by kernel_rfl) (fun _ _ _ _ h => h) (by kernel_rfl) (fun w => by kernel_rfl) m1 ?_
        refine rgd_pure 5 (some 56) rfl rfl (.bool bb) (by kernel_rfl) (by kernel_rfl) (by kernel_rfl) (fun _ _ _ _ h => h) (by kernel_rfl) (fun w => by kernel_rfl) m1 ?_
        refine rgd_pure 6 (some 57) rfl rfl (.bool true) (by kernel_rfl) (by kernel_rfl) (by kernel_rfl) (fun _ _ _ _ h => h) (by kernel_rfl) (exec_eqlT _ _ _ rfl bb (by kernel_rfl) (by kernel_rfl)) m1 ?_
        refine rgd_pure 7 (some 58) rfl rfl (.bool true) (by kernel_rfl) (by kernel_rfl) (by kernel_rfl) (fun _ _ _ _ h => h) (by kernel_rfl) (exec_pickT _ _ _ rfl _ (by kernel_rfl) (by kernel_rfl)) m1 ?_
        refine rgd_pure 8 (some 59) rfl rfl (.bool true) (by kernel_rfl) (by kernel_rfl) (by kernel_rfl) (fun _ _ _ _ h => h) (by kernel_rfl) (fun w => by kernel_rfl) m1 ?_
        refine rgd_pureS 9 (some 60) rfl rfl (.agg (pcs (.slice p L.length c) F)) (by kernel_rfl) (by kernel_rfl) (by kernel_rfl) (fun _ _ _ _ h => h) (by kernel_rfl) (fun U hU => exec_gload 26 _ rfl g4 0 (by kernel_rfl) _ (P10.out.later hU).whole Try.underlying26 rfl (sizePl _ F)) m1 ?_
        refine rgd_pureS 10 (some 61) rfl rfl (.agg (pcs (.slice q M.length d) G)) (by kernel_rfl) (by kernel_rfl) (by kernel_rfl) (fun _ _ _ _ h => h) (by kernel_rfl) (fun U hU => exec_gload 26 _ rfl g5 0 (by kernel_rfl) _ (Q10.out.later hU).whole Try.underlying26 rfl (sizePl _ G)) m1 ?_
        refine rgd_pureS 12 (some 63) rfl rfl (.agg (pcs (.slice p L.length c) F)) (by kernel_rfl) (by kernel_rfl) (by kernel_rfl) (fun _ _ _ _ h => h) (by kernel_rfl) (fun U hU => exec_gload 26 _ rfl g4 0 (by kernel_rfl) _ (P10.out.later hU).whole Try.underlying26 rfl (sizePl _ F)) m1 ?_
        refine rgd_pureS 13 (some 64) rfl rfl (.agg (pcs (.slice q M.length d) G)) (by kernel_rfl) (by kernel_rfl) (by kernel_rfl) (fun _ _ _ _ h => h) (by kernel_rfl) (fun U hU => exec_gload 26 _ rfl g5 0 (by kernel_rfl) _ (Q10.out.later hU).whole Try.underlying26 rfl (sizePl _ G)) m1 ?_
        refine rgd_call 11 (some 62) (by kernel_rfl) rfl rfl (by kernel_rfl) 10 (#[.agg (pcs (.slice p L.length c) F), .agg (pcs (.slice q M.length d) G)]) (by kernel_rfl) (T2.out _ m1) ?_
        rintro _ y2 ⟨v2, N2, rfl, hN2, eN2, b2⟩
        obtain ⟨p2, c2, rfl, _, EN2, _⟩ := hN2.at
        have m2 : Below wr.drew.heap.size wr.drew y2 := thenBelow m1 b2
        refine ⟨_, rfl, m2, ?_⟩
        refine rgd_call 14 (some 65) (by kernel_rfl) rfl rfl (by kernel_rfl) 11 (#[.agg (pcs (.slice p L.length c) F), .agg (pcs (.slice q M.length d) G)]) (by kernel_rfl) (T3.out _ m2) ?_
        rintro _ y3 ⟨p3, c3, N3, rfl, EN3, eN3, b3⟩
        have m3 : Below wr.drew.heap.size wr.drew y3 := thenBelow m2 b3
        refine ⟨_, rfl, m3, ?_⟩
        have n2 : N2.length ≤ 1000 := by have h1 := congrArg List.length eN2; simp only [evs, List.length_map] at h1; omega
        have n3 : N3.length ≤ 1000 := by have h1 := congrArg List.length eN3; simp only [evs, List.length_map] at h1; omega
        refine rgd_call 15 (some 66) (by kernel_rfl) rfl rfl (by kernel_rfl) 9 (#[.agg (pcs (.slice p2 N2.length c2) (fun i => max (F i) (G i))), .agg (pcs (.slice p3 N3.length c3) (fun i => max (F i) (G i)))]) (by kernel_rfl) (refSameQ_is p2 c2 N2 p3 c3 N3 (fun i => max (F i) (G i)) (fun i => max (F i) (G i)) y3 (EN2.below b3) EN3 n2 n3 (gone_of eN2 BG.out) (gone_of eN3 BG.out)) ?_
        rintro _ y4 hy
        obtain ⟨rfl, b4⟩ := hy.yes ⟨veq_self _, eN2.trans eN3.symm⟩
        have m4 : Below wr.drew.heap.size wr.drew y4 := thenBelow m3 b4
        refine ⟨_, rfl, m4, ?_⟩
        refine rgd_pure 16 (some 67) rfl rfl (.bool true) (by kernel_rfl) (by kernel_rfl) (by kernel_rfl) (fun _ _ _ _ h => h) (by kernel_rfl) (exec_pickT _ _ _ rfl _ (by kernel_rfl) (by kernel_rfl)) m4 ?_
        refine rgd_pure 17 (some 68) rfl rfl (.bool true) (by kernel_rfl) (by kernel_rfl) (by kernel_rfl) (fun _ _ _ _ h => h) (by kernel_rfl) (fun w => by kernel_rfl) m4 ?_
        refine rgd_pureS 18 (some 69) rfl rfl (.agg (pcs (.slice p L.length c) F)) (by kernel_rfl) (by kernel_rfl) (by kernel_rfl) (fun _ _ _ _ h => h) (by kernel_rfl) (fun U hU => exec_gload 26 _ rfl g4 0 (by kernel_rfl) _ (P10.out.later hU).whole Try.underlying26 rfl (sizePl _ F)) m4 ?_
        refine rgd_pure 20 (some 71) rfl rfl (.int .i64 (dr : Nat)) (by kernel_rfl) (by kernel_rfl) (by kernel_rfl) (fun _ _ _ _ h => h) (by kernel_rfl) (fun w => by kernel_rfl) m4 ?_
        refine rgd_call 19 (some 70) (by kernel_rfl) rfl rfl (by kernel_rfl) 12 (#[.agg (pcs (.slice p L.length c) F)]) (by kernel_rfl) (T5.out _ m4) ?_
        rintro _ y5 ⟨rfl, b5⟩
        have m5 : Below wr.drew.heap.size wr.drew y5 := thenBelow m4 b5
        refine ⟨_, rfl, m5, ?_⟩
        refine rgd_pure 21 (some 72) rfl rfl (.bool true) (by kernel_rfl) (by kernel_rfl) (by kernel_rfl) (fun _ _ _ _ h => h) (by kernel_rfl) (exec_eqlI _ _ _ _ rfl ((dr : Nat) : Int) (by kernel_rfl) (by kernel_rfl)) m5 ?_
        refine rgd_pure 22 (some 73) rfl rfl (.bool true) (by kernel_rfl) (by kernel_rfl) (by kernel_rfl) (fun _ _ _ _ h => h) (by kernel_rfl) (exec_pickT _ _ _ rfl _ (by kernel_rfl) (by kernel_rfl)) m5 ?_
        refine rgd_pure 23 (some 74) rfl rfl (.bool true) (by kernel_rfl) (by kernel_rfl) (by kernel_rfl) (fun _ _ _ _ h => h) (by kernel_rfl) (fun w => by kernel_rfl) m5 ?_
        refine rgd_pureS 24 (some 75) rfl rfl (.agg (pcs (.slice p L.length c) F)) (by kernel_rfl) (by kernel_rfl) (by kernel_rfl) (fun _ _ _ _ h => h) (by kernel_rfl) (fun U hU => exec_gload 26 _ rfl g4 0 (by kernel_rfl) _ (P10.out.later hU).whole Try.underlying26 rfl (sizePl _ F)) m5 ?_
        refine rgd_pureS 25 (some 76) rfl rfl (.agg (pcs (.slice q M.length d) G)) (by kernel_rfl) (by kernel_rfl) (by kernel_rfl) (fun _ _ _ _ h => h) (by kernel_rfl) (fun U hU => exec_gload 26 _ rfl g5 0 (by kernel_rfl) _ (Q10.out.later hU).whole Try.underlying26 rfl (sizePl _ G)) m5 ?_
        refine rgd_pureS 27 (some 78) rfl rfl (.agg (pcs (.slice p L.length c) F)) (by kernel_rfl) (by kernel_rfl) (by kernel_rfl) (fun _ _ _ _ h => h) (by kernel_rfl) (fun U hU => exec_gload 26 _ rfl g4 0 (by kernel_rfl) _ (P10.out.later hU).whole Try.underlying26 rfl (sizePl _ F)) m5 ?_
        refine rgd_pureS 28 (some 79) rfl rfl (.agg (pcs (.slice q M.length d) G)) (by kernel_rfl) (by kernel_rfl) (by kernel_rfl) (fun _ _ _ _ h => h) (by kernel_rfl) (fun U hU => exec_gload 26 _ rfl g5 0 (by kernel_rfl) _ (Q10.out.later hU).whole Try.underlying26 rfl (sizePl _ G)) m5 ?_
        refine rgd_call 26 (some 77) (by kernel_rfl) rfl rfl (by kernel_rfl) 13 (#[.agg (pcs (.slice p L.length c) F), .agg (pcs (.slice q M.length d) G)]) (by kernel_rfl) (T6.out _ m5) ?_
        rintro _ y6 ⟨t7, rfl, ht7, b6⟩
        have m6 : Below wr.drew.heap.size wr.drew y6 := thenBelow m5 b6
        refine ⟨_, rfl, m6, ?_⟩
        refine rgd_call 29 (some 80) (by kernel_rfl) rfl rfl (by kernel_rfl) 9 (#[.agg (pcs (.slice p L.length c) F), .agg (pcs (.slice q M.length d) G)]) (by kernel_rfl) (T7.out _ m6) ?_
        rintro _ y7 hy
        obtain ⟨rfl, b7⟩ := Tells.two ht7 hy
        have m7 : Below wr.drew.heap.size wr.drew y7 := thenBelow m6 b7
        refine ⟨_, rfl, m7, ?_⟩
        refine rgd_pure 30 (some 81) rfl rfl (.bool true) (by kernel_rfl) (by kernel_rfl) (by kernel_rfl) (fun _ _ _ _ h => h) (by kernel_rfl) (exec_eqlT _ _ _ rfl t7 (by kernel_rfl) (by kernel_rfl)) m7 ?_
        refine rgd_pure 31 (some 82) rfl rfl (.bool true) (by kernel_rfl) (by kernel_rfl) (by kernel_rfl) (fun _ _ _ _ h => h) (by kernel_rfl) (exec_pickT _ _ _ rfl _ (by kernel_rfl) (by kernel_rfl)) m7 ?_
        refine rgd_pure 32 (some 83) rfl rfl (.bool true) (by kernel_rfl) (by kernel_rfl) (by kernel_rfl) (fun _ _ _ _ h => h) (by kernel_rfl) (fun w => by kernel_rfl) m7 ?_
        refine rgd_pure 33 (some 84) rfl rfl (.pointer (some ⟨g4, 0, none⟩)) (by kernel_rfl) (by kernel_rfl) (by kernel_rfl) (fun _ _ _ _ h => h) (by kernel_rfl) (fun w => by kernel_rfl) m7 ?_
        refine rgd_load 34 (some 85) rfl rfl (by kernel_rfl) (by kernel_rfl) (by kernel_rfl) (fun _ _ _ _ h => h) (by kernel_rfl) _ _ rfl Try.underlying22 rfl ⟨g4, 0, none⟩ (.slice p L.length c) (by kernel_rfl) (fun U hU => (P10.out.later hU).slot) m7 ?_
        refine rgd_pure 35 (some 86) rfl rfl (.pointer (some ⟨g5, 0, none⟩)) (by kernel_rfl) (by kernel_rfl) (by kernel_rfl) (fun _ _ _ _ h => h) (by kernel_rfl) (fun w => by kernel_rfl) m7 ?_
        refine rgd_load 36 (some 87) rfl rfl (by kernel_rfl) (by kernel_rfl) (by kernel_rfl) (fun _ _ _ _ h => h) (by kernel_rfl) _ _ rfl Try.underlying22 rfl ⟨g5, 0, none⟩ (.slice q M.length d) (by kernel_rfl) (fun U hU => (Q10.out.later hU).slot) m7 ?_
        refine rgd_pure 38 (some 89) rfl rfl (.pointer (some ⟨g4, 0, none⟩)) (by kernel_rfl) (by kernel_rfl) (by kernel_rfl) (fun _ _ _ _ h => h) (by kernel_rfl) (fun w => by kernel_rfl) m7 ?_
        refine rgd_load 39 (some 90) rfl rfl (by kernel_rfl) (by kernel_rfl) (by kernel_rfl) (fun _ _ _ _ h => h) (by kernel_rfl) _ _ rfl Try.underlying22 rfl ⟨g4, 0, none⟩ (.slice p L.length c) (by kernel_rfl) (fun U hU => (P10.out.later hU).slot) m7 ?_
        refine rgd_pure 40 (some 91) rfl rfl (.pointer (some ⟨g5, 0, none⟩)) (by kernel_rfl) (by kernel_rfl) (by kernel_rfl) (fun _ _ _ _ h => h) (by kernel_rfl) (fun w => by kernel_rfl) m7 ?_
        refine rgd_load 41 (some 92) rfl rfl (by kernel_rfl) (by kernel_rfl) (by kernel_rfl) (fun _ _ _ _ h => h) (by kernel_rfl) _ _ rfl Try.underlying22 rfl ⟨g5, 0, none⟩ (.slice q M.length d) (by kernel_rfl) (fun U hU => (Q10.out.later hU).slot) m7 ?_
        refine rgd_call 37 (some 88) (by kernel_rfl) rfl rfl (by kernel_rfl) 14 (#[.slice p L.length c, .slice q M.length d]) (by kernel_rfl) (T8.out _ m7) ?_
        rintro _ y8 ⟨t8, rfl, ht8, b8⟩
        have m8 : Below wr.drew.heap.size wr.drew y8 := thenBelow m7 b8
        refine ⟨_, rfl, m8, ?_⟩
        refine rgd_call 42 (some 93) (by kernel_rfl) rfl rfl (by kernel_rfl) 8 (#[.slice p L.length c, .slice q M.length d]) (by kernel_rfl) (T9.out _ m8) ?_
        rintro _ y9 hy
        obtain ⟨rfl, b9⟩ := Tells.two ht8 hy
        have m9 : Below wr.drew.heap.size wr.drew y9 := thenBelow m8 b9
        refine ⟨_, rfl, m9, ?_⟩
        refine rgd_pure 43 (some 94) rfl rfl (.bool true) (by kernel_rfl) (by kernel_rfl) (by kernel_rfl) (fun _ _ _ _ h => h) (by kernel_rfl) (exec_eqlT _ _ _ rfl t8 (by kernel_rfl) (by kernel_rfl)) m9 ?_
        refine rgd_pure 44 (some 95) rfl rfl (.bool true) (by kernel_rfl) (by kernel_rfl) (by kernel_rfl) (fun _ _ _ _ h => h) (by kernel_rfl) (exec_pickT _ _ _ rfl _ (by kernel_rfl) (by kernel_rfl)) m9 ?_
        refine rgd_pure 45 (some 96) rfl rfl (.bool true) (by kernel_rfl) (by kernel_rfl) (by kernel_rfl) (fun _ _ _ _ h => h) (by kernel_rfl) (fun w => by kernel_rfl) m9 ?_
        refine rgd_call 46 (some 97) (by kernel_rfl) rfl rfl (by kernel_rfl) 5 (#[]) (by kernel_rfl) (awake13 y9) ?_
        rintro _ y10 ⟨rfl, b10⟩
        have m10 : Below wr.drew.heap.size wr.drew y10 := thenBelow m9 b10
        refine ⟨_, rfl, m10, ?_⟩
        refine rgd_pure 47 (some 98) rfl rfl (.bool true) (by kernel_rfl) (by kernel_rfl) (by kernel_rfl) (fun _ _ _ _ h => h) (by kernel_rfl) (exec_pickT _ _ _ rfl _ (by kernel_rfl) (by kernel_rfl)) m10 ?_
        refine rgd_pure 48 (some 8) rfl rfl (.bool true) (by kernel_rfl) (by kernel_rfl) (by kernel_rfl) (fun _ _ _ _ h => h) (by kernel_rfl) (fun w => by kernel_rfl) m10 ?_
        have KE : K { tmps := #[.agg (pcs (.slice p L.length c) F), .agg (pcs (.slice q M.length d) G), .agg (vf v), .int .i64 most, .pointer (some ⟨g4, 0, none⟩), .pointer (some ⟨g5, 0, none⟩), .pointer (some ⟨g6, 0, none⟩), undef, .bool true, .slice q9 K9.length c9, .bool bb, .slice q8 K8.length c8, .bool bb, .int .i64 (dr : Nat), undef, u15, .pointer (some ⟨g4, 0, none⟩), .slice p L.length c, .pointer (some ⟨g5, 0, none⟩), .slice q M.length d, .slice (some ⟨w3.heap.size, 0, none⟩) 2 2, .bool true, .bool false, undef, .tuple #[.slice q9 K9.length c9, .bool bb], .agg (pcs (.slice p L.length c) F), .agg (vf v), .int .i64 most, .tuple #[.slice q9 K9.length c9, .bool bb], .slice q9 K9.length c9, .bool bb, .tuple #[.slice q8 K8.length c8, .bool bb], .agg (pcs (.slice p L.length c) F), .agg (vf v), .int .i64 most, .tuple #[.slice q8 K8.length c8, .bool bb], .slice q8 K8.length c8, .bool bb, .pointer (some ⟨g4, 0, none⟩), .slice p L.length c, .int .i64 (L.length : Int), .int .i64 (L.length : Int), .bool false, u43, u44, u45, u46, u47, u48, u49, u50, .slice q9 K9.length c9, .slice q8 K8.length c8, .bool true, .bool true, .bool bb, .bool bb, .bool true, .bool true, .bool true, .agg (pcs (.slice p L.length c) F), .agg (pcs (.slice q M.length d) G), .agg (pcs (.slice p2 N2.length c2) (fun i => max (F i) (G i))), .agg (pcs (.slice p L.length c) F), .agg (pcs (.slice q M.length d) G), .agg (pcs (.slice p3 N3.length c3) (fun i => max (F i) (G i))), .bool true, .bool true, .bool true, .agg (pcs (.slice p L.length c) F), .int .i64 (dr : Nat), .int .i64 (dr : Nat), .bool true, .bool true, .bool true, .agg (pcs (.slice p L.length c) F), .agg (pcs (.slice q M.length d) G), .bool t7, .agg (pcs (.slice p L.length c) F), .agg (pcs (.slice q M.length d) G), .bool t7, .bool true, .bool true, .bool true, .pointer (some ⟨g4, 0, none⟩), .slice p L.length c, .pointer (some ⟨g5, 0, none⟩), .slice q M.length d, .bool t8, .pointer (some ⟨g4, 0, none⟩), .slice p L.length c, .pointer (some ⟨g5, 0, none⟩), .slice q M.length d, .bool t8, .bool true, .bool true, .bool true, .bool true, .bool true], defers := [] } y10 := by
          refine hK _ _ ?_
          have BU := Lib.hid (thenBelow BD.out m10)
          clear hK T1 T2 T3 T5 T6 T7 T8 T9
          go_wp2
          go_ret
          exact ⟨rfl, BU.out⟩
        exact wpAnyH_done (by kernel_rfl) (Eq.mp (by kernel_rfl) KE) _
end Go.Proofs.Ytimfcedkmdbnfaa
