/- The statement AuditSums, proved for every input that its row reads: part 47 of 54. -/
import Derived.Test.YtehocohpfgabiaaDoorPackAuditSums44
import Derived.Test.YtehocohpfgabiaaDoorPackAuditSums45
import Derived.Test.YtehocohpfgabiaaDoorPackAuditSums46
import Derived.Test.YtehocohpfgabiaaDoorPackAuditSums12
/- The walk of AuditSums. -/
namespace Go.Proofs.YtehocohpfgabiaaDoor
open Go Go.RowKit
set_option linter.unusedVariables false
set_option maxRecDepth 1000000

theorem small_rep (rep : Int) : ∃ i : Nat, i < 64 ∧ wrap64 ((IntKind.u64.wrap rep).tmod 64) = (i : Int) := by
  have e : IntKind.u64.wrap rep = rep % 18446744073709551616 := by simp [IntKind.wrap, IntKind.bits, IntKind.signed]
  have h0 : 0 ≤ IntKind.u64.wrap rep := by rw [e]; omega
  generalize IntKind.u64.wrap rep = X at h0
  rw [Int.tmod_eq_emod_of_nonneg h0]
  refine ⟨(X % 64).toNat, by omega, ?_⟩
  unfold wrap64
  omega
set_option maxHeartbeats 4000000 in
theorem auditSums_walk (F : Nat → Int) (q : Option Addr) (d : Nat) (L : List Wr) (p : Option Addr) (c : Nat) (E : List EvP) (fl : Nat → Int) (rep : Int) (W : World) (hw : WrsAt W q L) (hE : EvsAt W p E) (hrep : (Lit.int .i64 rep).wf = true) (hT : Shapes W) (hWd : Words W) :
    Calls Tryd.prog 3 #[.agg (scs F (.slice q L.length d)), .agg (pcs (.slice p E.length c) fl), .int .i64 rep] W (Yes W) := by
  have HW := Lib.hid hw; have HE := Lib.hid hE; have HT := Lib.hid hT; have HD := Lib.hid hWd
  clear hw hE hT hWd
  have AWK : Hid (∀ V : World, Below W.heap.size W V → Calls Tryd.prog 6 #[] V (YesA V)) := Lib.hid fun V hV => awake36 V (HT.out.below hV) (HD.out.later hV)
  clear HT HD
  go_enter Tryd.func3, Tryd.ntmps3
  go_wp2_with (refine wpList_gbox rfl _ rfl (scs F (.slice q L.length d)) rfl ?_)
  intro g3 w1 l2 h2 hb1
  have S1 : Hid (Sx w1 g3 F (.slice q L.length d)) := Lib.hid h2
  have B1 := Lib.hid hb1
  clear h2 hb1
  go_wp2_with (refine wpList_gbox rfl _ rfl (pcs (.slice p E.length c) fl) rfl ?_)
  intro g4 w2 l3 h3 hb2
  have P2 : Hid (Px w2 g4 (.slice p E.length c) fl) := Lib.hid h3
  have S2 := Lib.hid (S1.out.later hb2); have B2 := Lib.hid (thenBelow B1.out hb2)
  have SW := Lib.hid (S2.out.whole)
  clear h3 hb2 S1 B1
  go_wp2_with (refine wpList_gload (t := 26) rfl _ rfl g3 0 rfl _ SW.out _ Tryd.underlying26 rfl (sizeStl _ _) ?_)
  refine (smallS_is F q d L w2 (HW.out.below B2.out)).mono ?_
  rintro e w3 ⟨b9, rfl, hb9, hb3⟩
  have S3 := Lib.hid (S2.out.later hb3); have P3 := Lib.hid (P2.out.later hb3); have B3 := Lib.hid (thenBelow B2.out hb3)
  clear hb3 S2 P2 B2 SW
  cases b9 with
  | false =>
    clear hb9
    have AW := Lib.hid (AWK.out w3 B3.out)
    go_wp2_with fail
    refine AW.out.mono ?_
    rintro e w99 ⟨rfl, hb99⟩
    have B99 := Lib.hid (thenBelow B3.out hb99)
    clear hb99 AW
    go_wp2
    go_ret
    exact ⟨rfl, B99.out⟩
  | true =>
  have SM : L.length ≤ 120 := hb9 rfl
  clear hb9
  have k0 := P3.out.slot
  have b3 := below_alloc w3 (.cells #[.slice p E.length c] 27)
  have n3 := heap_alloc_new w3 (.cells #[.slice p E.length c] 27)
  have E3 := Lib.hid (HE.out.below (thenBelow B3.out b3))
  have M3 := Lib.hid (And.intro (S3.out.later b3) (And.intro (P3.out.later b3) (thenBelow B3.out b3)))
  have FW : Hid (Calls Tryd.prog 5 #[.slice (some ⟨w3.heap.size, 0, none⟩) 1 1] (w3.alloc (.cells #[.slice p E.length c] 27)) (FewR (w3.alloc (.cells #[.slice p E.length c] 27)) [⟨p, c, E⟩])) :=
    Lib.hid (fewE_is w3.heap.size 1 [⟨p, c, E⟩] _ (fun i hi => by
      obtain rfl : i = 0 := by simpa using hi
      exact ⟨(cell_of_row _ _ 0 _ _ _ n3).trans rfl, E3.out⟩) (by simp))
  clear b3 n3 S3 P3 B3
  go_wp2_with fail
  generalize w3.alloc (.cells #[.slice p E.length c] 27) = w4 at M3 E3 FW ⊢
  refine FW.out.mono ?_
  rintro e w5 ⟨fw, rfl, hfw, hb5⟩
  have S5 := Lib.hid (M3.out.1.later hb5); have P5 := Lib.hid (M3.out.2.1.later hb5); have B5 := Lib.hid (thenBelow M3.out.2.2 hb5)
  clear FW hb5 M3 E3 k0
  cases fw with
  | false =>
    clear hfw
    have AW := Lib.hid (AWK.out w5 B5.out)
    go_wp2_with fail
    refine AW.out.mono ?_
    rintro e w99 ⟨rfl, hb99⟩
    have B99 := Lib.hid (thenBelow B5.out hb99)
    clear hb99 AW
    go_wp2
    go_ret
    exact ⟨rfl, B99.out⟩
  | true =>
  have h80 : E.length ≤ 80 := (hfw rfl 0 (by simp)).1
  clear hfw
  have SW := Lib.hid (S5.out.whole); have PW := Lib.hid P5.out.whole
  have SU := Lib.hid (sums_is F q d L p c E fl w5 (HW.out.below B5.out) (HE.out.below B5.out) (by omega) (by omega))
  go_wp2_with (first | refine wpList_gload (t := 26) rfl _ rfl g3 0 rfl _ SW.out _ Tryd.underlying26 rfl (sizeStl _ _) ?_ | refine wpList_gload (t := 29) rfl _ rfl g4 0 rfl _ PW.out _ Tryd.underlying29 rfl (sizePl _ _) ?_)
  obtain ⟨i0, hi0, hI⟩ := small_rep rep
  rw [hI]
  clear hI
  refine SU.out.mono ?_
  rintro e w6 ⟨rfl, hb6⟩
  have S6 := Lib.hid (S5.out.later hb6); have P6 := Lib.hid (P5.out.later hb6); have B6 := Lib.hid (thenBelow B5.out hb6)
  have XI : Hid (cntV (dotsW L) i0 = ((numD (dotsW L) i0 : Nat) : Int)) := rfl
  have YI : Hid (cntV (dotsE E) i0 = ((numD (dotsE E) i0 : Nat) : Int)) := rfl
  clear hb6 SU SW PW S5 P5 B5
  dsimp only
  go_wp2_with (refine wpList_valloc vecI zeroV rfl rfl ?_)
  intro g7 w7 l7 r7 hb7
  have S7 := Lib.hid (S6.out.later hb7); have P7 := Lib.hid (P6.out.later hb7); have B7 := Lib.hid (thenBelow B6.out hb7); have V7 := Lib.hid r7
  have lW7 := Nat.le_trans B6.out.size l7
  have n37 : g3 < g7 := Nat.lt_of_lt_of_le S6.out.lt l7
  have n47 : g4 < g7 := Nat.lt_of_lt_of_le P6.out.lt l7
  clear hb7 r7 S6 P6 B6
  go_wp2_with (refine wpList_valloc vecI zeroV rfl rfl ?_)
  intro g8 w8 l8 r8 hb8
  have S8 := Lib.hid (S7.out.later hb8); have P8 := Lib.hid (P7.out.later hb8); have B8 := Lib.hid (thenBelow B7.out hb8); have V8 := Lib.hid (V7.out.later hb8); have U8 := Lib.hid r8
  have lW8 := Nat.le_trans B7.out.size l8
  have n78 : g7 < g8 := Nat.lt_of_lt_of_le V7.out.lt l8
  clear hb8 r8 S7 P7 B7 V7
  go_wp2_with (refine wpList_vstore vecI rfl _ _ rfl g7 rfl _ rfl _ _ V8.out ?_)
  intro w9 r9 gr9 _
  have S9 := Lib.hid (S8.out.kept gr9 (by simp; omega)); have P9 := Lib.hid (P8.out.kept gr9 (by simp; omega)); have B9 := Lib.hid (B8.out.trans (grown_below gr9 B8.out.size lW7)); have V9 := Lib.hid r9; have U9 := Lib.hid (U8.out.kept gr9 (by simp; omega))
  clear r9 gr9 S8 P8 B8 V8 U8
  go_wp2_with (refine wpList_vstore vecI rfl _ _ rfl g8 rfl _ rfl _ _ U9.out ?_)
  intro w10 r10 gr10 _
  have S10 := Lib.hid (S9.out.kept gr10 (by simp; omega)); have P10 := Lib.hid (P9.out.kept gr10 (by simp; omega)); have B10 := Lib.hid (B9.out.trans (grown_below gr10 B9.out.size lW8)); have V10 := Lib.hid (V9.out.kept gr10 (by simp; omega)); have U10 := Lib.hid r10
  clear r10 gr10 S9 P9 B9 V9 U9
  have SW := Lib.hid (S10.out.whole); have PW := Lib.hid P10.out.whole
  have RS := Lib.hid (refSums_is F q d L p c E fl i0 w10 (HW.out.below B10.out) (HE.out.below B10.out) (by omega) (by omega))
  go_wp2_with (first | refine wpList_gload (t := 26) rfl _ rfl g3 0 rfl _ SW.out _ Tryd.underlying26 rfl (sizeStl _ _) ?_ | refine wpList_gload (t := 29) rfl _ rfl g4 0 rfl _ PW.out _ Tryd.underlying29 rfl (sizePl _ _) ?_)
  refine RS.out.mono ?_
  rintro e w11 ⟨rfl, hb11⟩
  have P11 := Lib.hid (P10.out.later hb11); have B11 := Lib.hid (thenBelow B10.out hb11); have V11 := Lib.hid (V10.out.later hb11); have U11 := Lib.hid (U10.out.later hb11)
  clear hb11 RS SW PW S10 P10 B10 V10 U10 HW
  obtain ⟨X, hX⟩ : ∃ X, cntV (dotsW L) = X := ⟨_, rfl⟩
  obtain ⟨Y, hY⟩ : ∃ Y, cntV (dotsE E) = Y := ⟨_, rfl⟩
  obtain ⟨nx, hnx⟩ : ∃ nx : Int, ((numD (dotsW L) i0 : Nat) : Int) = nx := ⟨_, rfl⟩
  obtain ⟨ny, hny⟩ : ∃ ny : Int, ((numD (dotsE E) i0 : Nat) : Int) = ny := ⟨_, rfl⟩
  rw [hX, hnx] at XI; rw [hY, hny] at YI
  rw [hX] at V11; rw [hY] at U11
  rw [hX, hY, hnx, hny]
  clear hX hY hnx hny
  dsimp only
  have PW := Lib.hid P11.out.whole
  obtain ⟨D, hD⟩ : ∃ D, oldD E = D := ⟨_, rfl⟩
  have OL : Hid (∀ V : World, Below W.heap.size W V → Calls Tryd.prog 9 #[.agg (pcs (.slice p E.length c) fl)] V (OldR V D)) := Lib.hid fun V hV => by rw [← hD]; exact oldest_is p c E fl V (HE.out.below hV) (by omega)
  have RO : Hid (∀ V : World, Below W.heap.size W V → Calls Tryd.prog 10 #[.agg (pcs (.slice p E.length c) fl)] V (OldR V D)) := Lib.hid fun V hV => by rw [← hD]; exact refOldest_is p c E fl V (HE.out.below hV) (by omega)
  clear hD HE
  obtain ⟨dr, dn, dk⟩ := D
  go_wp2_with (refine wpList_gload (t := 29) rfl _ rfl g4 0 rfl _ PW.out _ Tryd.underlying29 rfl (sizePl _ _) ?_)
  refine (OL.out w11 B11.out).mono ?_
  rintro e w12 ⟨rfl, hb12⟩
  have P12 := Lib.hid (P11.out.later hb12); have B12 := Lib.hid (thenBelow B11.out hb12); have V12 := Lib.hid (V11.out.later hb12); have U12 := Lib.hid (U11.out.later hb12)
  clear hb12 PW P11 B11 V11 U11 OL
  dsimp only
  go_wp2_with (refine wpList_galloc (t := 39) _ zeroDtA rfl rfl ?_)
  intro ga w13 la ha hb13
  have P13 := Lib.hid (P12.out.later hb13); have B13 := Lib.hid (thenBelow B12.out hb13); have V13 := Lib.hid (V12.out.later hb13); have U13 := Lib.hid (U12.out.later hb13); have A13 := Lib.hid ha
  have laW := Nat.le_trans B12.out.size la
  have na4 : g4 < ga := Nat.lt_of_lt_of_le P12.out.lt la
  have na7 : g7 < ga := Nat.lt_of_lt_of_le V12.out.lt la
  have na8 : g8 < ga := Nat.lt_of_lt_of_le U12.out.lt la
  clear hb13 ha P12 B12 V12 U12
  go_wp2_with (refine wpList_gstore (t := 39) rfl _ _ rfl ga rfl (dcs dr dn) rfl _ _ A13.out (sizeDtA _ _) rfl (dcs_one _ _) ?_)
  intro w14 h14 gr14
  have P14 := Lib.hid (P13.out.kept gr14 (by simp; omega)); have B14 := Lib.hid (B13.out.trans (grown_below gr14 B13.out.size laW)); have V14 := Lib.hid (V13.out.kept gr14 (by simp; omega)); have U14 := Lib.hid (U13.out.kept gr14 (by simp; omega)); have A14 := Lib.hid h14
  clear h14 gr14 P13 B13 V13 U13 A13
  have PW := Lib.hid P14.out.whole
  go_wp2_with (refine wpList_gload (t := 29) rfl _ rfl g4 0 rfl _ PW.out _ Tryd.underlying29 rfl (sizePl _ _) ?_)
  refine (RO.out w14 B14.out).mono ?_
  rintro e w15 ⟨rfl, hb15⟩
  have B15 := Lib.hid (thenBelow B14.out hb15); have V15 := Lib.hid (V14.out.later hb15); have U15 := Lib.hid (U14.out.later hb15); have A15 := Lib.hid ((hb15.block ga (Array.getElem?_eq_some_iff.1 A14.out).1).trans A14.out)
  clear hb15 PW P14 B14 V14 U14 A14 RO
  dsimp only
  go_wp2_with (refine wpList_galloc (t := 39) _ zeroDtA rfl rfl ?_)
  intro gb w16 lb hb hb16
  have B16 := Lib.hid (thenBelow B15.out hb16); have V16 := Lib.hid (V15.out.later hb16); have U16 := Lib.hid (U15.out.later hb16); have A16 := Lib.hid ((hb16.block ga (Array.getElem?_eq_some_iff.1 A15.out).1).trans A15.out); have D16 := Lib.hid hb
  have lbW := Nat.le_trans B15.out.size lb
  have nb7 : g7 < gb := Nat.lt_of_lt_of_le V15.out.lt lb
  have nb8 : g8 < gb := Nat.lt_of_lt_of_le U15.out.lt lb
  have nba : ga < gb := Nat.lt_of_lt_of_le (Array.getElem?_eq_some_iff.1 A15.out).1 lb
  clear hb16 hb B15 V15 U15 A15
  go_wp2_with (refine wpList_gstore (t := 39) rfl _ _ rfl gb rfl (dcs dr dn) rfl _ _ D16.out (sizeDtA _ _) rfl (dcs_one _ _) ?_)
  intro w17 h17 gr17
  have B17 := Lib.hid (B16.out.trans (grown_below gr17 B16.out.size lbW)); have V17 := Lib.hid (V16.out.kept gr17 (by simp; omega)); have U17 := Lib.hid (U16.out.kept gr17 (by simp; omega)); have A17 : Hid (w17.rangeAt ga 0 [.int .i64 dr, .int .i64 dn]) := Lib.hid (range_of_block ((gr17.block ga (Array.getElem?_eq_some_iff.1 A16.out).1 (by simp; omega)).trans A16.out)); have D17 : Hid (w17.rangeAt gb 0 [.int .i64 dr, .int .i64 dn]) := Lib.hid (range_of_block h17)
  clear h17 gr17 B16 V16 U16 A16 D16
  have cx := V17.out.cell i0 hi0
  have cy := U17.out.cell i0 hi0
  rw [XI.out] at cx; rw [YI.out] at cy
  clear XI YI
  have hi0' : (i0 : Int) < 64 := by omega
  have EQ : ∀ w : World, (binOp .eql 39 (.agg #[.int .i64 dr, .int .i64 dn]) (.agg #[.int .i64 dr, .int .i64 dn])).run Tryd.prog w = .ok (.bool true) w := fun w => by have h := eqlDt (dr, dn) (dr, dn) w; rw [(eqDt_iff (dr, dn) (dr, dn)).2 rfl] at h; exact h
  have AW := Lib.hid (AWK.out w17 B17.out)
  go_wp2_with (first | refine wpList_gloadG (t := 39) (by rfl) _ rfl ga 0 rfl _ A17.out _ Tryd.underlying39 rfl (by kernel_rfl) ?_ | refine wpList_gloadG (t := 39) (by rfl) _ rfl gb 0 rfl _ D17.out _ Tryd.underlying39 rfl (by kernel_rfl) ?_)
  refine AW.out.mono ?_
  rintro e w99 ⟨rfl, hb99⟩
  have B99 := Lib.hid (thenBelow B17.out hb99)
  clear hb99 AW
  dsimp only
  go_wp2
  go_ret
  exact ⟨rfl, B99.out⟩
end Go.Proofs.YtehocohpfgabiaaDoor
