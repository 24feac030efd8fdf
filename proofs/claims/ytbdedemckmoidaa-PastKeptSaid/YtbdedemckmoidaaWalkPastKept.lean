/- The walk of PastKept. -/
import Derived.Test.YtbdedemckmoidaaPastAwake
import Derived.Test.YtbdedemckmoidaaVecRows
import Derived.Test.YtbdedemckmoidaaPastTwo
namespace Go.Proofs.Ytbdedemckmoidaa
open Go Go.RowKit
set_option linter.unusedVariables false

set_option maxHeartbeats 20000000 in
set_option maxRecDepth 1000000 in
theorem pastKept_walk (p : Option Addr) (c : Nat) (L : List EvP) (F : Nat → Int) (most : Int) (v : Nat → Int) (W : World) (h : EvsAt W p L) (ho : ∀ a, p = some a → ∃ b o, a = ⟨b, o, none⟩) (hlc : L.length ≤ c) (hm : (Lit.int .i64 most).wf = true) (hv : Wide v) :
    Calls Try.prog 5 #[.agg (pcs (.slice p L.length c) F), .int .i64 most, .agg (vf v)] W (Yes W) := by
  have hmr := wide_wf hm
  have EV := Lib.hid h; have HO := Lib.hid ho; have HV := Lib.hid hv
  clear h ho hm hv
  go_enter Try.func5, Try.ntmps5
  go_wp2_with (refine wpList_gbox rfl _ rfl (pcs (.slice p L.length c) F) rfl ?_)
  intro g3 w1 l1 h1 hb1
  have P1 : Hid (Px w1 g3 (.slice p L.length c) F) := Lib.hid h1
  have B1 := Lib.hid hb1
  clear h1 hb1
  go_wp2_with (refine wpList_vbox vecI rfl _ rfl v rfl ?_)
  intro g5 w2 l2 rv hb2
  have B2 := Lib.hid (thenBelow B1.out hb2); have R2 := Lib.hid rv
  have P2 := Lib.hid (P1.out.later hb2)
  clear rv hb2 P1
  have s2 := P2.out.slot
  have b3 := below_alloc w2 (.cells #[.slice p L.length c] 22)
  have P3 := Lib.hid (P2.out.later b3); have R3 := Lib.hid (R2.out.later b3); have B3 := Lib.hid (thenBelow B2.out b3)
  have n3 := heap_alloc_new w2 (.cells #[.slice p L.length c] 22)
  have E3 := Lib.hid (EV.out.below B3.out)
  have FW : Hid (Calls Try.prog 7 #[.slice (some ⟨w2.heap.size, 0, none⟩) 1 1] (w2.alloc (.cells #[.slice p L.length c] 22)) (FewR (w2.alloc (.cells #[.slice p L.length c] 22)) [⟨p, c, L⟩])) :=
    Lib.hid (fewE_is w2.heap.size 1 [⟨p, c, L⟩] _ (fun i hi => by
      obtain rfl : i = 0 := by simpa using hi
      exact ⟨(cell_of_row _ _ 0 _ _ _ n3).trans rfl, E3.out⟩) (by simp))
  clear b3 n3
  go_wp2_with fail
  generalize w2.alloc (.cells #[.slice p L.length c] 22) = w3 at P3 R3 B3 E3 FW ⊢
  refine FW.out.mono ?_
  rintro e w4 ⟨fw, rfl, hfw, hb4⟩
  have P4 := Lib.hid (P3.out.later hb4); have R4 := Lib.hid (R3.out.later hb4); have B4 := Lib.hid (thenBelow B3.out hb4); have E4 := Lib.hid (E3.out.below hb4)
  clear FW hb4 P3 R3 E3 s2
  cases fw with
  | false =>
    have AW := Lib.hid (awake13 w4)
    clear hfw
    go_wp2_with fail
    refine AW.out.mono ?_
    rintro e w9 ⟨rfl, hb9⟩
    have B9 := Lib.hid (thenBelow B4.out hb9)
    clear hb9
    go_wp2
    go_ret
    exact ⟨rfl, B9.out⟩
  | true =>
    have hsm := hfw rfl 0 (by simp)
    have h80 : L.length ≤ 80 := hsm.1
    have HG : Hid (∀ x ∈ L, x.e.gone.length ≤ 1000) := Lib.hid fun x hx => Nat.le_trans (hsm.2 x hx) (by decide)
    clear hfw hsm
    go_wp2_with fail
    rename_i K hK
    have B5 := Lib.hid (to_drew B4.out); have P5 : Hid (Px w4.drew g3 (.slice p L.length c) F) := Lib.hid P4.out; have R5 : Hid (Row w4.drew g5 24 v) := Lib.hid R4.out; have E5 := Lib.hid (EV.out.below B5.out)
    have T1 := Lib.hid (fun V (hV : Below w4.drew.heap.size w4.drew V) => trim_is p c L F most V (E5.out.below hV) HO.out (by omega) HG.out hmr)
    have T2 := Lib.hid (fun V (hV : Below w4.drew.heap.size w4.drew V) => coll_is p c L F v V (E5.out.below hV) HO.out (by omega) HG.out)
    have z1 := trimOf_drops (evs L) F most; have z2 := trimOf_rest (evs L) F most; have z3 : vle F (trimOf (evs L) F most).2.2 = true := wRun_floor _ _ _ _ _
    have z6 : (trimOf (evs L) F most).2.1.length ≤ L.length := keptLen_trim L F most; have z7 : (collOf (evs L) F v).2.1.length ≤ L.length := keptLen_coll L F v
    have z4 := collOf_drops (evs L) F v; have z5 : vle F (collOf (evs L) F v).2.2 = true := wRun_floor _ _ _ _ _
    generalize (trimOf (evs L) F most).2.1 = kT at T1 T2 z1 z2 z3 z4 z5 z6 z7
    generalize (trimOf (evs L) F most).2.2 = fT at T1 T2 z1 z2 z3 z4 z5 z6 z7
    generalize (collOf (evs L) F v).2.1 = kC at T1 T2 z1 z2 z3 z4 z5 z6 z7
    generalize (collOf (evs L) F v).2.2 = fC at T1 T2 z1 z2 z3 z4 z5 z6 z7
    have Z1 := Lib.hid z1; have Z2 := Lib.hid z2; have Z3 := Lib.hid z3; have Z4 := Lib.hid z4; have Z5 := Lib.hid z5; have Z6 := Lib.hid z6; have Z7 := Lib.hid z7
    clear z1 z2 z3 z4 z5 z6 z7
    have CR : Hid (∀ V, Below w4.drew.heap.size w4.drew V → V.rangeAt g3 0 (pcs (.slice p L.length c) F).toList) := Lib.hid fun V hV => (P5.out.later hV).whole
    have CV : Hid (∀ V, Below w4.drew.heap.size w4.drew V → V.rangeAt g5 0 (vf v).toList) := Lib.hid fun V hV => (R5.out.later hV).range
    have KK : ∀ (gA gB : Nat) (vA vB : Value) (KA KB : List EvP) (V : World), TwoPasts w4.drew kT fT kC fC gA gB vA vB KA KB V → K { tmps := #[.agg (pcs (.slice p L.length c) F), .int .i64 most, .agg (vf v), .pointer (some ⟨g3, 0, none⟩), undef, .pointer (some ⟨g5, 0, none⟩), .bool false, .pointer (some ⟨gA, 0, none⟩), .pointer (some ⟨gB, 0, none⟩), undef, undef, undef, .pointer (some ⟨g3, 0, none⟩), .slice p L.length c, .slice (some ⟨w2.heap.size, 0, none⟩) 1 1, .bool true, .bool false, undef, .agg (pcs (.slice p L.length c) F), .int .i64 most, .agg (pcs vA fT), .agg (pcs (.slice p L.length c) F), .agg (vf v), .agg (pcs vB fC), undef, undef, undef, undef, undef, undef, undef, undef, undef, undef, undef, undef, undef, undef, undef, undef, undef, undef, undef, undef, undef, undef, undef, undef, undef, undef, undef, undef, undef, undef, undef, undef, undef, undef, undef, undef, undef, undef, undef, undef, undef, undef, undef, undef, undef, undef, undef, undef, undef, undef, undef, undef, undef, undef, undef, undef, undef, undef, undef], defers := [] } V := by
      intro gA gB vA vB KA KB V hT
      refine hK _ _ ?_
      obtain ⟨hPA, hPB, hEA, hEB, hkA, hkB, hbV⟩ := hT
      have B6 := Lib.hid (thenBelow B5.out hbV); have P6 := Lib.hid (P5.out.later hbV); have R6 := Lib.hid (R5.out.later hbV); have E6 := Lib.hid (E5.out.below hbV)
      have PA6 := Lib.hid hPA; have PB6 := Lib.hid hPB; have EA6 := Lib.hid hEA; have EB6 := Lib.hid hEB; have HkA := Lib.hid hkA; have HkB := Lib.hid hkB
      have s6 := P6.out.slot
      clear hK hPA hPB hEA hEB hkA hkB hbV T1 T2 CR CV B5 P5 R5 E5
      go_wp2
      clear s6
      go_loopw [9, 27] (fun o i wr => ∃ j : Nat, j ≤ L.length ∧ o = .int .i64 (openOf v (evs (L.take j)) : Nat) ∧ i = .int .i64 j ∧ Below V.heap.size V wr) (fun _ i _ => L.length - (intOf i).toNat)
      case atStart => exact ⟨0, Nat.zero_le _, rfl, rfl, Below.refl _ _⟩
      case round =>
        obtain ⟨j, hj, rfl, rfl, hb⟩ := hrel
        have BB := Lib.hid hb
        by_cases hjl : j < L.length
        · have hjl' : (j : Int) < L.length := by omega
          obtain ⟨b, o, rfl, hlt, hr⟩ := E6.out.at hjl
          obtain ⟨c0, c1, c2, c3, c4, c5, c6, c7⟩ := ev_cells (range_below (w := V) hr hb)
          have OT := Lib.hid (open_take v L j hjl)
          have hdl : openOf v (evs (L.take j)) ≤ j := by
            have h1 : openOf v (evs (L.take j)) ≤ (evs (L.take j)).length := List.countP_le_length
            have h2 : (evs (L.take j)).length = j := by rw [evs, List.length_map, List.length_take]; omega
            omega
          clear hb hr hlt
          obtain ⟨y, hy⟩ : ∃ y, L[j] = y := ⟨_, rfl⟩
          rw [hy] at c0 c1 c2 c3 c4 c5 c6 c7 OT
          clear hy
          generalize openOf v (evs (L.take j)) = m at hdl OT
          obtain ⟨⟨r, n, t, kd, d, fl, tx, gn⟩, gp, gc⟩ := y
          simp only at c0 c1 c2 c3 c4 c5 c6 c7 OT
          have b7 := below_alloc wr (.cells #[.int .i64 r, .int .i64 n, .int .i64 t, .int .i64 kd, .string d, .int .i64 fl, .string tx, .slice gp gn.length gc] 31)
          have B7 := Lib.hid (thenBelow BB.out b7); have R7 := Lib.hid ((R6.out.later BB.out).later b7)
          clear b7
          by_cases hk : kd = 2
          · have RH := Lib.hid (refHas_is v r n (wr.alloc (.cells #[.int .i64 r, .int .i64 n, .int .i64 t, .int .i64 kd, .string d, .int .i64 fl, .string tx, .slice gp gn.length gc] 31)))
            subst hk
            go_wp2_with (refine wpList_vloadG vecI (by rfl) _ rfl g5 rfl _ _ R7.out ?_)
            generalize wr.alloc (.cells #[.int .i64 r, .int .i64 n, .int .i64 t, .int .i64 2, .string d, .int .i64 fl, .string tx, .slice gp gn.length gc] 31) = w8 at RH B7 R7 ⊢
            refine RH.out.mono ?_
            rintro e w9 ⟨rfl, hb9⟩
            have B9 := Lib.hid (thenBelow B7.out hb9)
            clear hb9 RH R7 c0 c1 c2 c3 c4 c5 c6 c7
            cases hh : hasB v r n with
            | true =>
              have D2 : Hid (openOf v (evs (L.take (j + 1))) = m) := Lib.hid (by rw [OT.out]; simp [Ev.isDrop, Ev.has, hh])
              clear OT hh
              go_wp2
              go_roundw
              case rel => exact ⟨j + 1, by omega, by rw [D2.out], by go_num, by simpa using B9.out⟩
              case measure => simp [intOf]; omega
            | false =>
              have D2 : Hid (openOf v (evs (L.take (j + 1))) = m + 1) := Lib.hid (by rw [OT.out]; simp [Ev.isDrop, Ev.has, hh])
              clear OT hh
              go_wp2
              go_roundw
              case rel => exact ⟨j + 1, by omega, by rw [D2.out]; go_num, by go_num, by simpa using B9.out⟩
              case measure => simp [intOf]; omega
          · have D2 : Hid (openOf v (evs (L.take (j + 1))) = m) := Lib.hid (by rw [OT.out]; simp [Ev.isDrop, hk])
            clear OT
            go_wp2
            go_roundw
            case rel => exact ⟨j + 1, by omega, by rw [D2.out], by go_num, by simpa using B7.out⟩
            case measure => simp [intOf]; omega
        · obtain rfl : j = L.length := by omega
          have hjl' : ¬ ((L.length : Nat) : Int) < L.length := by omega
          rw [List.take_length]
          go_wp2_with fail
          rename_i K2 hK2
          have z1 := Z1.out; have z2 := Z2.out; have z4 := Z4.out; have z6 := Z6.out; have z7 := Z7.out
          have PR := Lib.hid (P6.out.later BB.out); have PAR := Lib.hid (PA6.out.later BB.out); have PBR := Lib.hid (PB6.out.later BB.out); have ER := Lib.hid (E6.out.below BB.out)
          have BR := Lib.hid (thenBelow B6.out BB.out)
          obtain ⟨pA, cA, rfl, _, hEA, _⟩ := (EA6.out.later BB.out).at
          obtain ⟨pB, cB, rfl, _, hEB, _⟩ := (EB6.out.later BB.out).at
          have hlA : KA.length ≤ L.length := by rw [show KA.length = (evs KA).length by simp [evs], HkA.out]; exact z6
          have hlB : KB.length ≤ L.length := by rw [show KB.length = (evs KB).length by simp [evs], HkB.out]; exact z7
          have Q1 : Hid (∀ U, Below wr.drew.heap.size wr.drew U → Calls Try.prog 21 #[.agg (pcs (.slice pA KA.length cA) fT)] U fun e w' => e = .returned (.int .i64 (dropsOf (evs L) : Nat)) ∧ Below U.heap.size U w') := Lib.hid fun U hU => by
            have h1 := drops_is pA cA KA fT U (hEA.below (from_drew hU)) (by omega)
            rw [HkA.out, z1] at h1; exact h1
          have Q2 : Hid (∀ U, Below wr.drew.heap.size wr.drew U → Calls Try.prog 21 #[.agg (pcs (.slice p L.length c) F)] U fun e w' => e = .returned (.int .i64 (dropsOf (evs L) : Nat)) ∧ Below U.heap.size U w') := Lib.hid fun U hU => drops_is p c L F U (ER.out.below (from_drew hU)) (by omega)
          have Q3 : Hid (∀ U, Below wr.drew.heap.size wr.drew U → Calls Try.prog 21 #[.agg (pcs (.slice pB KB.length cB) fC)] U fun e w' => e = .returned (.int .i64 (openOf v (evs L) : Nat)) ∧ Below U.heap.size U w') := Lib.hid fun U hU => by
            have h1 := drops_is pB cB KB fC U (hEB.below (from_drew hU)) (by omega)
            rw [HkB.out, z4] at h1; exact h1
          have Q4 : Hid (∀ U, Calls Try.prog 25 #[.agg (vf F), .agg (vf fT)] U (RetBool U true)) := Lib.hid fun U => by have h1 := refWithin_is F fT U; rw [Z3.out] at h1; exact h1
          have Q5 : Hid (∀ U, Calls Try.prog 25 #[.agg (vf F), .agg (vf fC)] U (RetBool U true)) := Lib.hid fun U => by have h1 := refWithin_is F fC U; rw [Z5.out] at h1; exact h1
          have hle : (KA.length : Int) - dropsOf (evs L) ≤ max most 0 := by rw [z1] at z2; rw [show KA.length = (evs KA).length by simp [evs], HkA.out]; exact z2
          have hDl : dropsOf (evs L) ≤ L.length := by have h1 := drops_rest (evs L); have h2 : (evs L).length = L.length := (by simp [evs]); omega
          obtain ⟨D, hD⟩ : ∃ D, dropsOf (evs L) = D := ⟨_, rfl⟩
          obtain ⟨O, hO⟩ : ∃ O, openOf v (evs L) = O := ⟨_, rfl⟩
          rw [hD] at Q1 Q2 hle hDl
          rw [hO] at Q3 ⊢
          obtain ⟨X, hX⟩ : ∃ X, max most 0 = X := ⟨_, rfl⟩
          rw [hX] at hle
          have hw : IntKind.i64.wrap ((KA.length : Int) - D) = (KA.length : Int) - D := by rw [IntKind.wrap_i64]; omega
          clear z1 z2 z4 z6 z7 hD hO hEA hEB EA6 EB6 PA6 PB6 P6 E6 R6
          have KE : ∀ U, Below wr.drew.heap.size wr.drew U → K2 { tmps := #[.agg (pcs (.slice p L.length c) F), .int .i64 most, .agg (vf v), .pointer (some ⟨g3, 0, none⟩), undef, .pointer (some ⟨g5, 0, none⟩), .bool true, .pointer (some ⟨gA, 0, none⟩), .pointer (some ⟨gB, 0, none⟩), .int .i64 (O : Int), undef, u11, .pointer (some ⟨g3, 0, none⟩), .slice p L.length c, .slice (some ⟨w2.heap.size, 0, none⟩) 1 1, .bool true, .bool false, undef, .agg (pcs (.slice p L.length c) F), .int .i64 most, .agg (pcs (.slice pA KA.length cA) fT), .agg (pcs (.slice p L.length c) F), .agg (vf v), .agg (pcs (.slice pB KB.length cB) fC), .pointer (some ⟨g3, 0, none⟩), .slice p L.length c, .int .i64 (L.length : Int), .int .i64 ((L.length : Nat) : Int), .bool false, u29, u30, u31, u32, u33, u34, u35, u36, u37, u38, u39, u40, u41, u42, u43, .agg (pcs (.slice pA KA.length cA) fT), .int .i64 (D : Int), .agg (pcs (.slice p L.length c) F), .int .i64 (D : Int), .bool true, .bool true, .agg (pcs (.slice pB KB.length cB) fC), .int .i64 (O : Int), .int .i64 (O : Int), .bool true, .bool true, .bool true, .pointer (some ⟨gA, 0, none⟩), .slice pA KA.length cA, .int .i64 (KA.length : Int), .agg (pcs (.slice pA KA.length cA) fT), .int .i64 (D : Int), .int .i64 ((KA.length : Int) - D), .int .i64 most, .int .i64 X, .bool true, .bool true, .bool true, .pointer (some ⟨g3, 1, none⟩), .agg (vf F), .pointer (some ⟨gA, 1, none⟩), .agg (vf fT), .bool true, .bool true, .bool true, .pointer (some ⟨g3, 1, none⟩), .agg (vf F), .pointer (some ⟨gB, 1, none⟩), .agg (vf fC), .bool true, .bool true, .bool true, .bool true, .bool true], defers := [] } U := by
            intro U hU
            refine hK2 _ _ ?_
            have BU := Lib.hid (thenBelow BR.out (from_drew hU))
            clear hK2 Q1 Q2 Q3 Q4 Q5
            go_wp2
            go_ret
            exact ⟨rfl, BU.out⟩
          have m0 : Below wr.drew.heap.size wr.drew wr.drew := Below.refl _ _
          refine rg_calm (by kernel_rfl) rfl (S := fun U => Below wr.drew.heap.size wr.drew U) ?_
          refine rgd_pureS 0 (some 44) rfl rfl (.agg (pcs (.slice pA KA.length cA) fT)) (by kernel_rfl) (by kernel_rfl) (by kernel_rfl) (fun _ _ _ _ h => h) (by kernel_rfl) (fun U hU => exec_gload 26 _ rfl gA 0 (by kernel_rfl) _ ((PAR.out.later (from_drew hU)).whole) Try.underlying26 rfl (sizePl _ _)) m0 ?_
          refine rgd_pureS 2 (some 46) rfl rfl (.agg (pcs (.slice p L.length c) F)) (by kernel_rfl) (by kernel_rfl) (by kernel_rfl) (fun _ _ _ _ h => h) (by kernel_rfl) (fun U hU => exec_gload 26 _ rfl g3 0 (by kernel_rfl) _ ((PR.out.later (from_drew hU)).whole) Try.underlying26 rfl (sizePl _ _)) m0 ?_
          refine rgd_call 1 (some 45) (by kernel_rfl) rfl rfl (by kernel_rfl) 21 (#[.agg (pcs (.slice pA KA.length cA) fT)]) (by kernel_rfl) (Q1.out wr.drew m0) ?_
          rintro _ y1 ⟨rfl, hy1⟩
          have m1 : Below wr.drew.heap.size wr.drew y1 := thenBelow m0 hy1
          refine ⟨_, rfl, m1, ?_⟩
          refine rgd_call 3 (some 47) (by kernel_rfl) rfl rfl (by kernel_rfl) 21 (#[.agg (pcs (.slice p L.length c) F)]) (by kernel_rfl) (Q2.out y1 m1) ?_
          rintro _ y2 ⟨rfl, hy2⟩
          have m2 : Below wr.drew.heap.size wr.drew y2 := thenBelow m1 hy2
          refine ⟨_, rfl, m2, ?_⟩
          refine rgd_pure 4 (some 48) rfl rfl (.bool true) (by kernel_rfl) (by kernel_rfl) (by kernel_rfl) (fun _ _ _ _ h => h) (by kernel_rfl) (exec_eqlI _ _ _ _ rfl (D : Int) (by kernel_rfl) (by kernel_rfl)) m2 ?_
          refine rgd_pure 5 (some 49) rfl rfl (.bool true) (by kernel_rfl) (by kernel_rfl) (by kernel_rfl) (fun _ _ _ _ h => h) (by kernel_rfl) (fun w => by kernel_rfl) m2 ?_
          refine rgd_pureS 6 (some 50) rfl rfl (.agg (pcs (.slice pB KB.length cB) fC)) (by kernel_rfl) (by kernel_rfl) (by kernel_rfl) (fun _ _ _ _ h => h) (by kernel_rfl) (fun U hU => exec_gload 26 _ rfl gB 0 (by kernel_rfl) _ ((PBR.out.later (from_drew hU)).whole) Try.underlying26 rfl (sizePl _ _)) m2 ?_
          refine rgd_pure 8 (some 52) rfl rfl (.int .i64 (O : Int)) (by kernel_rfl) (by kernel_rfl) (by kernel_rfl) (fun _ _ _ _ h => h) (by kernel_rfl) (fun w => by kernel_rfl) m2 ?_
          refine rgd_call 7 (some 51) (by kernel_rfl) rfl rfl (by kernel_rfl) 21 (#[.agg (pcs (.slice pB KB.length cB) fC)]) (by kernel_rfl) (Q3.out y2 m2) ?_
          rintro _ y3 ⟨rfl, hy3⟩
          have m3 : Below wr.drew.heap.size wr.drew y3 := thenBelow m2 hy3
          refine ⟨_, rfl, m3, ?_⟩
          refine rgd_pure 9 (some 53) rfl rfl (.bool true) (by kernel_rfl) (by kernel_rfl) (by kernel_rfl) (fun _ _ _ _ h => h) (by kernel_rfl) (exec_eqlI _ _ _ _ rfl (O : Int) (by kernel_rfl) (by kernel_rfl)) m3 ?_
          refine rgd_pure 10 (some 54) rfl rfl (.bool true) (by kernel_rfl) (by kernel_rfl) (by kernel_rfl) (fun _ _ _ _ h => h) (by kernel_rfl) (exec_pickT _ _ _ rfl _ (by kernel_rfl) (by kernel_rfl)) m3 ?_
          refine rgd_pure 11 (some 55) rfl rfl (.bool true) (by kernel_rfl) (by kernel_rfl) (by kernel_rfl) (fun _ _ _ _ h => h) (by kernel_rfl) (fun w => by kernel_rfl) m3 ?_
          refine rgd_pure 12 (some 56) rfl rfl (.pointer (some ⟨gA, 0, none⟩)) (by kernel_rfl) (by kernel_rfl) (by kernel_rfl) (fun _ _ _ _ h => h) (by kernel_rfl) (fun w => by kernel_rfl) m3 ?_
          refine rgd_load 13 (some 57) rfl rfl (by kernel_rfl) (by kernel_rfl) (by kernel_rfl) (fun _ _ _ _ h => h) (by kernel_rfl) _ _ rfl Try.underlying22 rfl ⟨gA, 0, none⟩ (.slice pA KA.length cA) (by kernel_rfl) (fun U hU => (PAR.out.later (from_drew hU)).slot) m3 ?_
          refine rgd_pure 14 (some 58) rfl rfl (.int .i64 (KA.length : Int)) (by kernel_rfl) (by kernel_rfl) (by kernel_rfl) (fun _ _ _ _ h => h) (by kernel_rfl) (fun w => by kernel_rfl) m3 ?_
          refine rgd_pureS 15 (some 59) rfl rfl (.agg (pcs (.slice pA KA.length cA) fT)) (by kernel_rfl) (by kernel_rfl) (by kernel_rfl) (fun _ _ _ _ h => h) (by kernel_rfl) (fun U hU => exec_gload 26 _ rfl gA 0 (by kernel_rfl) _ ((PAR.out.later (from_drew hU)).whole) Try.underlying26 rfl (sizePl _ _)) m3 ?_
          refine rgd_pure 18 (some 62) rfl rfl (.int .i64 most) (by kernel_rfl) (by kernel_rfl) (by kernel_rfl) (fun _ _ _ _ h => h) (by kernel_rfl) (fun w => by kernel_rfl) m3 ?_
          refine rgd_pure 19 (some 63) rfl rfl (.int .i64 X) (by kernel_rfl) (by kernel_rfl) (by kernel_rfl) (fun _ _ _ _ h => h) (by kernel_rfl) (exec_maxI _ _ _ rfl most 0 X hX (by kernel_rfl) (by kernel_rfl)) m3 ?_
          refine rgd_call 16 (some 60) (by kernel_rfl) rfl rfl (by kernel_rfl) 21 (#[.agg (pcs (.slice pA KA.length cA) fT)]) (by kernel_rfl) (Q1.out y3 m3) ?_
          rintro _ y4 ⟨rfl, hy4⟩
          have m4 : Below wr.drew.heap.size wr.drew y4 := thenBelow m3 hy4
          refine ⟨_, rfl, m4, ?_⟩
          refine rgd_pure 17 (some 61) rfl rfl (.int .i64 ((KA.length : Int) - D)) (by kernel_rfl) (by kernel_rfl) (by kernel_rfl) (fun _ _ _ _ h => h) (by kernel_rfl) (exec_subI _ _ _ _ rfl _ _ _ hw (by kernel_rfl) (by kernel_rfl)) m4 ?_
          refine rgd_pure 20 (some 64) rfl rfl (.bool true) (by kernel_rfl) (by kernel_rfl) (by kernel_rfl) (fun _ _ _ _ h => h) (by kernel_rfl) (exec_leqT _ _ _ _ rfl _ _ hle (by kernel_rfl) (by kernel_rfl)) m4 ?_
          refine rgd_pure 21 (some 65) rfl rfl (.bool true) (by kernel_rfl) (by kernel_rfl) (by kernel_rfl) (fun _ _ _ _ h => h) (by kernel_rfl) (exec_pickT _ _ _ rfl _ (by kernel_rfl) (by kernel_rfl)) m4 ?_
          refine rgd_pure 22 (some 66) rfl rfl (.bool true) (by kernel_rfl) (by kernel_rfl) (by kernel_rfl) (fun _ _ _ _ h => h) (by kernel_rfl) (fun w => by kernel_rfl) m4 ?_
          refine rgd_pure 23 (some 67) rfl rfl (.pointer (some ⟨g3, 1, none⟩)) (by kernel_rfl) (by kernel_rfl) (by kernel_rfl) (fun _ _ _ _ h => h) (by kernel_rfl) (fun w => by kernel_rfl) m4 ?_
          refine rgd_pureS 24 (some 68) rfl rfl (.agg (vf F)) (by kernel_rfl) (by kernel_rfl) (by kernel_rfl) (fun _ _ _ _ h => h) (by kernel_rfl) (fun U hU => exec_gload 24 _ rfl g3 1 (by kernel_rfl) _ ((PR.out.later (from_drew hU)).floor) Try.underlying24 rfl (sizeVcl F)) m4 ?_
          refine rgd_pure 25 (some 69) rfl rfl (.pointer (some ⟨gA, 1, none⟩)) (by kernel_rfl) (by kernel_rfl) (by kernel_rfl) (fun _ _ _ _ h => h) (by kernel_rfl) (fun w => by kernel_rfl) m4 ?_
          refine rgd_pureS 26 (some 70) rfl rfl (.agg (vf fT)) (by kernel_rfl) (by kernel_rfl) (by kernel_rfl) (fun _ _ _ _ h => h) (by kernel_rfl) (fun U hU => exec_gload 24 _ rfl gA 1 (by kernel_rfl) _ ((PAR.out.later (from_drew hU)).floor) Try.underlying24 rfl (sizeVcl fT)) m4 ?_
          refine rgd_call 27 (some 71) (by kernel_rfl) rfl rfl (by kernel_rfl) 25 (#[.agg (vf F), .agg (vf fT)]) (by kernel_rfl) (Q4.out y4) ?_
          rintro _ y5 ⟨rfl, hy5⟩
          have m5 : Below wr.drew.heap.size wr.drew y5 := thenBelow m4 hy5
          refine ⟨_, rfl, m5, ?_⟩
          refine rgd_pure 28 (some 72) rfl rfl (.bool true) (by kernel_rfl) (by kernel_rfl) (by kernel_rfl) (fun _ _ _ _ h => h) (by kernel_rfl) (exec_pickT _ _ _ rfl _ (by kernel_rfl) (by kernel_rfl)) m5 ?_
          refine rgd_pure 29 (some 73) rfl rfl (.bool true) (by kernel_rfl) (by kernel_rfl) (by kernel_rfl) (fun _ _ _ _ h => h) (by kernel_rfl) (fun w => by kernel_rfl) m5 ?_
          refine rgd_pure 30 (some 74) rfl rfl (.pointer (some ⟨g3, 1, none⟩)) (by kernel_rfl) (by kernel_rfl) (by kernel_rfl) (fun _ _ _ _ h => h) (by kernel_rfl) (fun w => by kernel_rfl) m5 ?_
          refine rgd_pureS 31 (some 75) rfl rfl (.agg (vf F)) (by kernel_rfl) (by kernel_rfl) (by kernel_rfl) (fun _ _ _ _ h => h) (by kernel_rfl) (fun U hU => exec_gload 24 _ rfl g3 1 (by kernel_rfl) _ ((PR.out.later (from_drew hU)).floor) Try.underlying24 rfl (sizeVcl F)) m5 ?_
          refine rgd_pure 32 (some 76) rfl rfl (.pointer (some ⟨gB, 1, none⟩)) (by kernel_rfl) (by kernel_rfl) (by kernel_rfl) (fun _ _ _ _ h => h) (by kernel_rfl) (fun w => by kernel_rfl) m5 ?_
          refine rgd_pureS 33 (some 77) rfl rfl (.agg (vf fC)) (by kernel_rfl) (by kernel_rfl) (by kernel_rfl) (fun _ _ _ _ h => h) (by kernel_rfl) (fun U hU => exec_gload 24 _ rfl gB 1 (by kernel_rfl) _ ((PBR.out.later (from_drew hU)).floor) Try.underlying24 rfl (sizeVcl fC)) m5 ?_
          refine rgd_call 34 (some 78) (by kernel_rfl) rfl rfl (by kernel_rfl) 25 (#[.agg (vf F), .agg (vf fC)]) (by kernel_rfl) (Q5.out y5) ?_
          rintro _ y6 ⟨rfl, hy6⟩
          have m6 : Below wr.drew.heap.size wr.drew y6 := thenBelow m5 hy6
          refine ⟨_, rfl, m6, ?_⟩
          refine rgd_pure 35 (some 79) rfl rfl (.bool true) (by kernel_rfl) (by kernel_rfl) (by kernel_rfl) (fun _ _ _ _ h => h) (by kernel_rfl) (exec_pickT _ _ _ rfl _ (by kernel_rfl) (by kernel_rfl)) m6 ?_
          refine rgd_pure 36 (some 80) rfl rfl (.bool true) (by kernel_rfl) (by kernel_rfl) (by kernel_rfl) (fun _ _ _ _ h => h) (by kernel_rfl) (fun w => by kernel_rfl) m6 ?_
          refine rgd_call 37 (some 81) (by kernel_rfl) rfl rfl (by kernel_rfl) 8 (#[]) (by kernel_rfl) (awake13 y6) ?_
          rintro _ y7 ⟨rfl, hy7⟩
          have m7 : Below wr.drew.heap.size wr.drew y7 := thenBelow m6 hy7
          refine ⟨_, rfl, m7, ?_⟩
          refine rgd_pure 38 (some 82) rfl rfl (.bool true) (by kernel_rfl) (by kernel_rfl) (by kernel_rfl) (fun _ _ _ _ h => h) (by kernel_rfl) (exec_pickT _ _ _ rfl _ (by kernel_rfl) (by kernel_rfl)) m7 ?_
          refine rgd_pure 39 (some 6) rfl rfl (.bool true) (by kernel_rfl) (by kernel_rfl) (by kernel_rfl) (fun _ _ _ _ h => h) (by kernel_rfl) (fun w => by kernel_rfl) m7 ?_
          exact wpAnyH_done (by kernel_rfl) (Eq.mp (by kernel_rfl) (KE _ m7)) _
    have M0 : Below w4.drew.heap.size w4.drew w4.drew := Below.refl _ _
    refine rg_calm (by kernel_rfl) rfl (S := fun V => Below w4.drew.heap.size w4.drew V) ?_
    refine rgd_pureS 0 (some 18) rfl rfl (.agg (pcs (.slice p L.length c) F)) (by kernel_rfl) (by kernel_rfl) (by kernel_rfl) (fun _ _ _ _ h => h) (by kernel_rfl) (fun V hV => exec_gload 26 _ rfl g3 0 (by kernel_rfl) _ (CR.out V hV) Try.underlying26 rfl (sizePl _ F)) M0 ?_
    refine rgd_pure 1 (some 19) rfl rfl (.int .i64 most) (by kernel_rfl) (by kernel_rfl) (by kernel_rfl) (fun _ _ _ _ h => h) (by kernel_rfl) (fun w => by kernel_rfl) M0 ?_
    refine rgd_pureS 3 (some 21) rfl rfl (.agg (pcs (.slice p L.length c) F)) (by kernel_rfl) (by kernel_rfl) (by kernel_rfl) (fun _ _ _ _ h => h) (by kernel_rfl) (fun V hV => exec_gload 26 _ rfl g3 0 (by kernel_rfl) _ (CR.out V hV) Try.underlying26 rfl (sizePl _ F)) M0 ?_
    refine rgd_pureS 4 (some 22) rfl rfl (.agg (vf v)) (by kernel_rfl) (by kernel_rfl) (by kernel_rfl) (fun _ _ _ _ h => h) (by kernel_rfl) (fun V hV => exec_gload 24 _ rfl g5 0 (by kernel_rfl) _ (CV.out V hV) Try.underlying24 rfl (sizeVcl v)) M0 ?_
    refine rgd_three 2 6 7 (some 20) (some 7) (some 8) (by kernel_rfl) rfl rfl (by kernel_rfl) 12 (#[.agg (pcs (.slice p L.length c) F), .int .i64 most]) (by kernel_rfl) (T1.out _ M0) rfl rfl (by kernel_rfl) (.pointer (some ⟨w4.drew.heap.size, 0, none⟩)) (w4.drew.alloc (.cells (pcs (.slice none 0 0) fun _ => 0) 26)) (allocPast rfl _) (thenBelow M0 (below_alloc w4.drew _)) rfl rfl (by kernel_rfl) (.pointer (some ⟨w4.drew.heap.size, 0, none⟩)) (w4.drew.alloc (.cells (pcs (.slice none 0 0) fun _ => 0) 26)) (allocPast rfl _) (thenBelow M0 (below_alloc w4.drew _)) ?_ ?_ ?_
    · rintro _ x1 ⟨vA, KA, rfl, oA, eA, hb1⟩
      have M1 : Below w4.drew.heap.size w4.drew x1 := thenBelow M0 hb1
      refine ⟨_, rfl, M1, ?_⟩
      have EA_1 := oA.base M0.size
      clear oA
      refine rgd_three 5 6 7 (some 23) (some 7) (some 8) (by kernel_rfl) rfl rfl (by kernel_rfl) 14 (#[.agg (pcs (.slice p L.length c) F), .agg (vf v)]) (by kernel_rfl) (T2.out _ M1) rfl rfl (by kernel_rfl) (.pointer (some ⟨x1.heap.size, 0, none⟩)) (x1.alloc (.cells (pcs (.slice none 0 0) fun _ => 0) 26)) (allocPast rfl _) (thenBelow M1 (below_alloc x1 _)) rfl rfl (by kernel_rfl) (.pointer (some ⟨x1.heap.size, 0, none⟩)) (x1.alloc (.cells (pcs (.slice none 0 0) fun _ => 0) 26)) (allocPast rfl _) (thenBelow M1 (below_alloc x1 _)) ?_ ?_ ?_
      · rintro _ x2 ⟨vB, KB, rfl, oB, eB, hb2⟩
        have M2 : Below w4.drew.heap.size w4.drew x2 := thenBelow M1 hb2
        refine ⟨_, rfl, M2, ?_⟩
        have EA_2 := EA_1.later hb2
        have EB_2 := oB.base M1.size
        clear oB
        refine rgd_acts 6 7 (some 7) (some 8) (by kernel_rfl) rfl rfl (by kernel_rfl) (.pointer (some ⟨x2.heap.size, 0, none⟩)) (x2.alloc (.cells (pcs (.slice none 0 0) fun _ => 0) 26)) (allocPast rfl _) (thenBelow M2 (below_alloc x2 _)) rfl rfl (by kernel_rfl) (.pointer (some ⟨x2.heap.size, 0, none⟩)) (x2.alloc (.cells (pcs (.slice none 0 0) fun _ => 0) 26)) (allocPast rfl _) (thenBelow M2 (below_alloc x2 _)) ?_ ?_
        · have hb3 := below_alloc x2 (.cells (pcs (.slice none 0 0) fun _ => 0) 26)
          have PA_3 : Px (x2.alloc (.cells (pcs (.slice none 0 0) fun _ => 0) 26)) x2.heap.size (.slice none 0 0) (fun _ => 0) := heap_alloc_new x2 _
          have lA : w4.drew.heap.size ≤ x2.heap.size := M2.size
          have M3 : Below w4.drew.heap.size w4.drew (x2.alloc (.cells (pcs (.slice none 0 0) fun _ => 0) 26)) := thenBelow M2 hb3
          have EA_3 := EA_2.later hb3
          have EB_3 := EB_2.later hb3
          generalize x2.alloc (.cells (pcs (.slice none 0 0) fun _ => 0) 26) = x3 at *
          refine rgd_run 7 (some 8) (by kernel_rfl) rfl rfl (by kernel_rfl) (.pointer (some ⟨x3.heap.size, 0, none⟩)) (x3.alloc (.cells (pcs (.slice none 0 0) fun _ => 0) 26)) (allocPast rfl _) (thenBelow M3 (below_alloc x3 _)) ?_
          have hb4 := below_alloc x3 (.cells (pcs (.slice none 0 0) fun _ => 0) 26)
          have PB_4 : Px (x3.alloc (.cells (pcs (.slice none 0 0) fun _ => 0) 26)) x3.heap.size (.slice none 0 0) (fun _ => 0) := heap_alloc_new x3 _
          have lB : w4.drew.heap.size ≤ x3.heap.size := M3.size
          have M4 : Below w4.drew.heap.size w4.drew (x3.alloc (.cells (pcs (.slice none 0 0) fun _ => 0) 26)) := thenBelow M3 hb4
          have EA_4 := EA_3.later hb4
          have EB_4 := EB_3.later hb4
          have PA_4 := PA_3.later hb4
          have hne_4 : x2.heap.size ≠ x3.heap.size := Nat.ne_of_lt PA_3.lt
          generalize x3.alloc (.cells (pcs (.slice none 0 0) fun _ => 0) 26) = x4 at *
          have hne : x2.heap.size ≠ x3.heap.size := hne_4
          obtain ⟨pA, cA, hA⟩ := own_slice EA_4.row
          obtain ⟨pB, cB, hB⟩ := own_slice EB_4.row
          have q1 := grown_setCells (x2.heap.size) (pcs vA fT).toList x4 0
          have PA1 := PA_4.setWhole vA fT; have PB1 := PB_4.kept q1 (fun h => hne (Option.some.inj h).symm)
          have m1 : Below w4.drew.heap.size w4.drew (x4.setCells (x2.heap.size) 0 (pcs vA fT).toList) := M4.trans (grown_below q1 M4.size lA)
          refine rgd_do 8 none (by kernel_rfl) rfl rfl (by kernel_rfl) (x4.setCells (x2.heap.size) 0 (pcs vA fT).toList) (exec_pstore _ _ rfl (x2.heap.size) (by kernel_rfl) vA fT (by kernel_rfl) ⟨_, _, _, hA⟩ PA_4) m1 ?_
          have q2 := grown_setCells (x3.heap.size) (pcs vB fC).toList (x4.setCells (x2.heap.size) 0 (pcs vA fT).toList) 0
          have PB2 := PB1.setWhole vB fC; have PA2 := PA1.kept q2 (fun h => hne (Option.some.inj h))
          have m2 : Below w4.drew.heap.size w4.drew ((x4.setCells (x2.heap.size) 0 (pcs vA fT).toList).setCells (x3.heap.size) 0 (pcs vB fC).toList) := m1.trans (grown_below q2 m1.size lB)
          refine rgd_do 9 none (by kernel_rfl) rfl rfl (by kernel_rfl) ((x4.setCells (x2.heap.size) 0 (pcs vA fT).toList).setCells (x3.heap.size) 0 (pcs vB fC).toList) (exec_pstore _ _ rfl (x3.heap.size) (by kernel_rfl) vB fC (by kernel_rfl) ⟨_, _, _, hB⟩ PB1) m2 ?_
          have hT : TwoPasts w4.drew kT fT kC fC (x2.heap.size) (x3.heap.size) vA vB KA KB ((x4.setCells (x2.heap.size) 0 (pcs vA fT).toList).setCells (x3.heap.size) 0 (pcs vB fC).toList) := ⟨PA2, PB2, EA_4.setTwo PA_4 PB_4 PB1 q1 q2, EB_4.setTwo PA_4 PB_4 PB1 q1 q2, eA, eB, m2⟩
          exact wpAnyH_done (by kernel_rfl) (Eq.mp (by kernel_rfl) (KK (x2.heap.size) (x3.heap.size) vA vB KA KB _ hT)) _
        · have hb5 := below_alloc x2 (.cells (pcs (.slice none 0 0) fun _ => 0) 26)
          have PB_5 : Px (x2.alloc (.cells (pcs (.slice none 0 0) fun _ => 0) 26)) x2.heap.size (.slice none 0 0) (fun _ => 0) := heap_alloc_new x2 _
          have lB : w4.drew.heap.size ≤ x2.heap.size := M2.size
          have M5 : Below w4.drew.heap.size w4.drew (x2.alloc (.cells (pcs (.slice none 0 0) fun _ => 0) 26)) := thenBelow M2 hb5
          have EA_5 := EA_2.later hb5
          have EB_5 := EB_2.later hb5
          generalize x2.alloc (.cells (pcs (.slice none 0 0) fun _ => 0) 26) = x5 at *
          refine rgd_run 6 (some 7) (by kernel_rfl) rfl rfl (by kernel_rfl) (.pointer (some ⟨x5.heap.size, 0, none⟩)) (x5.alloc (.cells (pcs (.slice none 0 0) fun _ => 0) 26)) (allocPast rfl _) (thenBelow M5 (below_alloc x5 _)) ?_
          have hb6 := below_alloc x5 (.cells (pcs (.slice none 0 0) fun _ => 0) 26)
          have PA_6 : Px (x5.alloc (.cells (pcs (.slice none 0 0) fun _ => 0) 26)) x5.heap.size (.slice none 0 0) (fun _ => 0) := heap_alloc_new x5 _
          have lA : w4.drew.heap.size ≤ x5.heap.size := M5.size
          have M6 : Below w4.drew.heap.size w4.drew (x5.alloc (.cells (pcs (.slice none 0 0) fun _ => 0) 26)) := thenBelow M5 hb6
          have EA_6 := EA_5.later hb6
          have EB_6 := EB_5.later hb6
          have PB_6 := PB_5.later hb6
          have hne_6 : x5.heap.size ≠ x2.heap.size := Nat.ne_of_gt PB_5.lt
          generalize x5.alloc (.cells (pcs (.slice none 0 0) fun _ => 0) 26) = x6 at *
          have hne : x5.heap.size ≠ x2.heap.size := hne_6
          obtain ⟨pA, cA, hA⟩ := own_slice EA_6.row
          obtain ⟨pB, cB, hB⟩ := own_slice EB_6.row
          have q1 := grown_setCells (x5.heap.size) (pcs vA fT).toList x6 0
          have PA1 := PA_6.setWhole vA fT; have PB1 := PB_6.kept q1 (fun h => hne (Option.some.inj h).symm)
          have m1 : Below w4.drew.heap.size w4.drew (x6.setCells (x5.heap.size) 0 (pcs vA fT).toList) := M6.trans (grown_below q1 M6.size lA)
          refine rgd_do 8 none (by kernel_rfl) rfl rfl (by kernel_rfl) (x6.setCells (x5.heap.size) 0 (pcs vA fT).toList) (exec_pstore _ _ rfl (x5.heap.size) (by kernel_rfl) vA fT (by kernel_rfl) ⟨_, _, _, hA⟩ PA_6) m1 ?_
          have q2 := grown_setCells (x2.heap.size) (pcs vB fC).toList (x6.setCells (x5.heap.size) 0 (pcs vA fT).toList) 0
          have PB2 := PB1.setWhole vB fC; have PA2 := PA1.kept q2 (fun h => hne (Option.some.inj h))
          have m2 : Below w4.drew.heap.size w4.drew ((x6.setCells (x5.heap.size) 0 (pcs vA fT).toList).setCells (x2.heap.size) 0 (pcs vB fC).toList) := m1.trans (grown_below q2 m1.size lB)
          refine rgd_do 9 none (by kernel_rfl) rfl rfl (by kernel_rfl) ((x6.setCells (x5.heap.size) 0 (pcs vA fT).toList).setCells (x2.heap.size) 0 (pcs vB fC).toList) (exec_pstore _ _ rfl (x2.heap.size) (by kernel_rfl) vB fC (by kernel_rfl) ⟨_, _, _, hB⟩ PB1) m2 ?_
          have hT : TwoPasts w4.drew kT fT kC fC (x5.heap.size) (x2.heap.size) vA vB KA KB ((x6.setCells (x5.heap.size) 0 (pcs vA fT).toList).setCells (x2.heap.size) 0 (pcs vB fC).toList) := ⟨PA2, PB2, EA_6.setTwo PA_6 PB_6 PB1 q1 q2, EB_6.setTwo PA_6 PB_6 PB1 q1 q2, eA, eB, m2⟩
          exact wpAnyH_done (by kernel_rfl) (Eq.mp (by kernel_rfl) (KK (x5.heap.size) (x2.heap.size) vA vB KA KB _ hT)) _
      · have hb7 := below_alloc x1 (.cells (pcs (.slice none 0 0) fun _ => 0) 26)
        have PA_7 : Px (x1.alloc (.cells (pcs (.slice none 0 0) fun _ => 0) 26)) x1.heap.size (.slice none 0 0) (fun _ => 0) := heap_alloc_new x1 _
        have lA : w4.drew.heap.size ≤ x1.heap.size := M1.size
        have M7 : Below w4.drew.heap.size w4.drew (x1.alloc (.cells (pcs (.slice none 0 0) fun _ => 0) 26)) := thenBelow M1 hb7
        have EA_7 := EA_1.later hb7
        generalize x1.alloc (.cells (pcs (.slice none 0 0) fun _ => 0) 26) = x7 at *
        refine rgd_two2 5 7 (some 23) (some 8) (by kernel_rfl) rfl rfl (by kernel_rfl) 14 (#[.agg (pcs (.slice p L.length c) F), .agg (vf v)]) (by kernel_rfl) (T2.out _ M7) rfl rfl (by kernel_rfl) (.pointer (some ⟨x7.heap.size, 0, none⟩)) (x7.alloc (.cells (pcs (.slice none 0 0) fun _ => 0) 26)) (allocPast rfl _) (thenBelow M7 (below_alloc x7 _)) ?_ ?_
        · rintro _ x8 ⟨vB, KB, rfl, oB, eB, hb8⟩
          have M8 : Below w4.drew.heap.size w4.drew x8 := thenBelow M7 hb8
          refine ⟨_, rfl, M8, ?_⟩
          have EA_8 := EA_7.later hb8
          have PA_8 := PA_7.later hb8
          have EB_8 := oB.base M7.size
          clear oB
          refine rgd_run 7 (some 8) (by kernel_rfl) rfl rfl (by kernel_rfl) (.pointer (some ⟨x8.heap.size, 0, none⟩)) (x8.alloc (.cells (pcs (.slice none 0 0) fun _ => 0) 26)) (allocPast rfl _) (thenBelow M8 (below_alloc x8 _)) ?_
          have hb9 := below_alloc x8 (.cells (pcs (.slice none 0 0) fun _ => 0) 26)
          have PB_9 : Px (x8.alloc (.cells (pcs (.slice none 0 0) fun _ => 0) 26)) x8.heap.size (.slice none 0 0) (fun _ => 0) := heap_alloc_new x8 _
          have lB : w4.drew.heap.size ≤ x8.heap.size := M8.size
          have M9 : Below w4.drew.heap.size w4.drew (x8.alloc (.cells (pcs (.slice none 0 0) fun _ => 0) 26)) := thenBelow M8 hb9
          have EA_9 := EA_8.later hb9
          have PA_9 := PA_8.later hb9
          have EB_9 := EB_8.later hb9
          have hne_9 : x1.heap.size ≠ x8.heap.size := Nat.ne_of_lt PA_8.lt
          generalize x8.alloc (.cells (pcs (.slice none 0 0) fun _ => 0) 26) = x9 at *
          have hne : x1.heap.size ≠ x8.heap.size := hne_9
          obtain ⟨pA, cA, hA⟩ := own_slice EA_9.row
          obtain ⟨pB, cB, hB⟩ := own_slice EB_9.row
          have q1 := grown_setCells (x1.heap.size) (pcs vA fT).toList x9 0
          have PA1 := PA_9.setWhole vA fT; have PB1 := PB_9.kept q1 (fun h => hne (Option.some.inj h).symm)
          have m1 : Below w4.drew.heap.size w4.drew (x9.setCells (x1.heap.size) 0 (pcs vA fT).toList) := M9.trans (grown_below q1 M9.size lA)
          refine rgd_do 8 none (by kernel_rfl) rfl rfl (by kernel_rfl) (x9.setCells (x1.heap.size) 0 (pcs vA fT).toList) (exec_pstore _ _ rfl (x1.heap.size) (by kernel_rfl) vA fT (by kernel_rfl) ⟨_, _, _, hA⟩ PA_9) m1 ?_
          have q2 := grown_setCells (x8.heap.size) (pcs vB fC).toList (x9.setCells (x1.heap.size) 0 (pcs vA fT).toList) 0
          have PB2 := PB1.setWhole vB fC; have PA2 := PA1.kept q2 (fun h => hne (Option.some.inj h))
          have m2 : Below w4.drew.heap.size w4.drew ((x9.setCells (x1.heap.size) 0 (pcs vA fT).toList).setCells (x8.heap.size) 0 (pcs vB fC).toList) := m1.trans (grown_below q2 m1.size lB)
          refine rgd_do 9 none (by kernel_rfl) rfl rfl (by kernel_rfl) ((x9.setCells (x1.heap.size) 0 (pcs vA fT).toList).setCells (x8.heap.size) 0 (pcs vB fC).toList) (exec_pstore _ _ rfl (x8.heap.size) (by kernel_rfl) vB fC (by kernel_rfl) ⟨_, _, _, hB⟩ PB1) m2 ?_
          have hT : TwoPasts w4.drew kT fT kC fC (x1.heap.size) (x8.heap.size) vA vB KA KB ((x9.setCells (x1.heap.size) 0 (pcs vA fT).toList).setCells (x8.heap.size) 0 (pcs vB fC).toList) := ⟨PA2, PB2, EA_9.setTwo PA_9 PB_9 PB1 q1 q2, EB_9.setTwo PA_9 PB_9 PB1 q1 q2, eA, eB, m2⟩
          exact wpAnyH_done (by kernel_rfl) (Eq.mp (by kernel_rfl) (KK (x1.heap.size) (x8.heap.size) vA vB KA KB _ hT)) _
        · have hb10 := below_alloc x7 (.cells (pcs (.slice none 0 0) fun _ => 0) 26)
          have PB_10 : Px (x7.alloc (.cells (pcs (.slice none 0 0) fun _ => 0) 26)) x7.heap.size (.slice none 0 0) (fun _ => 0) := heap_alloc_new x7 _
          have lB : w4.drew.heap.size ≤ x7.heap.size := M7.size
          have M10 : Below w4.drew.heap.size w4.drew (x7.alloc (.cells (pcs (.slice none 0 0) fun _ => 0) 26)) := thenBelow M7 hb10
          have EA_10 := EA_7.later hb10
          have PA_10 := PA_7.later hb10
          have hne_10 : x1.heap.size ≠ x7.heap.size := Nat.ne_of_lt PA_7.lt
          generalize x7.alloc (.cells (pcs (.slice none 0 0) fun _ => 0) 26) = x10 at *
          refine rgd_call 5 (some 23) (by kernel_rfl) rfl rfl (by kernel_rfl) 14 (#[.agg (pcs (.slice p L.length c) F), .agg (vf v)]) (by kernel_rfl) (T2.out _ M10) ?_
          rintro _ x11 ⟨vB, KB, rfl, oB, eB, hb11⟩
          have M11 : Below w4.drew.heap.size w4.drew x11 := thenBelow M10 hb11
          refine ⟨_, rfl, M11, ?_⟩
          have EA_11 := EA_10.later hb11
          have PA_11 := PA_10.later hb11
          have hne_11 := hne_10
          have PB_11 := PB_10.later hb11
          have EB_11 := oB.base M10.size
          clear oB
          have hne : x1.heap.size ≠ x7.heap.size := hne_11
          obtain ⟨pA, cA, hA⟩ := own_slice EA_11.row
          obtain ⟨pB, cB, hB⟩ := own_slice EB_11.row
          have q1 := grown_setCells (x1.heap.size) (pcs vA fT).toList x11 0
          have PA1 := PA_11.setWhole vA fT; have PB1 := PB_11.kept q1 (fun h => hne (Option.some.inj h).symm)
          have m1 : Below w4.drew.heap.size w4.drew (x11.setCells (x1.heap.size) 0 (pcs vA fT).toList) := M11.trans (grown_below q1 M11.size lA)
          refine rgd_do 8 none (by kernel_rfl) rfl rfl (by kernel_rfl) (x11.setCells (x1.heap.size) 0 (pcs vA fT).toList) (exec_pstore _ _ rfl (x1.heap.size) (by kernel_rfl) vA fT (by kernel_rfl) ⟨_, _, _, hA⟩ PA_11) m1 ?_
          have q2 := grown_setCells (x7.heap.size) (pcs vB fC).toList (x11.setCells (x1.heap.size) 0 (pcs vA fT).toList) 0
          have PB2 := PB1.setWhole vB fC; have PA2 := PA1.kept q2 (fun h => hne (Option.some.inj h))
          have m2 : Below w4.drew.heap.size w4.drew ((x11.setCells (x1.heap.size) 0 (pcs vA fT).toList).setCells (x7.heap.size) 0 (pcs vB fC).toList) := m1.trans (grown_below q2 m1.size lB)
          refine rgd_do 9 none (by kernel_rfl) rfl rfl (by kernel_rfl) ((x11.setCells (x1.heap.size) 0 (pcs vA fT).toList).setCells (x7.heap.size) 0 (pcs vB fC).toList) (exec_pstore _ _ rfl (x7.heap.size) (by kernel_rfl) vB fC (by kernel_rfl) ⟨_, _, _, hB⟩ PB1) m2 ?_
          have hT : TwoPasts w4.drew kT fT kC fC (x1.heap.size) (x7.heap.size) vA vB KA KB ((x11.setCells (x1.heap.size) 0 (pcs vA fT).toList).setCells (x7.heap.size) 0 (pcs vB fC).toList) := ⟨PA2, PB2, EA_11.setTwo PA_11 PB_11 PB1 q1 q2, EB_11.setTwo PA_11 PB_11 PB1 q1 q2, eA, eB, m2⟩
          exact wpAnyH_done (by kernel_rfl) (Eq.mp (by kernel_rfl) (KK (x1.heap.size) (x7.heap.size) vA vB KA KB _ hT)) _
      · have hb12 := below_alloc x1 (.cells (pcs (.slice none 0 0) fun _ => 0) 26)
        have PB_12 : Px (x1.alloc (.cells (pcs (.slice none 0 0) fun _ => 0) 26)) x1.heap.size (.slice none 0 0) (fun _ => 0) := heap_alloc_new x1 _
        have lB : w4.drew.heap.size ≤ x1.heap.size := M1.size
        have M12 : Below w4.drew.heap.size w4.drew (x1.alloc (.cells (pcs (.slice none 0 0) fun _ => 0) 26)) := thenBelow M1 hb12
        have EA_12 := EA_1.later hb12
        generalize x1.alloc (.cells (pcs (.slice none 0 0) fun _ => 0) 26) = x12 at *
        refine rgd_two2 5 6 (some 23) (some 7) (by kernel_rfl) rfl rfl (by kernel_rfl) 14 (#[.agg (pcs (.slice p L.length c) F), .agg (vf v)]) (by kernel_rfl) (T2.out _ M12) rfl rfl (by kernel_rfl) (.pointer (some ⟨x12.heap.size, 0, none⟩)) (x12.alloc (.cells (pcs (.slice none 0 0) fun _ => 0) 26)) (allocPast rfl _) (thenBelow M12 (below_alloc x12 _)) ?_ ?_
        · rintro _ x13 ⟨vB, KB, rfl, oB, eB, hb13⟩
          have M13 : Below w4.drew.heap.size w4.drew x13 := thenBelow M12 hb13
          refine ⟨_, rfl, M13, ?_⟩
          have EA_13 := EA_12.later hb13
          have PB_13 := PB_12.later hb13
          have EB_13 := oB.base M12.size
          clear oB
          refine rgd_run 6 (some 7) (by kernel_rfl) rfl rfl (by kernel_rfl) (.pointer (some ⟨x13.heap.size, 0, none⟩)) (x13.alloc (.cells (pcs (.slice none 0 0) fun _ => 0) 26)) (allocPast rfl _) (thenBelow M13 (below_alloc x13 _)) ?_
          have hb14 := below_alloc x13 (.cells (pcs (.slice none 0 0) fun _ => 0) 26)
          have PA_14 : Px (x13.alloc (.cells (pcs (.slice none 0 0) fun _ => 0) 26)) x13.heap.size (.slice none 0 0) (fun _ => 0) := heap_alloc_new x13 _
          have lA : w4.drew.heap.size ≤ x13.heap.size := M13.size
          have M14 : Below w4.drew.heap.size w4.drew (x13.alloc (.cells (pcs (.slice none 0 0) fun _ => 0) 26)) := thenBelow M13 hb14
          have EA_14 := EA_13.later hb14
          have PB_14 := PB_13.later hb14
          have EB_14 := EB_13.later hb14
          have hne_14 : x13.heap.size ≠ x1.heap.size := Nat.ne_of_gt PB_13.lt
          generalize x13.alloc (.cells (pcs (.slice none 0 0) fun _ => 0) 26) = x14 at *
          have hne : x13.heap.size ≠ x1.heap.size := hne_14
          obtain ⟨pA, cA, hA⟩ := own_slice EA_14.row
          obtain ⟨pB, cB, hB⟩ := own_slice EB_14.row
          have q1 := grown_setCells (x13.heap.size) (pcs vA fT).toList x14 0
          have PA1 := PA_14.setWhole vA fT; have PB1 := PB_14.kept q1 (fun h => hne (Option.some.inj h).symm)
          have m1 : Below w4.drew.heap.size w4.drew (x14.setCells (x13.heap.size) 0 (pcs vA fT).toList) := M14.trans (grown_below q1 M14.size lA)
          refine rgd_do 8 none (by kernel_rfl) rfl rfl (by kernel_rfl) (x14.setCells (x13.heap.size) 0 (pcs vA fT).toList) (exec_pstore _ _ rfl (x13.heap.size) (by kernel_rfl) vA fT (by kernel_rfl) ⟨_, _, _, hA⟩ PA_14) m1 ?_
          have q2 := grown_setCells (x1.heap.size) (pcs vB fC).toList (x14.setCells (x13.heap.size) 0 (pcs vA fT).toList) 0
          have PB2 := PB1.setWhole vB fC; have PA2 := PA1.kept q2 (fun h => hne (Option.some.inj h))
          have m2 : Below w4.drew.heap.size w4.drew ((x14.setCells (x13.heap.size) 0 (pcs vA fT).toList).setCells (x1.heap.size) 0 (pcs vB fC).toList) := m1.trans (grown_below q2 m1.size lB)
          refine rgd_do 9 none (by kernel_rfl) rfl rfl (by kernel_rfl) ((x14.setCells (x13.heap.size) 0 (pcs vA fT).toList).setCells (x1.heap.size) 0 (pcs vB fC).toList) (exec_pstore _ _ rfl (x1.heap.size) (by kernel_rfl) vB fC (by kernel_rfl) ⟨_, _, _, hB⟩ PB1) m2 ?_
          have hT : TwoPasts w4.drew kT fT kC fC (x13.heap.size) (x1.heap.size) vA vB KA KB ((x14.setCells (x13.heap.size) 0 (pcs vA fT).toList).setCells (x1.heap.size) 0 (pcs vB fC).toList) := ⟨PA2, PB2, EA_14.setTwo PA_14 PB_14 PB1 q1 q2, EB_14.setTwo PA_14 PB_14 PB1 q1 q2, eA, eB, m2⟩
          exact wpAnyH_done (by kernel_rfl) (Eq.mp (by kernel_rfl) (KK (x13.heap.size) (x1.heap.size) vA vB KA KB _ hT)) _
        · have hb15 := below_alloc x12 (.cells (pcs (.slice none 0 0) fun _ => 0) 26)
          have PA_15 : Px (x12.alloc (.cells (pcs (.slice none 0 0) fun _ => 0) 26)) x12.heap.size (.slice none 0 0) (fun _ => 0) := heap_alloc_new x12 _
          have lA : w4.drew.heap.size ≤ x12.heap.size := M12.size
          have M15 : Below w4.drew.heap.size w4.drew (x12.alloc (.cells (pcs (.slice none 0 0) fun _ => 0) 26)) := thenBelow M12 hb15
          have EA_15 := EA_12.later hb15
          have PB_15 := PB_12.later hb15
          have hne_15 : x12.heap.size ≠ x1.heap.size := Nat.ne_of_gt PB_12.lt
          generalize x12.alloc (.cells (pcs (.slice none 0 0) fun _ => 0) 26) = x15 at *
          refine rgd_call 5 (some 23) (by kernel_rfl) rfl rfl (by kernel_rfl) 14 (#[.agg (pcs (.slice p L.length c) F), .agg (vf v)]) (by kernel_rfl) (T2.out _ M15) ?_
          rintro _ x16 ⟨vB, KB, rfl, oB, eB, hb16⟩
          have M16 : Below w4.drew.heap.size w4.drew x16 := thenBelow M15 hb16
          refine ⟨_, rfl, M16, ?_⟩
          have EA_16 := EA_15.later hb16
          have PB_16 := PB_15.later hb16
          have hne_16 := hne_15
          have PA_16 := PA_15.later hb16
          have EB_16 := oB.base M15.size
          clear oB
          have hne : x12.heap.size ≠ x1.heap.size := hne_16
          obtain ⟨pA, cA, hA⟩ := own_slice EA_16.row
          obtain ⟨pB, cB, hB⟩ := own_slice EB_16.row
          have q1 := grown_setCells (x12.heap.size) (pcs vA fT).toList x16 0
          have PA1 := PA_16.setWhole vA fT; have PB1 := PB_16.kept q1 (fun h => hne (Option.some.inj h).symm)
          have m1 : Below w4.drew.heap.size w4.drew (x16.setCells (x12.heap.size) 0 (pcs vA fT).toList) := M16.trans (grown_below q1 M16.size lA)
          refine rgd_do 8 none (by kernel_rfl) rfl rfl (by kernel_rfl) (x16.setCells (x12.heap.size) 0 (pcs vA fT).toList) (exec_pstore _ _ rfl (x12.heap.size) (by kernel_rfl) vA fT (by kernel_rfl) ⟨_, _, _, hA⟩ PA_16) m1 ?_
          have q2 := grown_setCells (x1.heap.size) (pcs vB fC).toList (x16.setCells (x12.heap.size) 0 (pcs vA fT).toList) 0
          have PB2 := PB1.setWhole vB fC; have PA2 := PA1.kept q2 (fun h => hne (Option.some.inj h))
          have m2 : Below w4.drew.heap.size w4.drew ((x16.setCells (x12.heap.size) 0 (pcs vA fT).toList).setCells (x1.heap.size) 0 (pcs vB fC).toList) := m1.trans (grown_below q2 m1.size lB)
          refine rgd_do 9 none (by kernel_rfl) rfl rfl (by kernel_rfl) ((x16.setCells (x12.heap.size) 0 (pcs vA fT).toList).setCells (x1.heap.size) 0 (pcs vB fC).toList) (exec_pstore _ _ rfl (x1.heap.size) (by kernel_rfl) vB fC (by kernel_rfl) ⟨_, _, _, hB⟩ PB1) m2 ?_
          have hT : TwoPasts w4.drew kT fT kC fC (x12.heap.size) (x1.heap.size) vA vB KA KB ((x16.setCells (x12.heap.size) 0 (pcs vA fT).toList).setCells (x1.heap.size) 0 (pcs vB fC).toList) := ⟨PA2, PB2, EA_16.setTwo PA_16 PB_16 PB1 q1 q2, EB_16.setTwo PA_16 PB_16 PB1 q1 q2, eA, eB, m2⟩
          exact wpAnyH_done (by kernel_rfl) (Eq.mp (by kernel_rfl) (KK (x12.heap.size) (x1.heap.size) vA vB KA KB _ hT)) _
    · have hb17 := below_alloc w4.drew (.cells (pcs (.slice none 0 0) fun _ => 0) 26)
      have PA_17 : Px (w4.drew.alloc (.cells (pcs (.slice none 0 0) fun _ => 0) 26)) w4.drew.heap.size (.slice none 0 0) (fun _ => 0) := heap_alloc_new w4.drew _
      have lA : w4.drew.heap.size ≤ w4.drew.heap.size := M0.size
      have M17 : Below w4.drew.heap.size w4.drew (w4.drew.alloc (.cells (pcs (.slice none 0 0) fun _ => 0) 26)) := thenBelow M0 hb17
      generalize w4.drew.alloc (.cells (pcs (.slice none 0 0) fun _ => 0) 26) = x17 at *
      refine rgd_two2 2 7 (some 20) (some 8) (by kernel_rfl) rfl rfl (by kernel_rfl) 12 (#[.agg (pcs (.slice p L.length c) F), .int .i64 most]) (by kernel_rfl) (T1.out _ M17) rfl rfl (by kernel_rfl) (.pointer (some ⟨x17.heap.size, 0, none⟩)) (x17.alloc (.cells (pcs (.slice none 0 0) fun _ => 0) 26)) (allocPast rfl _) (thenBelow M17 (below_alloc x17 _)) ?_ ?_
      · rintro _ x18 ⟨vA, KA, rfl, oA, eA, hb18⟩
        have M18 : Below w4.drew.heap.size w4.drew x18 := thenBelow M17 hb18
        refine ⟨_, rfl, M18, ?_⟩
        have PA_18 := PA_17.later hb18
        have EA_18 := oA.base M17.size
        clear oA
        refine rgd_two2 5 7 (some 23) (some 8) (by kernel_rfl) rfl rfl (by kernel_rfl) 14 (#[.agg (pcs (.slice p L.length c) F), .agg (vf v)]) (by kernel_rfl) (T2.out _ M18) rfl rfl (by kernel_rfl) (.pointer (some ⟨x18.heap.size, 0, none⟩)) (x18.alloc (.cells (pcs (.slice none 0 0) fun _ => 0) 26)) (allocPast rfl _) (thenBelow M18 (below_alloc x18 _)) ?_ ?_
        · rintro _ x19 ⟨vB, KB, rfl, oB, eB, hb19⟩
          have M19 : Below w4.drew.heap.size w4.drew x19 := thenBelow M18 hb19
          refine ⟨_, rfl, M19, ?_⟩
          have PA_19 := PA_18.later hb19
          have EA_19 := EA_18.later hb19
          have EB_19 := oB.base M18.size
          clear oB
          refine rgd_run 7 (some 8) (by kernel_rfl) rfl rfl (by kernel_rfl) (.pointer (some ⟨x19.heap.size, 0, none⟩)) (x19.alloc (.cells (pcs (.slice none 0 0) fun _ => 0) 26)) (allocPast rfl _) (thenBelow M19 (below_alloc x19 _)) ?_
          have hb20 := below_alloc x19 (.cells (pcs (.slice none 0 0) fun _ => 0) 26)
          have PB_20 : Px (x19.alloc (.cells (pcs (.slice none 0 0) fun _ => 0) 26)) x19.heap.size (.slice none 0 0) (fun _ => 0) := heap_alloc_new x19 _
          have lB : w4.drew.heap.size ≤ x19.heap.size := M19.size
          have M20 : Below w4.drew.heap.size w4.drew (x19.alloc (.cells (pcs (.slice none 0 0) fun _ => 0) 26)) := thenBelow M19 hb20
          have PA_20 := PA_19.later hb20
          have EA_20 := EA_19.later hb20
          have EB_20 := EB_19.later hb20
          have hne_20 : w4.drew.heap.size ≠ x19.heap.size := Nat.ne_of_lt PA_19.lt
          generalize x19.alloc (.cells (pcs (.slice none 0 0) fun _ => 0) 26) = x20 at *
          have hne : w4.drew.heap.size ≠ x19.heap.size := hne_20
          obtain ⟨pA, cA, hA⟩ := own_slice EA_20.row
          obtain ⟨pB, cB, hB⟩ := own_slice EB_20.row
          have q1 := grown_setCells (w4.drew.heap.size) (pcs vA fT).toList x20 0
          have PA1 := PA_20.setWhole vA fT; have PB1 := PB_20.kept q1 (fun h => hne (Option.some.inj h).symm)
          have m1 : Below w4.drew.heap.size w4.drew (x20.setCells (w4.drew.heap.size) 0 (pcs vA fT).toList) := M20.trans (grown_below q1 M20.size lA)
          refine rgd_do 8 none (by kernel_rfl) rfl rfl (by kernel_rfl) (x20.setCells (w4.drew.heap.size) 0 (pcs vA fT).toList) (exec_pstore _ _ rfl (w4.drew.heap.size) (by kernel_rfl) vA fT (by kernel_rfl) ⟨_, _, _, hA⟩ PA_20) m1 ?_
          have q2 := grown_setCells (x19.heap.size) (pcs vB fC).toList (x20.setCells (w4.drew.heap.size) 0 (pcs vA fT).toList) 0
          have PB2 := PB1.setWhole vB fC; have PA2 := PA1.kept q2 (fun h => hne (Option.some.inj h))
          have m2 : Below w4.drew.heap.size w4.drew ((x20.setCells (w4.drew.heap.size) 0 (pcs vA fT).toList).setCells (x19.heap.size) 0 (pcs vB fC).toList) := m1.trans (grown_below q2 m1.size lB)
          refine rgd_do 9 none (by kernel_rfl) rfl rfl (by kernel_rfl) ((x20.setCells (w4.drew.heap.size) 0 (pcs vA fT).toList).setCells (x19.heap.size) 0 (pcs vB fC).toList) (exec_pstore _ _ rfl (x19.heap.size) (by kernel_rfl) vB fC (by kernel_rfl) ⟨_, _, _, hB⟩ PB1) m2 ?_
          have hT : TwoPasts w4.drew kT fT kC fC (w4.drew.heap.size) (x19.heap.size) vA vB KA KB ((x20.setCells (w4.drew.heap.size) 0 (pcs vA fT).toList).setCells (x19.heap.size) 0 (pcs vB fC).toList) := ⟨PA2, PB2, EA_20.setTwo PA_20 PB_20 PB1 q1 q2, EB_20.setTwo PA_20 PB_20 PB1 q1 q2, eA, eB, m2⟩
          exact wpAnyH_done (by kernel_rfl) (Eq.mp (by kernel_rfl) (KK (w4.drew.heap.size) (x19.heap.size) vA vB KA KB _ hT)) _
        · have hb21 := below_alloc x18 (.cells (pcs (.slice none 0 0) fun _ => 0) 26)
          have PB_21 : Px (x18.alloc (.cells (pcs (.slice none 0 0) fun _ => 0) 26)) x18.heap.size (.slice none 0 0) (fun _ => 0) := heap_alloc_new x18 _
          have lB : w4.drew.heap.size ≤ x18.heap.size := M18.size
          have M21 : Below w4.drew.heap.size w4.drew (x18.alloc (.cells (pcs (.slice none 0 0) fun _ => 0) 26)) := thenBelow M18 hb21
          have PA_21 := PA_18.later hb21
          have EA_21 := EA_18.later hb21
          have hne_21 : w4.drew.heap.size ≠ x18.heap.size := Nat.ne_of_lt PA_18.lt
          generalize x18.alloc (.cells (pcs (.slice none 0 0) fun _ => 0) 26) = x21 at *
          refine rgd_call 5 (some 23) (by kernel_rfl) rfl rfl (by kernel_rfl) 14 (#[.agg (pcs (.slice p L.length c) F), .agg (vf v)]) (by kernel_rfl) (T2.out _ M21) ?_
          rintro _ x22 ⟨vB, KB, rfl, oB, eB, hb22⟩
          have M22 : Below w4.drew.heap.size w4.drew x22 := thenBelow M21 hb22
          refine ⟨_, rfl, M22, ?_⟩
          have PA_22 := PA_21.later hb22
          have EA_22 := EA_21.later hb22
          have hne_22 := hne_21
          have PB_22 := PB_21.later hb22
          have EB_22 := oB.base M21.size
          clear oB
          have hne : w4.drew.heap.size ≠ x18.heap.size := hne_22
          obtain ⟨pA, cA, hA⟩ := own_slice EA_22.row
          obtain ⟨pB, cB, hB⟩ := own_slice EB_22.row
          have q1 := grown_setCells (w4.drew.heap.size) (pcs vA fT).toList x22 0
          have PA1 := PA_22.setWhole vA fT; have PB1 := PB_22.kept q1 (fun h => hne (Option.some.inj h).symm)
          have m1 : Below w4.drew.heap.size w4.drew (x22.setCells (w4.drew.heap.size) 0 (pcs vA fT).toList) := M22.trans (grown_below q1 M22.size lA)
          refine rgd_do 8 none (by kernel_rfl) rfl rfl (by kernel_rfl) (x22.setCells (w4.drew.heap.size) 0 (pcs vA fT).toList) (exec_pstore _ _ rfl (w4.drew.heap.size) (by kernel_rfl) vA fT (by kernel_rfl) ⟨_, _, _, hA⟩ PA_22) m1 ?_
          have q2 := grown_setCells (x18.heap.size) (pcs vB fC).toList (x22.setCells (w4.drew.heap.size) 0 (pcs vA fT).toList) 0
          have PB2 := PB1.setWhole vB fC; have PA2 := PA1.kept q2 (fun h => hne (Option.some.inj h))
          have m2 : Below w4.drew.heap.size w4.drew ((x22.setCells (w4.drew.heap.size) 0 (pcs vA fT).toList).setCells (x18.heap.size) 0 (pcs vB fC).toList) := m1.trans (grown_below q2 m1.size lB)
          refine rgd_do 9 none (by kernel_rfl) rfl rfl (by kernel_rfl) ((x22.setCells (w4.drew.heap.size) 0 (pcs vA fT).toList).setCells (x18.heap.size) 0 (pcs vB fC).toList) (exec_pstore _ _ rfl (x18.heap.size) (by kernel_rfl) vB fC (by kernel_rfl) ⟨_, _, _, hB⟩ PB1) m2 ?_
          have hT : TwoPasts w4.drew kT fT kC fC (w4.drew.heap.size) (x18.heap.size) vA vB KA KB ((x22.setCells (w4.drew.heap.size) 0 (pcs vA fT).toList).setCells (x18.heap.size) 0 (pcs vB fC).toList) := ⟨PA2, PB2, EA_22.setTwo PA_22 PB_22 PB1 q1 q2, EB_22.setTwo PA_22 PB_22 PB1 q1 q2, eA, eB, m2⟩
          exact wpAnyH_done (by kernel_rfl) (Eq.mp (by kernel_rfl) (KK (w4.drew.heap.size) (x18.heap.size) vA vB KA KB _ hT)) _
      · have hb23 := below_alloc x17 (.cells (pcs (.slice none 0 0) fun _ => 0) 26)
        have PB_23 : Px (x17.alloc (.cells (pcs (.slice none 0 0) fun _ => 0) 26)) x17.heap.size (.slice none 0 0) (fun _ => 0) := heap_alloc_new x17 _
        have lB : w4.drew.heap.size ≤ x17.heap.size := M17.size
        have M23 : Below w4.drew.heap.size w4.drew (x17.alloc (.cells (pcs (.slice none 0 0) fun _ => 0) 26)) := thenBelow M17 hb23
        have PA_23 := PA_17.later hb23
        have hne_23 : w4.drew.heap.size ≠ x17.heap.size := Nat.ne_of_lt PA_17.lt
        generalize x17.alloc (.cells (pcs (.slice none 0 0) fun _ => 0) 26) = x23 at *
        refine rgd_call 2 (some 20) (by kernel_rfl) rfl rfl (by kernel_rfl) 12 (#[.agg (pcs (.slice p L.length c) F), .int .i64 most]) (by kernel_rfl) (T1.out _ M23) ?_
        rintro _ x24 ⟨vA, KA, rfl, oA, eA, hb24⟩
        have M24 : Below w4.drew.heap.size w4.drew x24 := thenBelow M23 hb24
        refine ⟨_, rfl, M24, ?_⟩
        have PA_24 := PA_23.later hb24
        have hne_24 := hne_23
        have PB_24 := PB_23.later hb24
        have EA_24 := oA.base M23.size
        clear oA
        refine rgd_call 5 (some 23) (by kernel_rfl) rfl rfl (by kernel_rfl) 14 (#[.agg (pcs (.slice p L.length c) F), .agg (vf v)]) (by kernel_rfl) (T2.out _ M24) ?_
        rintro _ x25 ⟨vB, KB, rfl, oB, eB, hb25⟩
        have M25 : Below w4.drew.heap.size w4.drew x25 := thenBelow M24 hb25
        refine ⟨_, rfl, M25, ?_⟩
        have PA_25 := PA_24.later hb25
        have hne_25 := hne_24
        have PB_25 := PB_24.later hb25
        have EA_25 := EA_24.later hb25
        have EB_25 := oB.base M24.size
        clear oB
        have hne : w4.drew.heap.size ≠ x17.heap.size := hne_25
        obtain ⟨pA, cA, hA⟩ := own_slice EA_25.row
        obtain ⟨pB, cB, hB⟩ := own_slice EB_25.row
        have q1 := grown_setCells (w4.drew.heap.size) (pcs vA fT).toList x25 0
        have PA1 := PA_25.setWhole vA fT; have PB1 := PB_25.kept q1 (fun h => hne (Option.some.inj h).symm)
        have m1 : Below w4.drew.heap.size w4.drew (x25.setCells (w4.drew.heap.size) 0 (pcs vA fT).toList) := M25.trans (grown_below q1 M25.size lA)
        refine rgd_do 8 none (by kernel_rfl) rfl rfl (by kernel_rfl) (x25.setCells (w4.drew.heap.size) 0 (pcs vA fT).toList) (exec_pstore _ _ rfl (w4.drew.heap.size) (by kernel_rfl) vA fT (by kernel_rfl) ⟨_, _, _, hA⟩ PA_25) m1 ?_
        have q2 := grown_setCells (x17.heap.size) (pcs vB fC).toList (x25.setCells (w4.drew.heap.size) 0 (pcs vA fT).toList) 0
        have PB2 := PB1.setWhole vB fC; have PA2 := PA1.kept q2 (fun h => hne (Option.some.inj h))
        have m2 : Below w4.drew.heap.size w4.drew ((x25.setCells (w4.drew.heap.size) 0 (pcs vA fT).toList).setCells (x17.heap.size) 0 (pcs vB fC).toList) := m1.trans (grown_below q2 m1.size lB)
        refine rgd_do 9 none (by kernel_rfl) rfl rfl (by kernel_rfl) ((x25.setCells (w4.drew.heap.size) 0 (pcs vA fT).toList).setCells (x17.heap.size) 0 (pcs vB fC).toList) (exec_pstore _ _ rfl (x17.heap.size) (by kernel_rfl) vB fC (by kernel_rfl) ⟨_, _, _, hB⟩ PB1) m2 ?_
        have hT : TwoPasts w4.drew kT fT kC fC (w4.drew.heap.size) (x17.heap.size) vA vB KA KB ((x25.setCells (w4.drew.heap.size) 0 (pcs vA fT).toList).setCells (x17.heap.size) 0 (pcs vB fC).toList) := ⟨PA2, PB2, EA_25.setTwo PA_25 PB_25 PB1 q1 q2, EB_25.setTwo PA_25 PB_25 PB1 q1 q2, eA, eB, m2⟩
        exact wpAnyH_done (by kernel_rfl) (Eq.mp (by kernel_rfl) (KK (w4.drew.heap.size) (x17.heap.size) vA vB KA KB _ hT)) _
    · have hb26 := below_alloc w4.drew (.cells (pcs (.slice none 0 0) fun _ => 0) 26)
      have PB_26 : Px (w4.drew.alloc (.cells (pcs (.slice none 0 0) fun _ => 0) 26)) w4.drew.heap.size (.slice none 0 0) (fun _ => 0) := heap_alloc_new w4.drew _
      have lB : w4.drew.heap.size ≤ w4.drew.heap.size := M0.size
      have M26 : Below w4.drew.heap.size w4.drew (w4.drew.alloc (.cells (pcs (.slice none 0 0) fun _ => 0) 26)) := thenBelow M0 hb26
      generalize w4.drew.alloc (.cells (pcs (.slice none 0 0) fun _ => 0) 26) = x26 at *
      refine rgd_two2 2 6 (some 20) (some 7) (by kernel_rfl) rfl rfl (by kernel_rfl) 12 (#[.agg (pcs (.slice p L.length c) F), .int .i64 most]) (by kernel_rfl) (T1.out _ M26) rfl rfl (by kernel_rfl) (.pointer (some ⟨x26.heap.size, 0, none⟩)) (x26.alloc (.cells (pcs (.slice none 0 0) fun _ => 0) 26)) (allocPast rfl _) (thenBelow M26 (below_alloc x26 _)) ?_ ?_
      · rintro _ x27 ⟨vA, KA, rfl, oA, eA, hb27⟩
        have M27 : Below w4.drew.heap.size w4.drew x27 := thenBelow M26 hb27
        refine ⟨_, rfl, M27, ?_⟩
        have PB_27 := PB_26.later hb27
        have EA_27 := oA.base M26.size
        clear oA
        refine rgd_two2 5 6 (some 23) (some 7) (by kernel_rfl) rfl rfl (by kernel_rfl) 14 (#[.agg (pcs (.slice p L.length c) F), .agg (vf v)]) (by kernel_rfl) (T2.out _ M27) rfl rfl (by kernel_rfl) (.pointer (some ⟨x27.heap.size, 0, none⟩)) (x27.alloc (.cells (pcs (.slice none 0 0) fun _ => 0) 26)) (allocPast rfl _) (thenBelow M27 (below_alloc x27 _)) ?_ ?_
        · rintro _ x28 ⟨vB, KB, rfl, oB, eB, hb28⟩
          have M28 : Below w4.drew.heap.size w4.drew x28 := thenBelow M27 hb28
          refine ⟨_, rfl, M28, ?_⟩
          have PB_28 := PB_27.later hb28
          have EA_28 := EA_27.later hb28
          have EB_28 := oB.base M27.size
          clear oB
          refine rgd_run 6 (some 7) (by kernel_rfl) rfl rfl (by kernel_rfl) (.pointer (some ⟨x28.heap.size, 0, none⟩)) (x28.alloc (.cells (pcs (.slice none 0 0) fun _ => 0) 26)) (allocPast rfl _) (thenBelow M28 (below_alloc x28 _)) ?_
          have hb29 := below_alloc x28 (.cells (pcs (.slice none 0 0) fun _ => 0) 26)
          have PA_29 : Px (x28.alloc (.cells (pcs (.slice none 0 0) fun _ => 0) 26)) x28.heap.size (.slice none 0 0) (fun _ => 0) := heap_alloc_new x28 _
          have lA : w4.drew.heap.size ≤ x28.heap.size := M28.size
          have M29 : Below w4.drew.heap.size w4.drew (x28.alloc (.cells (pcs (.slice none 0 0) fun _ => 0) 26)) := thenBelow M28 hb29
          have PB_29 := PB_28.later hb29
          have EA_29 := EA_28.later hb29
          have EB_29 := EB_28.later hb29
          have hne_29 : x28.heap.size ≠ w4.drew.heap.size := Nat.ne_of_gt PB_28.lt
          generalize x28.alloc (.cells (pcs (.slice none 0 0) fun _ => 0) 26) = x29 at *
          have hne : x28.heap.size ≠ w4.drew.heap.size := hne_29
          obtain ⟨pA, cA, hA⟩ := own_slice EA_29.row
          obtain ⟨pB, cB, hB⟩ := own_slice EB_29.row
          have q1 := grown_setCells (x28.heap.size) (pcs vA fT).toList x29 0
          have PA1 := PA_29.setWhole vA fT; have PB1 := PB_29.kept q1 (fun h => hne (Option.some.inj h).symm)
          have m1 : Below w4.drew.heap.size w4.drew (x29.setCells (x28.heap.size) 0 (pcs vA fT).toList) := M29.trans (grown_below q1 M29.size lA)
          refine rgd_do 8 none (by kernel_rfl) rfl rfl (by kernel_rfl) (x29.setCells (x28.heap.size) 0 (pcs vA fT).toList) (exec_pstore _ _ rfl (x28.heap.size) (by kernel_rfl) vA fT (by kernel_rfl) ⟨_, _, _, hA⟩ PA_29) m1 ?_
          have q2 := grown_setCells (w4.drew.heap.size) (pcs vB fC).toList (x29.setCells (x28.heap.size) 0 (pcs vA fT).toList) 0
          have PB2 := PB1.setWhole vB fC; have PA2 := PA1.kept q2 (fun h => hne (Option.some.inj h))
          have m2 : Below w4.drew.heap.size w4.drew ((x29.setCells (x28.heap.size) 0 (pcs vA fT).toList).setCells (w4.drew.heap.size) 0 (pcs vB fC).toList) := m1.trans (grown_below q2 m1.size lB)
          refine rgd_do 9 none (by kernel_rfl) rfl rfl (by kernel_rfl) ((x29.setCells (x28.heap.size) 0 (pcs vA fT).toList).setCells (w4.drew.heap.size) 0 (pcs vB fC).toList) (exec_pstore _ _ rfl (w4.drew.heap.size) (by kernel_rfl) vB fC (by kernel_rfl) ⟨_, _, _, hB⟩ PB1) m2 ?_
          have hT : TwoPasts w4.drew kT fT kC fC (x28.heap.size) (w4.drew.heap.size) vA vB KA KB ((x29.setCells (x28.heap.size) 0 (pcs vA fT).toList).setCells (w4.drew.heap.size) 0 (pcs vB fC).toList) := ⟨PA2, PB2, EA_29.setTwo PA_29 PB_29 PB1 q1 q2, EB_29.setTwo PA_29 PB_29 PB1 q1 q2, eA, eB, m2⟩
          exact wpAnyH_done (by kernel_rfl) (Eq.mp (by kernel_rfl) (KK (x28.heap.size) (w4.drew.heap.size) vA vB KA KB _ hT)) _
        · have hb30 := below_alloc x27 (.cells (pcs (.slice none 0 0) fun _ => 0) 26)
          have PA_30 : Px (x27.alloc (.cells (pcs (.slice none 0 0) fun _ => 0) 26)) x27.heap.size (.slice none 0 0) (fun _ => 0) := heap_alloc_new x27 _
          have lA : w4.drew.heap.size ≤ x27.heap.size := M27.size
          have M30 : Below w4.drew.heap.size w4.drew (x27.alloc (.cells (pcs (.slice none 0 0) fun _ => 0) 26)) := thenBelow M27 hb30
          have PB_30 := PB_27.later hb30
          have EA_30 := EA_27.later hb30
          have hne_30 : x27.heap.size ≠ w4.drew.heap.size := Nat.ne_of_gt PB_27.lt
          generalize x27.alloc (.cells (pcs (.slice none 0 0) fun _ => 0) 26) = x30 at *
          refine rgd_call 5 (some 23) (by kernel_rfl) rfl rfl (by kernel_rfl) 14 (#[.agg (pcs (.slice p L.length c) F), .agg (vf v)]) (by kernel_rfl) (T2.out _ M30) ?_
          rintro _ x31 ⟨vB, KB, rfl, oB, eB, hb31⟩
          have M31 : Below w4.drew.heap.size w4.drew x31 := thenBelow M30 hb31
          refine ⟨_, rfl, M31, ?_⟩
          have PB_31 := PB_30.later hb31
          have EA_31 := EA_30.later hb31
          have hne_31 := hne_30
          have PA_31 := PA_30.later hb31
          have EB_31 := oB.base M30.size
          clear oB
          have hne : x27.heap.size ≠ w4.drew.heap.size := hne_31
          obtain ⟨pA, cA, hA⟩ := own_slice EA_31.row
          obtain ⟨pB, cB, hB⟩ := own_slice EB_31.row
          have q1 := grown_setCells (x27.heap.size) (pcs vA fT).toList x31 0
          have PA1 := PA_31.setWhole vA fT; have PB1 := PB_31.kept q1 (fun h => hne (Option.some.inj h).symm)
          have m1 : Below w4.drew.heap.size w4.drew (x31.setCells (x27.heap.size) 0 (pcs vA fT).toList) := M31.trans (grown_below q1 M31.size lA)
          refine rgd_do 8 none (by kernel_rfl) rfl rfl (by kernel_rfl) (x31.setCells (x27.heap.size) 0 (pcs vA fT).toList) (exec_pstore _ _ rfl (x27.heap.size) (by kernel_rfl) vA fT (by kernel_rfl) ⟨_, _, _, hA⟩ PA_31) m1 ?_
          have q2 := grown_setCells (w4.drew.heap.size) (pcs vB fC).toList (x31.setCells (x27.heap.size) 0 (pcs vA fT).toList) 0
          have PB2 := PB1.setWhole vB fC; have PA2 := PA1.kept q2 (fun h => hne (Option.some.inj h))
          have m2 : Below w4.drew.heap.size w4.drew ((x31.setCells (x27.heap.size) 0 (pcs vA fT).toList).setCells (w4.drew.heap.size) 0 (pcs vB fC).toList) := m1.trans (grown_below q2 m1.size lB)
          refine rgd_do 9 none (by kernel_rfl) rfl rfl (by kernel_rfl) ((x31.setCells (x27.heap.size) 0 (pcs vA fT).toList).setCells (w4.drew.heap.size) 0 (pcs vB fC).toList) (exec_pstore _ _ rfl (w4.drew.heap.size) (by kernel_rfl) vB fC (by kernel_rfl) ⟨_, _, _, hB⟩ PB1) m2 ?_
          have hT : TwoPasts w4.drew kT fT kC fC (x27.heap.size) (w4.drew.heap.size) vA vB KA KB ((x31.setCells (x27.heap.size) 0 (pcs vA fT).toList).setCells (w4.drew.heap.size) 0 (pcs vB fC).toList) := ⟨PA2, PB2, EA_31.setTwo PA_31 PB_31 PB1 q1 q2, EB_31.setTwo PA_31 PB_31 PB1 q1 q2, eA, eB, m2⟩
          exact wpAnyH_done (by kernel_rfl) (Eq.mp (by kernel_rfl) (KK (x27.heap.size) (w4.drew.heap.size) vA vB KA KB _ hT)) _
      · have hb32 := below_alloc x26 (.cells (pcs (.slice none 0 0) fun _ => 0) 26)
        have PA_32 : Px (x26.alloc (.cells (pcs (.slice none 0 0) fun _ => 0) 26)) x26.heap.size (.slice none 0 0) (fun _ => 0) := heap_alloc_new x26 _
        have lA : w4.drew.heap.size ≤ x26.heap.size := M26.size
        have M32 : Below w4.drew.heap.size w4.drew (x26.alloc (.cells (pcs (.slice none 0 0) fun _ => 0) 26)) := thenBelow M26 hb32
        have PB_32 := PB_26.later hb32
        have hne_32 : x26.heap.size ≠ w4.drew.heap.size := Nat.ne_of_gt PB_26.lt
        generalize x26.alloc (.cells (pcs (.slice none 0 0) fun _ => 0) 26) = x32 at *
        refine rgd_call 2 (some 20) (by kernel_rfl) rfl rfl (by kernel_rfl) 12 (#[.agg (pcs (.slice p L.length c) F), .int .i64 most]) (by kernel_rfl) (T1.out _ M32) ?_
        rintro _ x33 ⟨vA, KA, rfl, oA, eA, hb33⟩
        have M33 : Below w4.drew.heap.size w4.drew x33 := thenBelow M32 hb33
        refine ⟨_, rfl, M33, ?_⟩
        have PB_33 := PB_32.later hb33
        have hne_33 := hne_32
        have PA_33 := PA_32.later hb33
        have EA_33 := oA.base M32.size
        clear oA
        refine rgd_call 5 (some 23) (by kernel_rfl) rfl rfl (by kernel_rfl) 14 (#[.agg (pcs (.slice p L.length c) F), .agg (vf v)]) (by kernel_rfl) (T2.out _ M33) ?_
        rintro _ x34 ⟨vB, KB, rfl, oB, eB, hb34⟩
        have M34 : Below w4.drew.heap.size w4.drew x34 := thenBelow M33 hb34
        refine ⟨_, rfl, M34, ?_⟩
        have PB_34 := PB_33.later hb34
        have hne_34 := hne_33
        have PA_34 := PA_33.later hb34
        have EA_34 := EA_33.later hb34
        have EB_34 := oB.base M33.size
        clear oB
        have hne : x26.heap.size ≠ w4.drew.heap.size := hne_34
        obtain ⟨pA, cA, hA⟩ := own_slice EA_34.row
        obtain ⟨pB, cB, hB⟩ := own_slice EB_34.row
        have q1 := grown_setCells (x26.heap.size) (pcs vA fT).toList x34 0
        have PA1 := PA_34.setWhole vA fT; have PB1 := PB_34.kept q1 (fun h => hne (Option.some.inj h).symm)
        have m1 : Below w4.drew.heap.size w4.drew (x34.setCells (x26.heap.size) 0 (pcs vA fT).toList) := M34.trans (grown_below q1 M34.size lA)
        refine rgd_do 8 none (by kernel_rfl) rfl rfl (by kernel_rfl) (x34.setCells (x26.heap.size) 0 (pcs vA fT).toList) (exec_pstore _ _ rfl (x26.heap.size) (by kernel_rfl) vA fT (by kernel_rfl) ⟨_, _, _, hA⟩ PA_34) m1 ?_
        have q2 := grown_setCells (w4.drew.heap.size) (pcs vB fC).toList (x34.setCells (x26.heap.size) 0 (pcs vA fT).toList) 0
        have PB2 := PB1.setWhole vB fC; have PA2 := PA1.kept q2 (fun h => hne (Option.some.inj h))
        have m2 : Below w4.drew.heap.size w4.drew ((x34.setCells (x26.heap.size) 0 (pcs vA fT).toList).setCells (w4.drew.heap.size) 0 (pcs vB fC).toList) := m1.trans (grown_below q2 m1.size lB)
        refine rgd_do 9 none (by kernel_rfl) rfl rfl (by kernel_rfl) ((x34.setCells (x26.heap.size) 0 (pcs vA fT).toList).setCells (w4.drew.heap.size) 0 (pcs vB fC).toList) (exec_pstore _ _ rfl (w4.drew.heap.size) (by kernel_rfl) vB fC (by kernel_rfl) ⟨_, _, _, hB⟩ PB1) m2 ?_
        have hT : TwoPasts w4.drew kT fT kC fC (x26.heap.size) (w4.drew.heap.size) vA vB KA KB ((x34.setCells (x26.heap.size) 0 (pcs vA fT).toList).setCells (w4.drew.heap.size) 0 (pcs vB fC).toList) := ⟨PA2, PB2, EA_34.setTwo PA_34 PB_34 PB1 q1 q2, EB_34.setTwo PA_34 PB_34 PB1 q1 q2, eA, eB, m2⟩
        exact wpAnyH_done (by kernel_rfl) (Eq.mp (by kernel_rfl) (KK (x26.heap.size) (w4.drew.heap.size) vA vB KA KB _ hT)) _
end Go.Proofs.Ytbdedemckmoidaa
