/- The walk of DotsUnion. -/
import Derived.Test.YtnfknnkhabjciaaDotBoth
namespace Go.Proofs.Ytnfknnkhabjciaa
open Go Go.RowKit
set_option linter.unusedVariables false

theorem knowsC2 {f : FuncId} {args : Array Value} {w : World} {b z : Bool} (h : Calls Try.prog f args w fun e w' => e = .returned (.bool b) ∧ Below w.heap.size w w') (hz : b = z) : Calls Try.prog f args w fun e w' => e = .returned (.bool z) ∧ Below w.heap.size w w' := hz ▸ h
theorem sameB_yes {F F' : Nat → Int} {l l' : List Dt} (h : (∀ i, i < 64 → F i = F' i) ∧ l = l') : sameB F F' l l' = true := by
  unfold sameB; rw [veq_of h.1, h.2]; simp

set_option maxHeartbeats 16000000 in
set_option maxRecDepth 100000 in
theorem dotsUnion_walk (F : Nat → Int) (p : Option Addr) (c : Nat) (l : List Dt) (F' : Nat → Int) (p' : Option Addr) (c' : Nat) (l' : List Dt) (q : Option Addr) (k : Nat) (m : List Dt) (W : World) (hd : DotsAt W p l) (n1 : p = none → c = 0) (hd' : DotsAt W p' l') (n2 : p' = none → c' = 0) (hm0 : DotsAt W q m) (n4 : q = none → k = 0) :
    Calls Try.prog 4 #[.agg (ccs F (.slice p l.length c)), .agg (ccs F' (.slice p' l'.length c')), .slice q m.length k] W (Yes W) := by
  have H := Lib.hid hd; have H' := Lib.hid hd'; have HM := Lib.hid hm0
  clear hd hd' hm0
  go_enter Try.func4, Try.ntmps4
  go_wp2_with (refine wpList_gbox rfl _ rfl (ccs F (.slice p l.length c)) rfl ?_)
  intro g1 w1 l1 h1 hb1
  have C1 : Hid (Cx w1 g1 F (.slice p l.length c)) := h1
  have B1 := Lib.hid hb1; have H1 := Lib.hid (H.out.below hb1); have H1' := Lib.hid (H'.out.below hb1); have HM1 := Lib.hid (HM.out.below hb1)
  clear h1 hb1
  go_wp2_with (refine wpList_gbox rfl _ rfl (ccs F' (.slice p' l'.length c')) rfl ?_)
  intro g2 w3 l3 h3 hb3
  have C3 := Lib.hid (C1.out.later hb3); have D3 : Hid (Cx w3 g2 F' (.slice p' l'.length c')) := h3
  have B3 := Lib.hid (thenBelow B1.out hb3); have H3 := Lib.hid (H1.out.below hb3); have H3' := Lib.hid (H1'.out.below hb3); have HM3 := Lib.hid (HM1.out.below hb3)
  clear h3 hb3 C1 H1 H1' HM1 B1
  have s0 := C3.out.slot
  have s1 := D3.out.slot
  have aw := Lib.hid (fun W => awake8 W)
  by_cases hq1 : (60 : Int) < l.length
  · go_wp2_with (fail)
    refine (aw.out _).mono ?_
    rintro e w4 ⟨rfl, hb4⟩
    have B4 := Lib.hid (thenBelow B3.out hb4)
    clear hb4
    go_wp2
    go_ret
    exact ⟨rfl, B4.out⟩
  by_cases hq2 : (60 : Int) < l'.length
  · go_wp2_with (fail)
    refine (aw.out _).mono ?_
    rintro e w4 ⟨rfl, hb4⟩
    have B4 := Lib.hid (thenBelow B3.out hb4)
    clear hb4
    go_wp2
    go_ret
    exact ⟨rfl, B4.out⟩
  by_cases hq3 : (60 : Int) < m.length
  · go_wp2_with (fail)
    refine (aw.out _).mono ?_
    rintro e w4 ⟨rfl, hb4⟩
    have B4 := Lib.hid (thenBelow B3.out hb4)
    clear hb4
    go_wp2
    go_ret
    exact ⟨rfl, B4.out⟩
  have hlen : l.length ≤ 60 := by omega
  have hlen' : l'.length ≤ 60 := by omega
  have hlen2 : m.length ≤ 60 := by omega
  have BO := Lib.hid (bothD_is F F' p p' c c' l l' w3 H3.out H3'.out n1 n2 (by omega))
  go_wp2_with (first | refine wpList_gload rfl _ rfl g1 0 rfl _ (range_of_block C3.out) _ Try.underlying26 rfl (by rw [Array.length_toList]; exact sizeC _ _) ?_ | refine wpList_gload rfl _ rfl g2 0 rfl _ (range_of_block D3.out) _ Try.underlying26 rfl (by rw [Array.length_toList]; exact sizeC _ _) ?_)
  refine BO.out.mono ?_
  rintro e w4 ⟨Ga, oa, Gb, ob, vB, hIa, hIb, rfl, hownB, hb4⟩
  obtain ⟨pB, cB, rfl⟩ := own_shape hownB
  obtain ⟨hdB, _, _⟩ := own_dots hownB
  have C4 := Lib.hid (C3.out.later hb4); have D4 := Lib.hid (D3.out.later hb4)
  have B4 := Lib.hid (thenBelow B3.out hb4); have H4 := Lib.hid (H3.out.below hb4); have H4' := Lib.hid (H3'.out.below hb4); have HM4 := Lib.hid (HM3.out.below hb4)
  have IA := Lib.hid hIa; have IB := Lib.hid hIb
  have TI := Lib.hid (refTidyD_is (fun i => max (Ga i) (Gb i)) pB cB (l ++ l') w4 hdB (by rw [List.length_append]; omega))
  clear hIa hIb hownB hdB hb4 BO C3 D3 H3 H3' HM3 s0 s1 B3
  generalize hJ : (fun i => max (Ga i) (Gb i)) = J at TI ⊢
  generalize hL : l ++ l' = L at TI ⊢
  go_wp2_with (fail)
  refine TI.out.mono ?_
  rintro e w5 ⟨U, ou, v, hIU, rfl, hownU, hb5⟩
  obtain ⟨pu, cu, rfl⟩ := own_shape hownU
  have C5 := Lib.hid (C4.out.later hb5); have D5 := Lib.hid (D4.out.later hb5)
  have B5 := Lib.hid (thenBelow B4.out hb5); have H5 := Lib.hid (H4.out.below hb5); have H5' := Lib.hid (H4'.out.below hb5); have HM5 := Lib.hid (HM4.out.below hb5)
  have O5 := Lib.hid hownU
  have IU : Hid (IsTidy (fun i => max (Ga i) (Gb i)) (l ++ l') U ou) := by rw [hJ, hL]; exact hIU
  clear hIU hownU hb5 TI C4 D4 H4 H4' HM4 B4
  go_wp2_with (refine wpList_galloc _ zeroC rfl rfl ?_)
  intro g7 w6 l6 h6 hb6
  have lw7 := Nat.le_trans B5.out.size l6
  have C6 := Lib.hid (C5.out.later hb6); have D6 := Lib.hid (D5.out.later hb6); have O6 := Lib.hid (own_lat O5.out hb6)
  have B6 := Lib.hid (thenBelow B5.out hb6); have H6 := Lib.hid (H5.out.below hb6); have H6' := Lib.hid (H5'.out.below hb6); have HM6 := Lib.hid (HM5.out.below hb6)
  have h17 : g1 < g7 := Nat.lt_of_lt_of_le C5.out.lt l6
  have h27 : g2 < g7 := Nat.lt_of_lt_of_le D5.out.lt l6
  have rowlt : ∀ (pp : Option Addr) (ll : List Dt), DotsAt w5 pp ll → ∀ b o, pp = some ⟨b, o, none⟩ → ll ≠ [] → b < g7 := fun pp ll hh b o e hn => by
    obtain ⟨b', o', e', hr⟩ := hh.row hn
    rw [e] at e'; cases e'
    exact Nat.lt_of_lt_of_le (range_lt hr hn) l6
  have hO7 : (Value.slice pu ou.length cu).ownBlock ≠ some g7 := fun e => by
    have := own_blk O5.out e
    omega
  clear hb6
  go_wp2_with (refine wpList_gstore rfl _ _ rfl g7 rfl (ccs U (.slice pu ou.length cu)) rfl _ _ h6 (sizeC _ _) (by rw [ccs_size, ccs_size]) (ccs_one U _ _ _) ?_)
  intro w7 h7 gr7
  have CU7 : Hid (Cx w7 g7 U (.slice pu ou.length cu)) := h7
  have C7 := Lib.hid (C6.out.kept gr7 (by simp; omega)); have D7 := Lib.hid (D6.out.kept gr7 (by simp; omega)); have O7 := Lib.hid (own_keptN O6.out gr7 hO7)
  have B7 := Lib.hid (B6.out.trans (grown_below gr7 B6.out.size lw7)); have H7 := Lib.hid (H6.out.kept (rowlt p l H5.out) gr7 (Nat.le_refl _)); have H7' := Lib.hid (H6'.out.kept (rowlt p' l' H5'.out) gr7 (Nat.le_refl _)); have HM7 := Lib.hid (HM6.out.kept (rowlt q m HM5.out) gr7 (Nat.le_refl _))
  clear h6 h7 gr7 rowlt hO7 C5 C6 D5 D6 O5 O6 H5 H5' HM5 H6 H6' HM6 B5 B6 hJ hL
  have BO := Lib.hid (bothD_is F (fun _ => 0) p q c k l m w7 H7.out HM7.out n1 n4 (by omega))
  go_wp2_with (first | refine wpList_gload rfl _ rfl g1 0 rfl _ (range_of_block C7.out) _ Try.underlying26 rfl (by rw [Array.length_toList]; exact sizeC _ _) ?_ | refine wpList_gbuild (by rfl) _ rfl (ccs (fun _ => 0) (.slice q m.length k)) (by simp only [List.map_toArray, List.map_cons, List.map_nil]; exact builtC1 q m.length k _) ?_)
  refine BO.out.mono ?_
  rintro e w8 ⟨Gc, oc, Gd, od, vB, hIc, hId, rfl, hownB, hb8⟩
  obtain ⟨pB2, cB2, rfl⟩ := own_shape hownB
  obtain ⟨hdB, _, _⟩ := own_dots hownB
  have C8 := Lib.hid (C7.out.later hb8); have D8 := Lib.hid (D7.out.later hb8); have CU8 := Lib.hid (CU7.out.later hb8); have O8 := Lib.hid (own_lat O7.out hb8)
  have B8 := Lib.hid (thenBelow B7.out hb8); have H8 := Lib.hid (H7.out.below hb8); have H8' := Lib.hid (H7'.out.below hb8); have HM8 := Lib.hid (HM7.out.below hb8)
  have IC := Lib.hid hIc; have ID := Lib.hid hId
  have TI := Lib.hid (refTidyD_is (fun i => max (Gc i) (Gd i)) pB2 cB2 (l ++ m) w8 hdB (by rw [List.length_append]; omega))
  clear hIc hId hownB hdB hb8 BO C7 D7 CU7 O7 H7 H7' HM7 B7
  generalize hJ : (fun i => max (Gc i) (Gd i)) = J2 at TI ⊢
  generalize hL : l ++ m = L2 at TI ⊢
  go_wp2_with (fail)
  refine TI.out.mono ?_
  rintro e w9 ⟨M, om, v, hIM, rfl, hownM, hb9⟩
  obtain ⟨pm, cm, rfl⟩ := own_shape hownM
  have C9 := Lib.hid (C8.out.later hb9); have D9 := Lib.hid (D8.out.later hb9); have CU9 := Lib.hid (CU8.out.later hb9); have O9 := Lib.hid (own_lat O8.out hb9)
  have B9 := Lib.hid (thenBelow B8.out hb9); have H9 := Lib.hid (H8.out.below hb9); have H9' := Lib.hid (H8'.out.below hb9); have HM9 := Lib.hid (HM8.out.below hb9)
  have OM9 := Lib.hid hownM
  have IM : Hid (IsTidy (fun i => max (Gc i) (Gd i)) (l ++ m) M om) := by rw [hJ, hL]; exact hIM
  clear hIM hownM hb9 TI C8 D8 CU8 O8 H8 H8' HM8 B8
  go_wp2_with (refine wpList_galloc _ zeroC rfl rfl ?_)
  intro g8 wa la ha hba
  have lw8 := Nat.le_trans B9.out.size la
  have CA := Lib.hid (C9.out.later hba); have DA := Lib.hid (D9.out.later hba); have CUA := Lib.hid (CU9.out.later hba); have OA := Lib.hid (own_lat O9.out hba); have OMA := Lib.hid (own_lat OM9.out hba)
  have BA := Lib.hid (thenBelow B9.out hba); have HA := Lib.hid (H9.out.below hba); have HA' := Lib.hid (H9'.out.below hba); have HMA := Lib.hid (HM9.out.below hba)
  have h18 : g1 < g8 := Nat.lt_of_lt_of_le C9.out.lt la
  have h28 : g2 < g8 := Nat.lt_of_lt_of_le D9.out.lt la
  have h78 : g7 < g8 := Nat.lt_of_lt_of_le CU9.out.lt la
  have rowlt : ∀ (pp : Option Addr) (ll : List Dt), DotsAt w9 pp ll → ∀ b o, pp = some ⟨b, o, none⟩ → ll ≠ [] → b < g8 := fun pp ll hh b o e hn => by
    obtain ⟨b', o', e', hr⟩ := hh.row hn
    rw [e] at e'; cases e'
    exact Nat.lt_of_lt_of_le (range_lt hr hn) la
  have hO7 : (Value.slice pu ou.length cu).ownBlock ≠ some g8 := fun e => by
    have := own_blk O9.out e
    omega
  have hO8 : (Value.slice pm om.length cm).ownBlock ≠ some g8 := fun e => by
    have := own_blk OM9.out e
    omega
  clear hba
  go_wp2_with (refine wpList_gstore rfl _ _ rfl g8 rfl (ccs M (.slice pm om.length cm)) rfl _ _ ha (sizeC _ _) (by rw [ccs_size, ccs_size]) (ccs_one M _ _ _) ?_)
  intro wb hbk gr8
  have KA := Lib.hid ((CA.out.kept gr8 (by simp; omega)).later (drew_below (w := wb))); have KB := Lib.hid ((DA.out.kept gr8 (by simp; omega)).later (drew_below (w := wb))); have KU := Lib.hid ((CUA.out.kept gr8 (by simp; omega)).later (drew_below (w := wb)))
  have KM : Hid (Cx wb.drew g8 M (.slice pm om.length cm)) := (show Cx wb g8 M (.slice pm om.length cm) from hbk).later drew_below
  have BB := Lib.hid ((BA.out.trans (grown_below gr8 BA.out.size lw8)).drew)
  have LA := Lib.hid ((HA.out.kept (rowlt p l H9.out) gr8 (Nat.le_refl _)).below (drew_below (w := wb))); have LB := Lib.hid ((HA'.out.kept (rowlt p' l' H9'.out) gr8 (Nat.le_refl _)).below (drew_below (w := wb))); have LM := Lib.hid ((HMA.out.kept (rowlt q m HM9.out) gr8 (Nat.le_refl _)).below (drew_below (w := wb)))
  obtain ⟨hdu, n3, _⟩ := own_dots (own_keptN OA.out gr8 hO7)
  obtain ⟨hdm, n5, _⟩ := own_dots (own_keptN OMA.out gr8 hO8)
  have LU := Lib.hid (hdu.below (drew_below (w := wb))); have LO := Lib.hid (hdm.below (drew_below (w := wb)))
  have hou : ou.length ≤ 120 := Nat.le_trans IU.out.small (by rw [List.length_append]; omega)
  have hom : om.length ≤ 120 := Nat.le_trans IM.out.small (by rw [List.length_append]; omega)
  clear ha hbk gr8 rowlt hO7 hO8 hdu hdm C9 D9 CU9 O9 OM9 H9 H9' HM9 B9 CA DA CUA OA OMA HA HA' HMA BA hJ hL H H' HM
  go_wp2
  have b0 : Below wb.drew.heap.size wb.drew wb.drew := Below.refl _ _
  refine rg_start (n := 5) (S := fun x => Below wb.drew.heap.size wb.drew x) (by kernel_rfl) rfl b0 ?_
  refine rgd_gload 0 (some 35) rfl rfl (by kernel_rfl) (by kernel_rfl) (by kernel_rfl) (fun _ _ _ _ h => h) (by kernel_rfl) _ rfl g7 0 (by kernel_rfl) _ (fun x h => range_of_block (KU.out.later h)) _ Try.underlying26 rfl (by rw [Array.length_toList]; exact sizeC _ _) b0 ?_
  refine rgd_gload 1 (some 36) rfl rfl (by kernel_rfl) (by kernel_rfl) (by kernel_rfl) (fun _ _ _ _ h => h) (by kernel_rfl) _ rfl g2 0 (by kernel_rfl) _ (fun x h => range_of_block (KB.out.later h)) _ Try.underlying26 rfl (by rw [Array.length_toList]; exact sizeC _ _) b0 ?_
  refine rgd_call 2 (some 37) (by kernel_rfl) rfl rfl (by kernel_rfl) 8 #[.agg (ccs F' (.slice p' l'.length c'))] (by kernel_rfl) (refTidyD_is F' p' c' l' wb.drew (LB.out.below b0) (by omega)) ?_
  rintro e x1 ⟨Ub, ub, vb, hIb2, rfl, hownb, hb1⟩
  have b1 := thenBelow b0 hb1
  obtain ⟨pb2, cb2, rfl⟩ := own_shape hownb
  obtain ⟨hdb2, _, _⟩ := own_dots hownb
  have hub : ub.length ≤ 60 := Nat.le_trans hIb2.small hlen'
  refine ⟨_, rfl, b1, ?_⟩
  obtain ⟨x, hx⟩ : ∃ x, x = sameB U Ub ou ub := ⟨_, rfl⟩
  refine rgd_call 3 (some 38) (by kernel_rfl) rfl rfl (by kernel_rfl) 9 #[.agg (ccs U (.slice pu ou.length cu)), .agg (ccs Ub (.slice pb2 ub.length cb2))] (by kernel_rfl) (knowsC2 (same_is U Ub pu pb2 cu cb2 ou ub x1 (LU.out.below b1).row hdb2.row (by omega) (by omega)) hx.symm) ?_
  rintro e x2 ⟨rfl, hb2⟩
  have b2 := thenBelow b1 hb2
  refine ⟨_, rfl, b2, ?_⟩
  refine rgd_pure 4 (some 9) rfl rfl (.bool x) (by kernel_rfl) (by kernel_rfl) (by kernel_rfl) (fun _ _ _ _ h => h) (by kernel_rfl) (fun _ => by kernel_rfl) b2 ?_
  refine wpAnyH_done (by kernel_rfl) ?_ _
  have d2 : Below x2.heap.size x2 x2.drew := drew_below
  have b2 := thenBelow b2 d2
  have BC := Lib.hid (BB.out.trans (b2.mono BB.out.size))
  obtain ⟨y0, hy0⟩ : ∃ y, y = x2.drew := ⟨_, rfl⟩
  have M7 := Lib.hid (KU.out.later b2); have M1 := Lib.hid (KA.out.later b2); have M2 := Lib.hid (KB.out.later b2); have M8 := Lib.hid (KM.out.later b2)
  have NA := Lib.hid (LA.out.below b2); have NB := Lib.hid (LB.out.below b2); have NM := Lib.hid (LM.out.below b2); have NU := Lib.hid (LU.out.below b2); have NO := Lib.hid (LO.out.below b2)
  have IB2 := Lib.hid hIb2; have HX := Lib.hid hx
  clear b0 b1 b2 d2 hb1 hb2 hownb hdb2 hIb2 hx KA KB KU KM LA LB LM LU LO BB hy0
  simp only [Act.put, List.setIfInBounds_toArray, List.set_cons_zero, List.set_cons_succ]
  go_wp2
  have b0 : Below x2.drew.heap.size x2.drew x2.drew := Below.refl _ _
  refine rg_start (n := 23) (S := fun x => Below x2.drew.heap.size x2.drew x) (by kernel_rfl) rfl b0 ?_
  cases x with
  | true =>
    refine rgd_gload 0 (some 39) rfl rfl (by kernel_rfl) (by kernel_rfl) (by kernel_rfl) (fun _ _ _ _ h => h) (by kernel_rfl) _ rfl g1 0 (by kernel_rfl) _ (fun x h => range_of_block (M1.out.later h)) _ Try.underlying26 rfl (by rw [Array.length_toList]; exact sizeC _ _) b0 ?_
    refine rgd_gload 1 (some 40) rfl rfl (by kernel_rfl) (by kernel_rfl) (by kernel_rfl) (fun _ _ _ _ h => h) (by kernel_rfl) _ rfl g2 0 (by kernel_rfl) _ (fun x h => range_of_block (M2.out.later h)) _ Try.underlying26 rfl (by rw [Array.length_toList]; exact sizeC _ _) b0 ?_
    refine rgd_gload 3 (some 42) rfl rfl (by kernel_rfl) (by kernel_rfl) (by kernel_rfl) (fun _ _ _ _ h => h) (by kernel_rfl) _ rfl g7 0 (by kernel_rfl) _ (fun x h => range_of_block (M7.out.later h)) _ Try.underlying26 rfl (by rw [Array.length_toList]; exact sizeC _ _) b0 ?_
    refine rgd_call 2 (some 41) (by kernel_rfl) rfl rfl (by kernel_rfl) 14 #[.agg (ccs F (.slice p l.length c)), .agg (ccs F' (.slice p' l'.length c'))] (by kernel_rfl) (unionD_is F F' p p' c c' l l' x2.drew (NA.out.below b0) (NB.out.below b0) n1 n2 (by omega)) ?_
    rintro e x1 ⟨G2, o2, v2, hI2, rfl, hown2, hb1⟩
    have b1 := thenBelow b0 hb1
    obtain ⟨q2, e2, rfl⟩ := own_shape hown2
    obtain ⟨hd2, _, _⟩ := own_dots hown2
    refine ⟨_, rfl, b1, ?_⟩
    refine rgd_call 4 (some 43) (by kernel_rfl) rfl rfl (by kernel_rfl) 9 #[.agg (ccs G2 (.slice q2 o2.length e2)), .agg (ccs U (.slice pu ou.length cu))] (by kernel_rfl) (knowsC2 (same_is G2 U q2 pu e2 cu o2 ou x1 hd2.row (NU.out.below b1).row (Nat.le_trans hI2.small (by rw [List.length_append]; omega)) (by omega)) (sameB_yes (both_same IA.out IB.out hI2 IU.out))) ?_
    rintro e x2 ⟨rfl, hb2⟩
    have b2 := thenBelow b1 hb2
    refine ⟨_, rfl, b2, ?_⟩
    refine rgd_pure 5 (some 44) rfl rfl (.bool true) (by kernel_rfl) (by kernel_rfl) (by kernel_rfl) (fun _ _ _ _ h => h) (by kernel_rfl) (fun _ => by kernel_rfl) b2 ?_
    refine rgd_gload 6 (some 45) rfl rfl (by kernel_rfl) (by kernel_rfl) (by kernel_rfl) (fun _ _ _ _ h => h) (by kernel_rfl) _ rfl g1 0 (by kernel_rfl) _ (fun x h => range_of_block (M1.out.later h)) _ Try.underlying26 rfl (by rw [Array.length_toList]; exact sizeC _ _) b2 ?_
    refine rgd_pure 7 (some 46) rfl rfl (.slice q m.length k) (by kernel_rfl) (by kernel_rfl) (by kernel_rfl) (fun _ _ _ _ h => h) (by kernel_rfl) (fun _ => by kernel_rfl) b2 ?_
    refine rgd_gload 9 (some 48) rfl rfl (by kernel_rfl) (by kernel_rfl) (by kernel_rfl) (fun _ _ _ _ h => h) (by kernel_rfl) _ rfl g8 0 (by kernel_rfl) _ (fun x h => range_of_block (M8.out.later h)) _ Try.underlying26 rfl (by rw [Array.length_toList]; exact sizeC _ _) b2 ?_
    refine rgd_call 8 (some 47) (by kernel_rfl) rfl rfl (by kernel_rfl) 15 #[.agg (ccs F (.slice p l.length c)), .slice q m.length k] (by kernel_rfl) (addD_is F p q c k l m x2 (NA.out.below b2) (NM.out.below b2) n1 n4 (by omega)) ?_
    rintro e x3 ⟨G3, o3, v3, hI3, rfl, hown3, hb3⟩
    have b3 := thenBelow b2 hb3
    obtain ⟨q3, e3, rfl⟩ := own_shape hown3
    obtain ⟨hd3, _, _⟩ := own_dots hown3
    refine ⟨_, rfl, b3, ?_⟩
    refine rgd_call 10 (some 49) (by kernel_rfl) rfl rfl (by kernel_rfl) 9 #[.agg (ccs G3 (.slice q3 o3.length e3)), .agg (ccs M (.slice pm om.length cm))] (by kernel_rfl) (knowsC2 (same_is G3 M q3 pm e3 cm o3 om x3 hd3.row (NO.out.below b3).row (Nat.le_trans hI3.small (by rw [List.length_append]; omega)) (by omega)) (sameB_yes (more_same IC.out ID.out hI3 IM.out))) ?_
    rintro e x4 ⟨rfl, hb4⟩
    have b4 := thenBelow b3 hb4
    refine ⟨_, rfl, b4, ?_⟩
    refine rgd_pure 11 (some 50) rfl rfl (.bool true) (by kernel_rfl) (by kernel_rfl) (by kernel_rfl) (fun _ _ _ _ h => h) (by kernel_rfl) (fun _ => by kernel_rfl) b4 ?_
    refine rgd_pure 12 (some 51) rfl rfl (.bool true) (by kernel_rfl) (by kernel_rfl) (by kernel_rfl) (fun _ _ _ _ h => h) (by kernel_rfl) (fun _ => by kernel_rfl) b4 ?_
    refine rgd_gload 13 (some 52) rfl rfl (by kernel_rfl) (by kernel_rfl) (by kernel_rfl) (fun _ _ _ _ h => h) (by kernel_rfl) _ rfl g1 0 (by kernel_rfl) _ (fun x h => range_of_block (M1.out.later h)) _ Try.underlying26 rfl (by rw [Array.length_toList]; exact sizeC _ _) b4 ?_
    refine rgd_gload 14 (some 53) rfl rfl (by kernel_rfl) (by kernel_rfl) (by kernel_rfl) (fun _ _ _ _ h => h) (by kernel_rfl) _ rfl g2 0 (by kernel_rfl) _ (fun x h => range_of_block (M2.out.later h)) _ Try.underlying26 rfl (by rw [Array.length_toList]; exact sizeC _ _) b4 ?_
    refine rgd_pure 16 (some 55) rfl rfl (.bool true) (by kernel_rfl) (by kernel_rfl) (by kernel_rfl) (fun _ _ _ _ h => h) (by kernel_rfl) (fun _ => by kernel_rfl) b4 ?_
    refine rgd_call 15 (some 54) (by kernel_rfl) rfl rfl (by kernel_rfl) 16 #[.agg (ccs F (.slice p l.length c)), .agg (ccs F' (.slice p' l'.length c'))] (by kernel_rfl) (insideD_is F F' p p' c c' l l' x4 (NA.out.below b4) (NB.out.below b4) n1 n2 (by omega)) ?_
    rintro e x5 ⟨y, rfl, ⟨G4, o4, G5, o5, hI4, hI5, hy⟩, hb5⟩
    have b5 := thenBelow b4 hb5
    have e4 := both_same IA.out IB.out hI4 IU.out
    have e5 := hI5.unique IB2.out (fun _ _ => rfl) (fun _ _ => Iff.rfl)
    obtain rfl : y = true := by rw [hy, sameB_congr e4.1 e4.2 e5.1 e5.2, HX.out]
    clear hy
    refine ⟨_, rfl, b5, ?_⟩
    refine rgd_pure 17 (some 56) rfl rfl (.bool true) (by kernel_rfl) (by kernel_rfl) (by kernel_rfl) (fun _ _ _ _ h => h) (by kernel_rfl) (fun _ => by kernel_rfl) b5 ?_
    refine rgd_pure 18 (some 57) rfl rfl (.bool true) (by kernel_rfl) (by kernel_rfl) (by kernel_rfl) (fun _ _ _ _ h => h) (by kernel_rfl) (fun _ => by kernel_rfl) b5 ?_
    refine rgd_pure 19 (some 58) rfl rfl (.bool true) (by kernel_rfl) (by kernel_rfl) (by kernel_rfl) (fun _ _ _ _ h => h) (by kernel_rfl) (fun _ => by kernel_rfl) b5 ?_
    refine rgd_call 20 (some 59) (by kernel_rfl) rfl rfl (by kernel_rfl) 6 #[] (by kernel_rfl) (awake8 x5) ?_
    rintro e x6 ⟨rfl, hb6⟩
    have b6 := thenBelow b5 hb6
    refine ⟨_, rfl, b6, ?_⟩
    refine rgd_pure 21 (some 60) rfl rfl (.bool true) (by kernel_rfl) (by kernel_rfl) (by kernel_rfl) (fun _ _ _ _ h => h) (by kernel_rfl) (fun _ => by kernel_rfl) b6 ?_
    refine rgd_pure 22 (some 6) rfl rfl (.bool true) (by kernel_rfl) (by kernel_rfl) (by kernel_rfl) (fun _ _ _ _ h => h) (by kernel_rfl) (fun _ => by kernel_rfl) b6 ?_
    refine wpAnyH_done (by kernel_rfl) ?_ _
    have BZ := Lib.hid (BC.out.trans (b6.mono BC.out.size))
    clear b0 b1 b2 b3 b4 b5 b6
    simp only [Act.put, List.setIfInBounds_toArray, List.set_cons_zero, List.set_cons_succ]
    go_wp2
    go_ret
    exact ⟨ret_bool (by first | rfl | (simp; done)), BZ.out⟩
  | false =>
    refine rgd_gload 0 (some 39) rfl rfl (by kernel_rfl) (by kernel_rfl) (by kernel_rfl) (fun _ _ _ _ h => h) (by kernel_rfl) _ rfl g1 0 (by kernel_rfl) _ (fun x h => range_of_block (M1.out.later h)) _ Try.underlying26 rfl (by rw [Array.length_toList]; exact sizeC _ _) b0 ?_
    refine rgd_gload 1 (some 40) rfl rfl (by kernel_rfl) (by kernel_rfl) (by kernel_rfl) (fun _ _ _ _ h => h) (by kernel_rfl) _ rfl g2 0 (by kernel_rfl) _ (fun x h => range_of_block (M2.out.later h)) _ Try.underlying26 rfl (by rw [Array.length_toList]; exact sizeC _ _) b0 ?_
    refine rgd_gload 3 (some 42) rfl rfl (by kernel_rfl) (by kernel_rfl) (by kernel_rfl) (fun _ _ _ _ h => h) (by kernel_rfl) _ rfl g7 0 (by kernel_rfl) _ (fun x h => range_of_block (M7.out.later h)) _ Try.underlying26 rfl (by rw [Array.length_toList]; exact sizeC _ _) b0 ?_
    refine rgd_call 2 (some 41) (by kernel_rfl) rfl rfl (by kernel_rfl) 14 #[.agg (ccs F (.slice p l.length c)), .agg (ccs F' (.slice p' l'.length c'))] (by kernel_rfl) (unionD_is F F' p p' c c' l l' x2.drew (NA.out.below b0) (NB.out.below b0) n1 n2 (by omega)) ?_
    rintro e x1 ⟨G2, o2, v2, hI2, rfl, hown2, hb1⟩
    have b1 := thenBelow b0 hb1
    obtain ⟨q2, e2, rfl⟩ := own_shape hown2
    obtain ⟨hd2, _, _⟩ := own_dots hown2
    refine ⟨_, rfl, b1, ?_⟩
    refine rgd_call 4 (some 43) (by kernel_rfl) rfl rfl (by kernel_rfl) 9 #[.agg (ccs G2 (.slice q2 o2.length e2)), .agg (ccs U (.slice pu ou.length cu))] (by kernel_rfl) (knowsC2 (same_is G2 U q2 pu e2 cu o2 ou x1 hd2.row (NU.out.below b1).row (Nat.le_trans hI2.small (by rw [List.length_append]; omega)) (by omega)) (sameB_yes (both_same IA.out IB.out hI2 IU.out))) ?_
    rintro e x2 ⟨rfl, hb2⟩
    have b2 := thenBelow b1 hb2
    refine ⟨_, rfl, b2, ?_⟩
    refine rgd_pure 5 (some 44) rfl rfl (.bool true) (by kernel_rfl) (by kernel_rfl) (by kernel_rfl) (fun _ _ _ _ h => h) (by kernel_rfl) (fun _ => by kernel_rfl) b2 ?_
    refine rgd_gload 6 (some 45) rfl rfl (by kernel_rfl) (by kernel_rfl) (by kernel_rfl) (fun _ _ _ _ h => h) (by kernel_rfl) _ rfl g1 0 (by kernel_rfl) _ (fun x h => range_of_block (M1.out.later h)) _ Try.underlying26 rfl (by rw [Array.length_toList]; exact sizeC _ _) b2 ?_
    refine rgd_pure 7 (some 46) rfl rfl (.slice q m.length k) (by kernel_rfl) (by kernel_rfl) (by kernel_rfl) (fun _ _ _ _ h => h) (by kernel_rfl) (fun _ => by kernel_rfl) b2 ?_
    refine rgd_gload 9 (some 48) rfl rfl (by kernel_rfl) (by kernel_rfl) (by kernel_rfl) (fun _ _ _ _ h => h) (by kernel_rfl) _ rfl g8 0 (by kernel_rfl) _ (fun x h => range_of_block (M8.out.later h)) _ Try.underlying26 rfl (by rw [Array.length_toList]; exact sizeC _ _) b2 ?_
    refine rgd_call 8 (some 47) (by kernel_rfl) rfl rfl (by kernel_rfl) 15 #[.agg (ccs F (.slice p l.length c)), .slice q m.length k] (by kernel_rfl) (addD_is F p q c k l m x2 (NA.out.below b2) (NM.out.below b2) n1 n4 (by omega)) ?_
    rintro e x3 ⟨G3, o3, v3, hI3, rfl, hown3, hb3⟩
    have b3 := thenBelow b2 hb3
    obtain ⟨q3, e3, rfl⟩ := own_shape hown3
    obtain ⟨hd3, _, _⟩ := own_dots hown3
    refine ⟨_, rfl, b3, ?_⟩
    refine rgd_call 10 (some 49) (by kernel_rfl) rfl rfl (by kernel_rfl) 9 #[.agg (ccs G3 (.slice q3 o3.length e3)), .agg (ccs M (.slice pm om.length cm))] (by kernel_rfl) (knowsC2 (same_is G3 M q3 pm e3 cm o3 om x3 hd3.row (NO.out.below b3).row (Nat.le_trans hI3.small (by rw [List.length_append]; omega)) (by omega)) (sameB_yes (more_same IC.out ID.out hI3 IM.out))) ?_
    rintro e x4 ⟨rfl, hb4⟩
    have b4 := thenBelow b3 hb4
    refine ⟨_, rfl, b4, ?_⟩
    refine rgd_pure 11 (some 50) rfl rfl (.bool true) (by kernel_rfl) (by kernel_rfl) (by kernel_rfl) (fun _ _ _ _ h => h) (by kernel_rfl) (fun _ => by kernel_rfl) b4 ?_
    refine rgd_pure 12 (some 51) rfl rfl (.bool true) (by kernel_rfl) (by kernel_rfl) (by kernel_rfl) (fun _ _ _ _ h => h) (by kernel_rfl) (fun _ => by kernel_rfl) b4 ?_
    refine rgd_gload 13 (some 52) rfl rfl (by kernel_rfl) (by kernel_rfl) (by kernel_rfl) (fun _ _ _ _ h => h) (by kernel_rfl) _ rfl g1 0 (by kernel_rfl) _ (fun x h => range_of_block (M1.out.later h)) _ Try.underlying26 rfl (by rw [Array.length_toList]; exact sizeC _ _) b4 ?_
    refine rgd_gload 14 (some 53) rfl rfl (by kernel_rfl) (by kernel_rfl) (by kernel_rfl) (fun _ _ _ _ h => h) (by kernel_rfl) _ rfl g2 0 (by kernel_rfl) _ (fun x h => range_of_block (M2.out.later h)) _ Try.underlying26 rfl (by rw [Array.length_toList]; exact sizeC _ _) b4 ?_
    refine rgd_pure 16 (some 55) rfl rfl (.bool false) (by kernel_rfl) (by kernel_rfl) (by kernel_rfl) (fun _ _ _ _ h => h) (by kernel_rfl) (fun _ => by kernel_rfl) b4 ?_
    refine rgd_call 15 (some 54) (by kernel_rfl) rfl rfl (by kernel_rfl) 16 #[.agg (ccs F (.slice p l.length c)), .agg (ccs F' (.slice p' l'.length c'))] (by kernel_rfl) (insideD_is F F' p p' c c' l l' x4 (NA.out.below b4) (NB.out.below b4) n1 n2 (by omega)) ?_
    rintro e x5 ⟨y, rfl, ⟨G4, o4, G5, o5, hI4, hI5, hy⟩, hb5⟩
    have b5 := thenBelow b4 hb5
    have e4 := both_same IA.out IB.out hI4 IU.out
    have e5 := hI5.unique IB2.out (fun _ _ => rfl) (fun _ _ => Iff.rfl)
    obtain rfl : y = false := by rw [hy, sameB_congr e4.1 e4.2 e5.1 e5.2, HX.out]
    clear hy
    refine ⟨_, rfl, b5, ?_⟩
    refine rgd_pure 17 (some 56) rfl rfl (.bool true) (by kernel_rfl) (by kernel_rfl) (by kernel_rfl) (fun _ _ _ _ h => h) (by kernel_rfl) (fun _ => by kernel_rfl) b5 ?_
    refine rgd_pure 18 (some 57) rfl rfl (.bool true) (by kernel_rfl) (by kernel_rfl) (by kernel_rfl) (fun _ _ _ _ h => h) (by kernel_rfl) (fun _ => by kernel_rfl) b5 ?_
    refine rgd_pure 19 (some 58) rfl rfl (.bool true) (by kernel_rfl) (by kernel_rfl) (by kernel_rfl) (fun _ _ _ _ h => h) (by kernel_rfl) (fun _ => by kernel_rfl) b5 ?_
    refine rgd_call 20 (some 59) (by kernel_rfl) rfl rfl (by kernel_rfl) 6 #[] (by kernel_rfl) (awake8 x5) ?_
    rintro e x6 ⟨rfl, hb6⟩
    have b6 := thenBelow b5 hb6
    refine ⟨_, rfl, b6, ?_⟩
    refine rgd_pure 21 (some 60) rfl rfl (.bool true) (by kernel_rfl) (by kernel_rfl) (by kernel_rfl) (fun _ _ _ _ h => h) (by kernel_rfl) (fun _ => by kernel_rfl) b6 ?_
    refine rgd_pure 22 (some 6) rfl rfl (.bool true) (by kernel_rfl) (by kernel_rfl) (by kernel_rfl) (fun _ _ _ _ h => h) (by kernel_rfl) (fun _ => by kernel_rfl) b6 ?_
    refine wpAnyH_done (by kernel_rfl) ?_ _
    have BZ := Lib.hid (BC.out.trans (b6.mono BC.out.size))
    clear b0 b1 b2 b3 b4 b5 b6
    simp only [Act.put, List.setIfInBounds_toArray, List.set_cons_zero, List.set_cons_succ]
    go_wp2
    go_ret
    exact ⟨ret_bool (by first | rfl | (simp; done)), BZ.out⟩
end Go.Proofs.Ytnfknnkhabjciaa
