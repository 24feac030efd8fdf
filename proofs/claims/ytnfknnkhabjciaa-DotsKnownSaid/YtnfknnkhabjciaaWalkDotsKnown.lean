/- The walk of DotsKnown. -/
import Derived.Test.YtnfknnkhabjciaaDotInside
namespace Go.Proofs.Ytnfknnkhabjciaa
open Go Go.RowKit
set_option linter.unusedVariables false

theorem sameB_of {F F' : Nat → Int} {l l' : List Dt} (h : ∀ i, i < 64 → F i = F' i) (hl : l = l') : sameB F F' l l' = true := by
  unfold sameB; rw [veq_of h, hl]; simp
theorem knowsB_both (F F' : Nat → Int) (l l' : List Dt) (d : Dt) : knowsB (fun i => max (F i) (F' i)) (l ++ l') d = (knowsB F l d || knowsB F' l' d) := by
  rw [Bool.eq_iff_iff, Bool.or_eq_true, knows_iff, knows_iff, knows_iff, List.mem_append]
  constructor
  · rintro ⟨hv, h | h | h⟩
    · rcases Int.le_total (F d.1.toNat) (F' d.1.toNat) with e | e
      · exact .inr ⟨hv, .inl (by omega)⟩
      · exact .inl ⟨hv, .inl (by omega)⟩
    · exact .inl ⟨hv, .inr h⟩
    · exact .inr ⟨hv, .inr h⟩
  · rintro (⟨hv, h | h⟩ | ⟨hv, h | h⟩)
    · exact ⟨hv, .inl (by omega)⟩
    · exact ⟨hv, .inr (.inl h)⟩
    · exact ⟨hv, .inl (by omega)⟩
    · exact ⟨hv, .inr (.inr h)⟩
theorem knowsC {f : FuncId} {args : Array Value} {w : World} {b z : Bool} (h : Calls Try.prog f args w fun e w' => e = .returned (.bool b) ∧ Below w.heap.size w w') (hz : b = z) : Calls Try.prog f args w fun e w' => e = .returned (.bool z) ∧ Below w.heap.size w w' := hz ▸ h
section
variable {F F' U : Nat → Int} {l l' ou : List Dt} (h : IsTidy (fun i => max (F i) (F' i)) (l ++ l') U ou)
include h
theorem union_turned {G : Nat → Int} {o : List Dt} (h2 : IsTidy (fun i => max (F' i) (F i)) (l' ++ l) G o) : sameB G U o ou = true := by
  obtain ⟨e1, e2⟩ := h2.unique h (fun i _ => by unfold clampF; simp only; omega) (fun d _ => by rw [List.mem_append, List.mem_append, or_comm])
  exact sameB_of e1 e2
theorem union_in : IsTidy (fun i => max (U i) (F i)) (ou ++ l) U ou :=
  h.within (A := F) (m := l) (fun i hi => by have := h.base i hi; unfold clampF at *; simp only at this; omega) (fun d hd _ => List.mem_append.2 (.inl hd)) (fun i _ => rfl) (fun d _ => List.mem_append)
theorem union_again {G : Nat → Int} {o : List Dt} (h2 : IsTidy (fun i => max (U i) (F i)) (ou ++ l) G o) : sameB G U o ou = true := by
  obtain ⟨e1, e2⟩ := h2.unique (union_in h) (fun _ _ => rfl) (fun _ _ => Iff.rfl)
  exact sameB_of e1 e2
theorem union_inside {b : Bool} (hb : InsideR F U l ou b) : b = true := by
  obtain ⟨G, o, G', o', h1, h2, rfl⟩ := hb
  have hw : IsTidy (fun i => max (F i) (U i)) (l ++ ou) U ou :=
    h.within (A := F) (m := l) (fun i hi => by have := h.base i hi; unfold clampF at *; simp only at this; omega) (fun d hd _ => List.mem_append.2 (.inl hd)) (fun i _ => Int.max_comm _ _) (fun d _ => by rw [List.mem_append, or_comm])
  obtain ⟨e1, e2⟩ := h1.unique hw (fun _ _ => rfl) (fun _ _ => Iff.rfl)
  obtain ⟨e3, e4⟩ := h2.unique h.again (fun _ _ => rfl) (fun _ _ => Iff.rfl)
  exact sameB_of (fun i hi => (e1 i hi).trans (e3 i hi).symm) (e2.trans e4.symm)
end

set_option maxHeartbeats 16000000 in
set_option maxRecDepth 100000 in
theorem dotsKnown_walk (F : Nat → Int) (p : Option Addr) (c : Nat) (l : List Dt) (F' : Nat → Int) (p' : Option Addr) (c' : Nat) (l' : List Dt) (d : Dt) (W : World) (hd : DotsAt W p l) (n1 : p = none → c = 0) (hd' : DotsAt W p' l') (n2 : p' = none → c' = 0) :
    Calls Try.prog 5 #[.agg (ccs F (.slice p l.length c)), .agg (ccs F' (.slice p' l'.length c')), .agg (dcs d.1 d.2)] W (Yes W) := by
  have H := Lib.hid hd; have H' := Lib.hid hd'
  clear hd hd'
  go_enter Try.func5, Try.ntmps5
  go_wp2_with (refine wpList_gbox rfl _ rfl (ccs F (.slice p l.length c)) rfl ?_)
  intro g1 w1 l1 h1 hb1
  have C1 : Hid (Cx w1 g1 F (.slice p l.length c)) := h1
  have B1 := Lib.hid hb1; have H1 := Lib.hid (H.out.below hb1); have H1' := Lib.hid (H'.out.below hb1)
  clear h1 hb1
  go_wp2_with (refine wpList_gbox rfl _ rfl (ccs F' (.slice p' l'.length c')) rfl ?_)
  intro g2 w2 l2 h2 hb2
  have C2 := Lib.hid (C1.out.later hb2); have D2 : Hid (Cx w2 g2 F' (.slice p' l'.length c')) := h2
  have B2 := Lib.hid (thenBelow B1.out hb2); have H2 := Lib.hid (H1.out.below hb2); have H2' := Lib.hid (H1'.out.below hb2)
  clear h2 hb2
  go_wp2_with (refine wpList_gbox rfl _ rfl (dcs d.1 d.2) rfl ?_)
  intro g3 w3 l3 h3 hb3
  have C3 := Lib.hid (C2.out.later hb3); have D3 := Lib.hid (D2.out.later hb3); have R3 := Lib.hid (range_of_block h3)
  have B3 := Lib.hid (thenBelow B2.out hb3); have H3 := Lib.hid (H2.out.below hb3); have H3' := Lib.hid (H2'.out.below hb3)
  clear h3 hb3 C1 C2 D2 H1 H1' H2 H2' B1 B2
  have s0 := C3.out.slot
  have s1 := D3.out.slot
  have aw := Lib.hid (fun W => awake8 W)
  by_cases hm : (60 : Int) < l.length
  · go_wp2_with (fail)
    refine (aw.out _).mono ?_
    rintro e w4 ⟨rfl, hb4⟩
    have B4 := Lib.hid (thenBelow B3.out hb4)
    clear hb4
    go_wp2
    go_ret
    exact ⟨rfl, B4.out⟩
  by_cases hm2 : (60 : Int) < l'.length
  · go_wp2_with (fail)
    refine (aw.out _).mono ?_
    rintro e w4 ⟨rfl, hb4⟩
    have B4 := Lib.hid (thenBelow B3.out hb4)
    clear hb4
    go_wp2
    go_ret
    exact ⟨rfl, B4.out⟩
  have hlen : l.length ≤ 60 := by omega
  have hlen' : l'.length ≤ 60 := by omega
  have UN := Lib.hid (unionD_is F F' p p' c c' l l' w3 H3.out H3'.out n1 n2 (by omega))
  go_wp2_with (first | refine wpList_gload rfl _ rfl g1 0 rfl _ (range_of_block C3.out) _ Try.underlying26 rfl (by rw [Array.length_toList]; exact sizeC _ _) ?_ | refine wpList_gload rfl _ rfl g2 0 rfl _ (range_of_block D3.out) _ Try.underlying26 rfl (by rw [Array.length_toList]; exact sizeC _ _) ?_)
  refine UN.out.mono ?_
  rintro e w4 ⟨U, ou, v, hIU, rfl, hownU, hb4⟩
  obtain ⟨pu, cu, rfl⟩ := own_shape hownU
  have C4 := Lib.hid (C3.out.later hb4); have D4 := Lib.hid (D3.out.later hb4); have R4 := Lib.hid (range_below R3.out hb4)
  have B4 := Lib.hid (thenBelow B3.out hb4); have H4 := Lib.hid (H3.out.below hb4); have H4' := Lib.hid (H3'.out.below hb4)
  have O4 := Lib.hid hownU; have IU := Lib.hid hIU
  clear hIU hownU hb4 UN C3 D3 R3 H3 H3' s0 s1
  go_wp2_with (refine wpList_galloc _ zeroC rfl rfl ?_)
  intro g7 w5 l5 h5 hb5
  have C5 := Lib.hid (C4.out.later hb5); have D5 := Lib.hid (D4.out.later hb5); have R5 := Lib.hid (range_below R4.out hb5)
  have B5 := Lib.hid (thenBelow B4.out hb5); have H5 := Lib.hid (H4.out.below hb5); have H5' := Lib.hid (H4'.out.below hb5); have O5 := Lib.hid (own_lat O4.out hb5)
  have h17 : g1 < g7 := Nat.lt_of_lt_of_le C4.out.lt l5
  have h27 : g2 < g7 := Nat.lt_of_lt_of_le D4.out.lt l5
  have h37 : g3 < g7 := Nat.lt_of_lt_of_le (World.block_lt_of_cell? w4 _ (R4.out 0 _ rfl)) l5
  have lw7 := Nat.le_trans B4.out.size l5
  have hB7 : ∀ b o, p = some ⟨b, o, none⟩ → l ≠ [] → b < g7 := fun b o e hn => by
    obtain ⟨b', o', e', hr⟩ := H4.out.row hn
    rw [e] at e'; cases e'
    exact Nat.lt_of_lt_of_le (range_lt hr hn) l5
  have hB7' : ∀ b o, p' = some ⟨b, o, none⟩ → l' ≠ [] → b < g7 := fun b o e hn => by
    obtain ⟨b', o', e', hr⟩ := H4'.out.row hn
    rw [e] at e'; cases e'
    exact Nat.lt_of_lt_of_le (range_lt hr hn) l5
  have hO7 : (Value.slice pu ou.length cu).ownBlock ≠ some g7 := fun e => by
    have := own_blk O4.out e
    omega
  clear hb5
  go_wp2_with (refine wpList_gstore rfl _ _ rfl g7 rfl (ccs U (.slice pu ou.length cu)) rfl _ _ h5 (sizeC _ _) (by rw [ccs_size, ccs_size]) (ccs_one U _ _ _) ?_)
  intro w6 h6 g6
  have CU : Hid (Cx w6.drew g7 U (.slice pu ou.length cu)) := (show Cx w6 g7 U (.slice pu ou.length cu) from h6).later drew_below
  have CA := Lib.hid ((C5.out.kept g6 (by simp; omega)).later (drew_below (w := w6))); have CB := Lib.hid ((D5.out.kept g6 (by simp; omega)).later (drew_below (w := w6)))
  have RD : Hid (w6.drew.rangeAt g3 0 (dcs d.1 d.2).toList) := fun j u hu => g6.cell (R5.out j u hu) (by simp; omega)
  have B6 := Lib.hid (B5.out.trans (grown_below g6 B5.out.size lw7)); have HA := Lib.hid ((H5.out.kept hB7 g6 (Nat.le_refl _)).below (drew_below (w := w6))); have HB := Lib.hid ((H5'.out.kept hB7' g6 (Nat.le_refl _)).below (drew_below (w := w6)))
  obtain ⟨hdu, n3, _⟩ := own_dots (own_keptN O5.out g6 hO7)
  have HU := Lib.hid (hdu.below (drew_below (w := w6)))
  have hou : ou.length ≤ 120 := Nat.le_trans IU.out.small (by rw [List.length_append]; omega)
  clear h5 h6 g6 hdu hB7 hB7' hO7 C4 C5 D4 D5 R4 R5 H4 H4' H5 H5' O4 O5 B4 B5 H H'
  have KN := (IU.out.knows d).trans (knowsB_both F F' l l' d)
  go_wp2
  have b0 : Below w6.drew.heap.size w6.drew w6.drew := Below.refl _ _
  refine rg_start (n := 45) (S := fun x => Below w6.drew.heap.size w6.drew x) (by kernel_rfl) rfl b0 ?_
  cases ka : knowsB F l d with
  | true =>
    have ku : knowsB U ou d = true := by rw [KN, ka, Bool.true_or]
    refine rgd_gload 0 (some 22) rfl rfl (by kernel_rfl) (by kernel_rfl) (by kernel_rfl) (fun _ _ _ _ h => h) (by kernel_rfl) _ rfl g7 0 (by kernel_rfl) _ (fun x h => range_of_block (CU.out.later h)) _ Try.underlying26 rfl (by rw [Array.length_toList]; exact sizeC _ _) b0 ?_
    refine rgd_gload 1 (some 23) rfl rfl (by kernel_rfl) (by kernel_rfl) (by kernel_rfl) (fun _ _ _ _ h => h) (by kernel_rfl) _ rfl g3 0 (by kernel_rfl) _ (fun x h => range_below RD.out h) _ Try.underlying28 rfl (sizeDl d.1 d.2) b0 ?_
    refine rgd_gload 3 (some 25) rfl rfl (by kernel_rfl) (by kernel_rfl) (by kernel_rfl) (fun _ _ _ _ h => h) (by kernel_rfl) _ rfl g1 0 (by kernel_rfl) _ (fun x h => range_of_block (CA.out.later h)) _ Try.underlying26 rfl (by rw [Array.length_toList]; exact sizeC _ _) b0 ?_
    refine rgd_gload 4 (some 26) rfl rfl (by kernel_rfl) (by kernel_rfl) (by kernel_rfl) (fun _ _ _ _ h => h) (by kernel_rfl) _ rfl g3 0 (by kernel_rfl) _ (fun x h => range_below RD.out h) _ Try.underlying28 rfl (sizeDl d.1 d.2) b0 ?_
    refine rgd_call 2 (some 24) (by kernel_rfl) rfl rfl (by kernel_rfl) 10 #[.agg (ccs U (.slice pu ou.length cu)), .agg (dcs d.1 d.2)] (by kernel_rfl) (knowsC (knows_is U pu cu ou d w6.drew (HU.out.below b0).row (by omega)) ku) ?_
    rintro e x1 ⟨rfl, hb1⟩
    have b1 := thenBelow b0 hb1
    refine ⟨_, rfl, b1, ?_⟩
    refine rgd_call 5 (some 27) (by kernel_rfl) rfl rfl (by kernel_rfl) 10 #[.agg (ccs F (.slice p l.length c)), .agg (dcs d.1 d.2)] (by kernel_rfl) (knowsC (knows_is F p c l d x1 (HA.out.below b1).row (by omega)) ka) ?_
    rintro e x2 ⟨rfl, hb2⟩
    have b2 := thenBelow b1 hb2
    refine ⟨_, rfl, b2, ?_⟩
    refine rgd_pure 6 (some 28) rfl rfl (.bool true) (by kernel_rfl) (by kernel_rfl) (by kernel_rfl) (fun _ _ _ _ h => h) (by kernel_rfl) (fun _ => by kernel_rfl) b2 ?_
    refine rgd_skip 7 (some 29) rfl rfl (by kernel_rfl) (by kernel_rfl) (by kernel_rfl) (fun _ _ _ _ h => h) (by kernel_rfl) b2 ?_
    refine rgd_skip 8 (some 30) rfl rfl (by kernel_rfl) (by kernel_rfl) (by kernel_rfl) (fun _ _ _ _ h => h) (by kernel_rfl) b2 ?_
    refine rgd_skip 9 (some 31) rfl rfl (by kernel_rfl) (by kernel_rfl) (by kernel_rfl) (fun _ _ _ _ h => h) (by kernel_rfl) b2 ?_
    refine rgd_pure 10 (some 32) rfl rfl (.bool true) (by kernel_rfl) (by kernel_rfl) (by kernel_rfl) (fun _ _ _ _ h => h) (by kernel_rfl) (fun _ => by kernel_rfl) b2 ?_
    refine rgd_pure 11 (some 33) rfl rfl (.bool true) (by kernel_rfl) (by kernel_rfl) (by kernel_rfl) (fun _ _ _ _ h => h) (by kernel_rfl) (fun _ => by kernel_rfl) b2 ?_
    refine rgd_pure 12 (some 34) rfl rfl (.bool true) (by kernel_rfl) (by kernel_rfl) (by kernel_rfl) (fun _ _ _ _ h => h) (by kernel_rfl) (fun _ => by kernel_rfl) b2 ?_
    refine rgd_gload 13 (some 35) rfl rfl (by kernel_rfl) (by kernel_rfl) (by kernel_rfl) (fun _ _ _ _ h => h) (by kernel_rfl) _ rfl g1 0 (by kernel_rfl) _ (fun x h => range_of_block (CA.out.later h)) _ Try.underlying26 rfl (by rw [Array.length_toList]; exact sizeC _ _) b2 ?_
    refine rgd_gload 15 (some 37) rfl rfl (by kernel_rfl) (by kernel_rfl) (by kernel_rfl) (fun _ _ _ _ h => h) (by kernel_rfl) _ rfl g3 0 (by kernel_rfl) _ (fun x h => range_below RD.out h) _ Try.underlying28 rfl (sizeDl d.1 d.2) b2 ?_
    refine rgd_gload 17 (some 39) rfl rfl (by kernel_rfl) (by kernel_rfl) (by kernel_rfl) (fun _ _ _ _ h => h) (by kernel_rfl) _ rfl g1 0 (by kernel_rfl) _ (fun x h => range_of_block (CA.out.later h)) _ Try.underlying26 rfl (by rw [Array.length_toList]; exact sizeC _ _) b2 ?_
    refine rgd_gload 18 (some 40) rfl rfl (by kernel_rfl) (by kernel_rfl) (by kernel_rfl) (fun _ _ _ _ h => h) (by kernel_rfl) _ rfl g3 0 (by kernel_rfl) _ (fun x h => range_below RD.out h) _ Try.underlying28 rfl (sizeDl d.1 d.2) b2 ?_
    refine rgd_call 14 (some 36) (by kernel_rfl) rfl rfl (by kernel_rfl) 7 #[.agg (ccs F (.slice p l.length c))] (by kernel_rfl) (tidyD_is F p c l x2 (HA.out.below b2) (by omega)) ?_
    rintro e x3 ⟨G1, o1, v1, hI1, rfl, hown1, hb3⟩
    have b3 := thenBelow b2 hb3
    obtain ⟨q1, e1, rfl⟩ := own_shape hown1
    obtain ⟨hd1, _, _⟩ := own_dots hown1
    refine ⟨_, rfl, b3, ?_⟩
    refine rgd_call 16 (some 38) (by kernel_rfl) rfl rfl (by kernel_rfl) 10 #[.agg (ccs G1 (.slice q1 o1.length e1)), .agg (dcs d.1 d.2)] (by kernel_rfl) (knowsC (knows_is G1 q1 e1 o1 d x3 hd1.row (Nat.le_trans hI1.small (by omega))) ((hI1.knows d).trans ka)) ?_
    rintro e x4 ⟨rfl, hb4⟩
    have b4 := thenBelow b3 hb4
    refine ⟨_, rfl, b4, ?_⟩
    refine rgd_call 19 (some 41) (by kernel_rfl) rfl rfl (by kernel_rfl) 10 #[.agg (ccs F (.slice p l.length c)), .agg (dcs d.1 d.2)] (by kernel_rfl) (knowsC (knows_is F p c l d x4 (HA.out.below b4).row (by omega)) ka) ?_
    rintro e x5 ⟨rfl, hb5⟩
    have b5 := thenBelow b4 hb5
    refine ⟨_, rfl, b5, ?_⟩
    refine rgd_pure 20 (some 42) rfl rfl (.bool true) (by kernel_rfl) (by kernel_rfl) (by kernel_rfl) (fun _ _ _ _ h => h) (by kernel_rfl) (fun _ => by kernel_rfl) b5 ?_
    refine rgd_pure 21 (some 43) rfl rfl (.bool true) (by kernel_rfl) (by kernel_rfl) (by kernel_rfl) (fun _ _ _ _ h => h) (by kernel_rfl) (fun _ => by kernel_rfl) b5 ?_
    refine rgd_pure 22 (some 44) rfl rfl (.bool true) (by kernel_rfl) (by kernel_rfl) (by kernel_rfl) (fun _ _ _ _ h => h) (by kernel_rfl) (fun _ => by kernel_rfl) b5 ?_
    refine rgd_gload 23 (some 45) rfl rfl (by kernel_rfl) (by kernel_rfl) (by kernel_rfl) (fun _ _ _ _ h => h) (by kernel_rfl) _ rfl g2 0 (by kernel_rfl) _ (fun x h => range_of_block (CB.out.later h)) _ Try.underlying26 rfl (by rw [Array.length_toList]; exact sizeC _ _) b5 ?_
    refine rgd_gload 24 (some 46) rfl rfl (by kernel_rfl) (by kernel_rfl) (by kernel_rfl) (fun _ _ _ _ h => h) (by kernel_rfl) _ rfl g1 0 (by kernel_rfl) _ (fun x h => range_of_block (CA.out.later h)) _ Try.underlying26 rfl (by rw [Array.length_toList]; exact sizeC _ _) b5 ?_
    refine rgd_gload 26 (some 48) rfl rfl (by kernel_rfl) (by kernel_rfl) (by kernel_rfl) (fun _ _ _ _ h => h) (by kernel_rfl) _ rfl g7 0 (by kernel_rfl) _ (fun x h => range_of_block (CU.out.later h)) _ Try.underlying26 rfl (by rw [Array.length_toList]; exact sizeC _ _) b5 ?_
    refine rgd_call 25 (some 47) (by kernel_rfl) rfl rfl (by kernel_rfl) 14 #[.agg (ccs F' (.slice p' l'.length c')), .agg (ccs F (.slice p l.length c))] (by kernel_rfl) (unionD_is F' F p' p c' c l' l x5 (HB.out.below b5) (HA.out.below b5) n2 n1 (by omega)) ?_
    rintro e x6 ⟨G2, o2, v2, hI2, rfl, hown2, hb6⟩
    have b6 := thenBelow b5 hb6
    obtain ⟨q2, e2, rfl⟩ := own_shape hown2
    obtain ⟨hd2, _, _⟩ := own_dots hown2
    refine ⟨_, rfl, b6, ?_⟩
    refine rgd_call 27 (some 49) (by kernel_rfl) rfl rfl (by kernel_rfl) 9 #[.agg (ccs G2 (.slice q2 o2.length e2)), .agg (ccs U (.slice pu ou.length cu))] (by kernel_rfl) (knowsC (same_is G2 U q2 pu e2 cu o2 ou x6 hd2.row (HU.out.below b6).row (Nat.le_trans hI2.small (by rw [List.length_append]; omega)) (by omega)) (union_turned IU.out hI2)) ?_
    rintro e x7 ⟨rfl, hb7⟩
    have b7 := thenBelow b6 hb7
    refine ⟨_, rfl, b7, ?_⟩
    refine rgd_pure 28 (some 50) rfl rfl (.bool true) (by kernel_rfl) (by kernel_rfl) (by kernel_rfl) (fun _ _ _ _ h => h) (by kernel_rfl) (fun _ => by kernel_rfl) b7 ?_
    refine rgd_pure 29 (some 51) rfl rfl (.bool true) (by kernel_rfl) (by kernel_rfl) (by kernel_rfl) (fun _ _ _ _ h => h) (by kernel_rfl) (fun _ => by kernel_rfl) b7 ?_
    refine rgd_gload 30 (some 52) rfl rfl (by kernel_rfl) (by kernel_rfl) (by kernel_rfl) (fun _ _ _ _ h => h) (by kernel_rfl) _ rfl g7 0 (by kernel_rfl) _ (fun x h => range_of_block (CU.out.later h)) _ Try.underlying26 rfl (by rw [Array.length_toList]; exact sizeC _ _) b7 ?_
    refine rgd_gload 31 (some 53) rfl rfl (by kernel_rfl) (by kernel_rfl) (by kernel_rfl) (fun _ _ _ _ h => h) (by kernel_rfl) _ rfl g1 0 (by kernel_rfl) _ (fun x h => range_of_block (CA.out.later h)) _ Try.underlying26 rfl (by rw [Array.length_toList]; exact sizeC _ _) b7 ?_
    refine rgd_gload 33 (some 55) rfl rfl (by kernel_rfl) (by kernel_rfl) (by kernel_rfl) (fun _ _ _ _ h => h) (by kernel_rfl) _ rfl g7 0 (by kernel_rfl) _ (fun x h => range_of_block (CU.out.later h)) _ Try.underlying26 rfl (by rw [Array.length_toList]; exact sizeC _ _) b7 ?_
    refine rgd_call 32 (some 54) (by kernel_rfl) rfl rfl (by kernel_rfl) 14 #[.agg (ccs U (.slice pu ou.length cu)), .agg (ccs F (.slice p l.length c))] (by kernel_rfl) (unionD_is U F pu p cu c ou l x7 (HU.out.below b7) (HA.out.below b7) n3 n1 (by omega)) ?_
    rintro e x8 ⟨G3, o3, v3, hI3, rfl, hown3, hb8⟩
    have b8 := thenBelow b7 hb8
    obtain ⟨q3, e3, rfl⟩ := own_shape hown3
    obtain ⟨hd3, _, _⟩ := own_dots hown3
    refine ⟨_, rfl, b8, ?_⟩
    refine rgd_call 34 (some 56) (by kernel_rfl) rfl rfl (by kernel_rfl) 9 #[.agg (ccs G3 (.slice q3 o3.length e3)), .agg (ccs U (.slice pu ou.length cu))] (by kernel_rfl) (knowsC (same_is G3 U q3 pu e3 cu o3 ou x8 hd3.row (HU.out.below b8).row (Nat.le_trans hI3.small (by rw [List.length_append]; omega)) (by omega)) (union_again IU.out hI3)) ?_
    rintro e x9 ⟨rfl, hb9⟩
    have b9 := thenBelow b8 hb9
    refine ⟨_, rfl, b9, ?_⟩
    refine rgd_pure 35 (some 57) rfl rfl (.bool true) (by kernel_rfl) (by kernel_rfl) (by kernel_rfl) (fun _ _ _ _ h => h) (by kernel_rfl) (fun _ => by kernel_rfl) b9 ?_
    refine rgd_pure 36 (some 58) rfl rfl (.bool true) (by kernel_rfl) (by kernel_rfl) (by kernel_rfl) (fun _ _ _ _ h => h) (by kernel_rfl) (fun _ => by kernel_rfl) b9 ?_
    refine rgd_gload 37 (some 59) rfl rfl (by kernel_rfl) (by kernel_rfl) (by kernel_rfl) (fun _ _ _ _ h => h) (by kernel_rfl) _ rfl g1 0 (by kernel_rfl) _ (fun x h => range_of_block (CA.out.later h)) _ Try.underlying26 rfl (by rw [Array.length_toList]; exact sizeC _ _) b9 ?_
    refine rgd_gload 38 (some 60) rfl rfl (by kernel_rfl) (by kernel_rfl) (by kernel_rfl) (fun _ _ _ _ h => h) (by kernel_rfl) _ rfl g7 0 (by kernel_rfl) _ (fun x h => range_of_block (CU.out.later h)) _ Try.underlying26 rfl (by rw [Array.length_toList]; exact sizeC _ _) b9 ?_
    refine rgd_call 39 (some 61) (by kernel_rfl) rfl rfl (by kernel_rfl) 16 #[.agg (ccs F (.slice p l.length c)), .agg (ccs U (.slice pu ou.length cu))] (by kernel_rfl) (insideD_is F U p pu c cu l ou x9 (HA.out.below b9) (HU.out.below b9) n1 n3 (by omega)) ?_
    rintro e x10 ⟨z, rfl, hz, hb10⟩
    have b10 := thenBelow b9 hb10
    obtain rfl := union_inside IU.out hz
    refine ⟨_, rfl, b10, ?_⟩
    refine rgd_pure 40 (some 62) rfl rfl (.bool true) (by kernel_rfl) (by kernel_rfl) (by kernel_rfl) (fun _ _ _ _ h => h) (by kernel_rfl) (fun _ => by kernel_rfl) b10 ?_
    refine rgd_pure 41 (some 63) rfl rfl (.bool true) (by kernel_rfl) (by kernel_rfl) (by kernel_rfl) (fun _ _ _ _ h => h) (by kernel_rfl) (fun _ => by kernel_rfl) b10 ?_
    refine rgd_call 42 (some 64) (by kernel_rfl) rfl rfl (by kernel_rfl) 6 #[] (by kernel_rfl) (awake8 x10) ?_
    rintro e x11 ⟨rfl, hb11⟩
    have b11 := thenBelow b10 hb11
    refine ⟨_, rfl, b11, ?_⟩
    refine rgd_pure 43 (some 65) rfl rfl (.bool true) (by kernel_rfl) (by kernel_rfl) (by kernel_rfl) (fun _ _ _ _ h => h) (by kernel_rfl) (fun _ => by kernel_rfl) b11 ?_
    refine rgd_pure 44 (some 6) rfl rfl (.bool true) (by kernel_rfl) (by kernel_rfl) (by kernel_rfl) (fun _ _ _ _ h => h) (by kernel_rfl) (fun _ => by kernel_rfl) b11 ?_
    refine wpAnyH_done (by kernel_rfl) ?_ _
    have BZ := Lib.hid (B6.out.drew.trans (b11.mono (Nat.le_trans B6.out.size (Nat.le_refl _))))
    clear b0 b1 b2 b3 b4 b5 b6 b7 b8 b9 b10 b11
    simp only [Act.put, List.setIfInBounds_toArray, List.set_cons_zero, List.set_cons_succ]
    go_wp2
    go_ret
    exact ⟨ret_bool (by first | rfl | (simp; done)), BZ.out⟩
  | false =>
    cases kb : knowsB F' l' d with
    | true =>
      have ku : knowsB U ou d = true := by rw [KN, ka, kb]; rfl
      refine rgd_gload 0 (some 22) rfl rfl (by kernel_rfl) (by kernel_rfl) (by kernel_rfl) (fun _ _ _ _ h => h) (by kernel_rfl) _ rfl g7 0 (by kernel_rfl) _ (fun x h => range_of_block (CU.out.later h)) _ Try.underlying26 rfl (by rw [Array.length_toList]; exact sizeC _ _) b0 ?_
      refine rgd_gload 1 (some 23) rfl rfl (by kernel_rfl) (by kernel_rfl) (by kernel_rfl) (fun _ _ _ _ h => h) (by kernel_rfl) _ rfl g3 0 (by kernel_rfl) _ (fun x h => range_below RD.out h) _ Try.underlying28 rfl (sizeDl d.1 d.2) b0 ?_
      refine rgd_gload 3 (some 25) rfl rfl (by kernel_rfl) (by kernel_rfl) (by kernel_rfl) (fun _ _ _ _ h => h) (by kernel_rfl) _ rfl g1 0 (by kernel_rfl) _ (fun x h => range_of_block (CA.out.later h)) _ Try.underlying26 rfl (by rw [Array.length_toList]; exact sizeC _ _) b0 ?_
      refine rgd_gload 4 (some 26) rfl rfl (by kernel_rfl) (by kernel_rfl) (by kernel_rfl) (fun _ _ _ _ h => h) (by kernel_rfl) _ rfl g3 0 (by kernel_rfl) _ (fun x h => range_below RD.out h) _ Try.underlying28 rfl (sizeDl d.1 d.2) b0 ?_
      refine rgd_call 2 (some 24) (by kernel_rfl) rfl rfl (by kernel_rfl) 10 #[.agg (ccs U (.slice pu ou.length cu)), .agg (dcs d.1 d.2)] (by kernel_rfl) (knowsC (knows_is U pu cu ou d w6.drew (HU.out.below b0).row (by omega)) ku) ?_
      rintro e x1 ⟨rfl, hb1⟩
      have b1 := thenBelow b0 hb1
      refine ⟨_, rfl, b1, ?_⟩
      refine rgd_call 5 (some 27) (by kernel_rfl) rfl rfl (by kernel_rfl) 10 #[.agg (ccs F (.slice p l.length c)), .agg (dcs d.1 d.2)] (by kernel_rfl) (knowsC (knows_is F p c l d x1 (HA.out.below b1).row (by omega)) ka) ?_
      rintro e x2 ⟨rfl, hb2⟩
      have b2 := thenBelow b1 hb2
      refine ⟨_, rfl, b2, ?_⟩
      refine rgd_pure 6 (some 28) rfl rfl (.bool false) (by kernel_rfl) (by kernel_rfl) (by kernel_rfl) (fun _ _ _ _ h => h) (by kernel_rfl) (fun _ => by kernel_rfl) b2 ?_
      refine rgd_gload 7 (some 29) rfl rfl (by kernel_rfl) (by kernel_rfl) (by kernel_rfl) (fun _ _ _ _ h => h) (by kernel_rfl) _ rfl g2 0 (by kernel_rfl) _ (fun x h => range_of_block (CB.out.later h)) _ Try.underlying26 rfl (by rw [Array.length_toList]; exact sizeC _ _) b2 ?_
      refine rgd_gload 8 (some 30) rfl rfl (by kernel_rfl) (by kernel_rfl) (by kernel_rfl) (fun _ _ _ _ h => h) (by kernel_rfl) _ rfl g3 0 (by kernel_rfl) _ (fun x h => range_below RD.out h) _ Try.underlying28 rfl (sizeDl d.1 d.2) b2 ?_
      refine rgd_call 9 (some 31) (by kernel_rfl) rfl rfl (by kernel_rfl) 10 #[.agg (ccs F' (.slice p' l'.length c')), .agg (dcs d.1 d.2)] (by kernel_rfl) (knowsC (knows_is F' p' c' l' d x2 (HB.out.below b2).row (by omega)) kb) ?_
      rintro e x3 ⟨rfl, hb3⟩
      have b3 := thenBelow b2 hb3
      refine ⟨_, rfl, b3, ?_⟩
      refine rgd_pure 10 (some 32) rfl rfl (.bool true) (by kernel_rfl) (by kernel_rfl) (by kernel_rfl) (fun _ _ _ _ h => h) (by kernel_rfl) (fun _ => by kernel_rfl) b3 ?_
      refine rgd_pure 11 (some 33) rfl rfl (.bool true) (by kernel_rfl) (by kernel_rfl) (by kernel_rfl) (fun _ _ _ _ h => h) (by kernel_rfl) (fun _ => by kernel_rfl) b3 ?_
      refine rgd_pure 12 (some 34) rfl rfl (.bool true) (by kernel_rfl) (by kernel_rfl) (by kernel_rfl) (fun _ _ _ _ h => h) (by kernel_rfl) (fun _ => by kernel_rfl) b3 ?_
      refine rgd_gload 13 (some 35) rfl rfl (by kernel_rfl) (by kernel_rfl) (by kernel_rfl) (fun _ _ _ _ h => h) (by kernel_rfl) _ rfl g1 0 (by kernel_rfl) _ (fun x h => range_of_block (CA.out.later h)) _ Try.underlying26 rfl (by rw [Array.length_toList]; exact sizeC _ _) b3 ?_
      refine rgd_gload 15 (some 37) rfl rfl (by kernel_rfl) (by kernel_rfl) (by kernel_rfl) (fun _ _ _ _ h => h) (by kernel_rfl) _ rfl g3 0 (by kernel_rfl) _ (fun x h => range_below RD.out h) _ Try.underlying28 rfl (sizeDl d.1 d.2) b3 ?_
      refine rgd_gload 17 (some 39) rfl rfl (by kernel_rfl) (by kernel_rfl) (by kernel_rfl) (fun _ _ _ _ h => h) (by kernel_rfl) _ rfl g1 0 (by kernel_rfl) _ (fun x h => range_of_block (CA.out.later h)) _ Try.underlying26 rfl (by rw [Array.length_toList]; exact sizeC _ _) b3 ?_
      refine rgd_gload 18 (some 40) rfl rfl (by kernel_rfl) (by kernel_rfl) (by kernel_rfl) (fun _ _ _ _ h => h) (by kernel_rfl) _ rfl g3 0 (by kernel_rfl) _ (fun x h => range_below RD.out h) _ Try.underlying28 rfl (sizeDl d.1 d.2) b3 ?_
      refine rgd_call 14 (some 36) (by kernel_rfl) rfl rfl (by kernel_rfl) 7 #[.agg (ccs F (.slice p l.length c))] (by kernel_rfl) (tidyD_is F p c l x3 (HA.out.below b3) (by omega)) ?_
      rintro e x4 ⟨G1, o1, v1, hI1, rfl, hown1, hb4⟩
      have b4 := thenBelow b3 hb4
      obtain ⟨q1, e1, rfl⟩ := own_shape hown1
      obtain ⟨hd1, _, _⟩ := own_dots hown1
      refine ⟨_, rfl, b4, ?_⟩
      refine rgd_call 16 (some 38) (by kernel_rfl) rfl rfl (by kernel_rfl) 10 #[.agg (ccs G1 (.slice q1 o1.length e1)), .agg (dcs d.1 d.2)] (by kernel_rfl) (knowsC (knows_is G1 q1 e1 o1 d x4 hd1.row (Nat.le_trans hI1.small (by omega))) ((hI1.knows d).trans ka)) ?_
      rintro e x5 ⟨rfl, hb5⟩
      have b5 := thenBelow b4 hb5
      refine ⟨_, rfl, b5, ?_⟩
      refine rgd_call 19 (some 41) (by kernel_rfl) rfl rfl (by kernel_rfl) 10 #[.agg (ccs F (.slice p l.length c)), .agg (dcs d.1 d.2)] (by kernel_rfl) (knowsC (knows_is F p c l d x5 (HA.out.below b5).row (by omega)) ka) ?_
      rintro e x6 ⟨rfl, hb6⟩
      have b6 := thenBelow b5 hb6
      refine ⟨_, rfl, b6, ?_⟩
      refine rgd_pure 20 (some 42) rfl rfl (.bool true) (by kernel_rfl) (by kernel_rfl) (by kernel_rfl) (fun _ _ _ _ h => h) (by kernel_rfl) (fun _ => by kernel_rfl) b6 ?_
      refine rgd_pure 21 (some 43) rfl rfl (.bool true) (by kernel_rfl) (by kernel_rfl) (by kernel_rfl) (fun _ _ _ _ h => h) (by kernel_rfl) (fun _ => by kernel_rfl) b6 ?_
      refine rgd_pure 22 (some 44) rfl rfl (.bool true) (by kernel_rfl) (by kernel_rfl) (by kernel_rfl) (fun _ _ _ _ h => h) (by kernel_rfl) (fun _ => by kernel_rfl) b6 ?_
      refine rgd_gload 23 (some 45) rfl rfl (by kernel_rfl) (by kernel_rfl) (by kernel_rfl) (fun _ _ _ _ h => h) (by kernel_rfl) _ rfl g2 0 (by kernel_rfl) _ (fun x h => range_of_block (CB.out.later h)) _ Try.underlying26 rfl (by rw [Array.length_toList]; exact sizeC _ _) b6 ?_
      refine rgd_gload 24 (some 46) rfl rfl (by kernel_rfl) (by kernel_rfl) (by kernel_rfl) (fun _ _ _ _ h => h) (by kernel_rfl) _ rfl g1 0 (by kernel_rfl) _ (fun x h => range_of_block (CA.out.later h)) _ Try.underlying26 rfl (by rw [Array.length_toList]; exact sizeC _ _) b6 ?_
      refine rgd_gload 26 (some 48) rfl rfl (by kernel_rfl) (by kernel_rfl) (by kernel_rfl) (fun _ _ _ _ h => h) (by kernel_rfl) _ rfl g7 0 (by kernel_rfl) _ (fun x h => range_of_block (CU.out.later h)) _ Try.underlying26 rfl (by rw [Array.length_toList]; exact sizeC _ _) b6 ?_
      refine rgd_call 25 (some 47) (by kernel_rfl) rfl rfl (by kernel_rfl) 14 #[.agg (ccs F' (.slice p' l'.length c')), .agg (ccs F (.slice p l.length c))] (by kernel_rfl) (unionD_is F' F p' p c' c l' l x6 (HB.out.below b6) (HA.out.below b6) n2 n1 (by omega)) ?_
      rintro e x7 ⟨G2, o2, v2, hI2, rfl, hown2, hb7⟩
      have b7 := thenBelow b6 hb7
      obtain ⟨q2, e2, rfl⟩ := own_shape hown2
      obtain ⟨hd2, _, _⟩ := own_dots hown2
      refine ⟨_, rfl, b7, ?_⟩
      refine rgd_call 27 (some 49) (by kernel_rfl) rfl rfl (by kernel_rfl) 9 #[.agg (ccs G2 (.slice q2 o2.length e2)), .agg (ccs U (.slice pu ou.length cu))] (by kernel_rfl) (knowsC (same_is G2 U q2 pu e2 cu o2 ou x7 hd2.row (HU.out.below b7).row (Nat.le_trans hI2.small (by rw [List.length_append]; omega)) (by omega)) (union_turned IU.out hI2)) ?_
      rintro e x8 ⟨rfl, hb8⟩
      have b8 := thenBelow b7 hb8
      refine ⟨_, rfl, b8, ?_⟩
      refine rgd_pure 28 (some 50) rfl rfl (.bool true) (by kernel_rfl) (by kernel_rfl) (by kernel_rfl) (fun _ _ _ _ h => h) (by kernel_rfl) (fun _ => by kernel_rfl) b8 ?_
      refine rgd_pure 29 (some 51) rfl rfl (.bool true) (by kernel_rfl) (by kernel_rfl) (by kernel_rfl) (fun _ _ _ _ h => h) (by kernel_rfl) (fun _ => by kernel_rfl) b8 ?_
      refine rgd_gload 30 (some 52) rfl rfl (by kernel_rfl) (by kernel_rfl) (by kernel_rfl) (fun _ _ _ _ h => h) (by kernel_rfl) _ rfl g7 0 (by kernel_rfl) _ (fun x h => range_of_block (CU.out.later h)) _ Try.underlying26 rfl (by rw [Array.length_toList]; exact sizeC _ _) b8 ?_
      refine rgd_gload 31 (some 53) rfl rfl (by kernel_rfl) (by kernel_rfl) (by kernel_rfl) (fun _ _ _ _ h => h) (by kernel_rfl) _ rfl g1 0 (by kernel_rfl) _ (fun x h => range_of_block (CA.out.later h)) _ Try.underlying26 rfl (by rw [Array.length_toList]; exact sizeC _ _) b8 ?_
      refine rgd_gload 33 (some 55) rfl rfl (by kernel_rfl) (by kernel_rfl) (by kernel_rfl) (fun _ _ _ _ h => h) (by kernel_rfl) _ rfl g7 0 (by kernel_rfl) _ (fun x h => range_of_block (CU.out.later h)) _ Try.underlying26 rfl (by rw [Array.length_toList]; exact sizeC _ _) b8 ?_
      refine rgd_call 32 (some 54) (by kernel_rfl) rfl rfl (by kernel_rfl) 14 #[.agg (ccs U (.slice pu ou.length cu)), .agg (ccs F (.slice p l.length c))] (by kernel_rfl) (unionD_is U F pu p cu c ou l x8 (HU.out.below b8) (HA.out.below b8) n3 n1 (by omega)) ?_
      rintro e x9 ⟨G3, o3, v3, hI3, rfl, hown3, hb9⟩
      have b9 := thenBelow b8 hb9
      obtain ⟨q3, e3, rfl⟩ := own_shape hown3
      obtain ⟨hd3, _, _⟩ := own_dots hown3
      refine ⟨_, rfl, b9, ?_⟩
      refine rgd_call 34 (some 56) (by kernel_rfl) rfl rfl (by kernel_rfl) 9 #[.agg (ccs G3 (.slice q3 o3.length e3)), .agg (ccs U (.slice pu ou.length cu))] (by kernel_rfl) (knowsC (same_is G3 U q3 pu e3 cu o3 ou x9 hd3.row (HU.out.below b9).row (Nat.le_trans hI3.small (by rw [List.length_append]; omega)) (by omega)) (union_again IU.out hI3)) ?_
      rintro e x10 ⟨rfl, hb10⟩
      have b10 := thenBelow b9 hb10
      refine ⟨_, rfl, b10, ?_⟩
      refine rgd_pure 35 (some 57) rfl rfl (.bool true) (by kernel_rfl) (by kernel_rfl) (by kernel_rfl) (fun _ _ _ _ h => h) (by kernel_rfl) (fun _ => by kernel_rfl) b10 ?_
      refine rgd_pure 36 (some 58) rfl rfl (.bool true) (by kernel_rfl) (by kernel_rfl) (by kernel_rfl) (fun _ _ _ _ h => h) (by kernel_rfl) (fun _ => by kernel_rfl) b10 ?_
      refine rgd_gload 37 (some 59) rfl rfl (by kernel_rfl) (by kernel_rfl) (by kernel_rfl) (fun _ _ _ _ h => h) (by kernel_rfl) _ rfl g1 0 (by kernel_rfl) _ (fun x h => range_of_block (CA.out.later h)) _ Try.underlying26 rfl (by rw [Array.length_toList]; exact sizeC _ _) b10 ?_
      refine rgd_gload 38 (some 60) rfl rfl (by kernel_rfl) (by kernel_rfl) (by kernel_rfl) (fun _ _ _ _ h => h) (by kernel_rfl) _ rfl g7 0 (by kernel_rfl) _ (fun x h => range_of_block (CU.out.later h)) _ Try.underlying26 rfl (by rw [Array.length_toList]; exact sizeC _ _) b10 ?_
      refine rgd_call 39 (some 61) (by kernel_rfl) rfl rfl (by kernel_rfl) 16 #[.agg (ccs F (.slice p l.length c)), .agg (ccs U (.slice pu ou.length cu))] (by kernel_rfl) (insideD_is F U p pu c cu l ou x10 (HA.out.below b10) (HU.out.below b10) n1 n3 (by omega)) ?_
      rintro e x11 ⟨z, rfl, hz, hb11⟩
      have b11 := thenBelow b10 hb11
      obtain rfl := union_inside IU.out hz
      refine ⟨_, rfl, b11, ?_⟩
      refine rgd_pure 40 (some 62) rfl rfl (.bool true) (by kernel_rfl) (by kernel_rfl) (by kernel_rfl) (fun _ _ _ _ h => h) (by kernel_rfl) (fun _ => by kernel_rfl) b11 ?_
      refine rgd_pure 41 (some 63) rfl rfl (.bool true) (by kernel_rfl) (by kernel_rfl) (by kernel_rfl) (fun _ _ _ _ h => h) (by kernel_rfl) (fun _ => by kernel_rfl) b11 ?_
      refine rgd_call 42 (some 64) (by kernel_rfl) rfl rfl (by kernel_rfl) 6 #[] (by kernel_rfl) (awake8 x11) ?_
      rintro e x12 ⟨rfl, hb12⟩
      have b12 := thenBelow b11 hb12
      refine ⟨_, rfl, b12, ?_⟩
      refine rgd_pure 43 (some 65) rfl rfl (.bool true) (by kernel_rfl) (by kernel_rfl) (by kernel_rfl) (fun _ _ _ _ h => h) (by kernel_rfl) (fun _ => by kernel_rfl) b12 ?_
      refine rgd_pure 44 (some 6) rfl rfl (.bool true) (by kernel_rfl) (by kernel_rfl) (by kernel_rfl) (fun _ _ _ _ h => h) (by kernel_rfl) (fun _ => by kernel_rfl) b12 ?_
      refine wpAnyH_done (by kernel_rfl) ?_ _
      have BZ := Lib.hid (B6.out.drew.trans (b12.mono (Nat.le_trans B6.out.size (Nat.le_refl _))))
      clear b0 b1 b2 b3 b4 b5 b6 b7 b8 b9 b10 b11 b12
      simp only [Act.put, List.setIfInBounds_toArray, List.set_cons_zero, List.set_cons_succ]
      go_wp2
      go_ret
      exact ⟨ret_bool (by first | rfl | (simp; done)), BZ.out⟩
    | false =>
      have ku : knowsB U ou d = false := by rw [KN, ka, kb]; rfl
      refine rgd_gload 0 (some 22) rfl rfl (by kernel_rfl) (by kernel_rfl) (by kernel_rfl) (fun _ _ _ _ h => h) (by kernel_rfl) _ rfl g7 0 (by kernel_rfl) _ (fun x h => range_of_block (CU.out.later h)) _ Try.underlying26 rfl (by rw [Array.length_toList]; exact sizeC _ _) b0 ?_
      refine rgd_gload 1 (some 23) rfl rfl (by kernel_rfl) (by kernel_rfl) (by kernel_rfl) (fun _ _ _ _ h => h) (by kernel_rfl) _ rfl g3 0 (by kernel_rfl) _ (fun x h => range_below RD.out h) _ Try.underlying28 rfl (sizeDl d.1 d.2) b0 ?_
      refine rgd_gload 3 (some 25) rfl rfl (by kernel_rfl) (by kernel_rfl) (by kernel_rfl) (fun _ _ _ _ h => h) (by kernel_rfl) _ rfl g1 0 (by kernel_rfl) _ (fun x h => range_of_block (CA.out.later h)) _ Try.underlying26 rfl (by rw [Array.length_toList]; exact sizeC _ _) b0 ?_
      refine rgd_gload 4 (some 26) rfl rfl (by kernel_rfl) (by kernel_rfl) (by kernel_rfl) (fun _ _ _ _ h => h) (by kernel_rfl) _ rfl g3 0 (by kernel_rfl) _ (fun x h => range_below RD.out h) _ Try.underlying28 rfl (sizeDl d.1 d.2) b0 ?_
      refine rgd_call 2 (some 24) (by kernel_rfl) rfl rfl (by kernel_rfl) 10 #[.agg (ccs U (.slice pu ou.length cu)), .agg (dcs d.1 d.2)] (by kernel_rfl) (knowsC (knows_is U pu cu ou d w6.drew (HU.out.below b0).row (by omega)) ku) ?_
      rintro e x1 ⟨rfl, hb1⟩
      have b1 := thenBelow b0 hb1
      refine ⟨_, rfl, b1, ?_⟩
      refine rgd_call 5 (some 27) (by kernel_rfl) rfl rfl (by kernel_rfl) 10 #[.agg (ccs F (.slice p l.length c)), .agg (dcs d.1 d.2)] (by kernel_rfl) (knowsC (knows_is F p c l d x1 (HA.out.below b1).row (by omega)) ka) ?_
      rintro e x2 ⟨rfl, hb2⟩
      have b2 := thenBelow b1 hb2
      refine ⟨_, rfl, b2, ?_⟩
      refine rgd_pure 6 (some 28) rfl rfl (.bool false) (by kernel_rfl) (by kernel_rfl) (by kernel_rfl) (fun _ _ _ _ h => h) (by kernel_rfl) (fun _ => by kernel_rfl) b2 ?_
      refine rgd_gload 7 (some 29) rfl rfl (by kernel_rfl) (by kernel_rfl) (by kernel_rfl) (fun _ _ _ _ h => h) (by kernel_rfl) _ rfl g2 0 (by kernel_rfl) _ (fun x h => range_of_block (CB.out.later h)) _ Try.underlying26 rfl (by rw [Array.length_toList]; exact sizeC _ _) b2 ?_
      refine rgd_gload 8 (some 30) rfl rfl (by kernel_rfl) (by kernel_rfl) (by kernel_rfl) (fun _ _ _ _ h => h) (by kernel_rfl) _ rfl g3 0 (by kernel_rfl) _ (fun x h => range_below RD.out h) _ Try.underlying28 rfl (sizeDl d.1 d.2) b2 ?_
      refine rgd_call 9 (some 31) (by kernel_rfl) rfl rfl (by kernel_rfl) 10 #[.agg (ccs F' (.slice p' l'.length c')), .agg (dcs d.1 d.2)] (by kernel_rfl) (knowsC (knows_is F' p' c' l' d x2 (HB.out.below b2).row (by omega)) kb) ?_
      rintro e x3 ⟨rfl, hb3⟩
      have b3 := thenBelow b2 hb3
      refine ⟨_, rfl, b3, ?_⟩
      refine rgd_pure 10 (some 32) rfl rfl (.bool false) (by kernel_rfl) (by kernel_rfl) (by kernel_rfl) (fun _ _ _ _ h => h) (by kernel_rfl) (fun _ => by kernel_rfl) b3 ?_
      refine rgd_pure 11 (some 33) rfl rfl (.bool true) (by kernel_rfl) (by kernel_rfl) (by kernel_rfl) (fun _ _ _ _ h => h) (by kernel_rfl) (fun _ => by kernel_rfl) b3 ?_
      refine rgd_pure 12 (some 34) rfl rfl (.bool true) (by kernel_rfl) (by kernel_rfl) (by kernel_rfl) (fun _ _ _ _ h => h) (by kernel_rfl) (fun _ => by kernel_rfl) b3 ?_
      refine rgd_gload 13 (some 35) rfl rfl (by kernel_rfl) (by kernel_rfl) (by kernel_rfl) (fun _ _ _ _ h => h) (by kernel_rfl) _ rfl g1 0 (by kernel_rfl) _ (fun x h => range_of_block (CA.out.later h)) _ Try.underlying26 rfl (by rw [Array.length_toList]; exact sizeC _ _) b3 ?_
      refine rgd_gload 15 (some 37) rfl rfl (by kernel_rfl) (by kernel_rfl) (by kernel_rfl) (fun _ _ _ _ h => h) (by kernel_rfl) _ rfl g3 0 (by kernel_rfl) _ (fun x h => range_below RD.out h) _ Try.underlying28 rfl (sizeDl d.1 d.2) b3 ?_
      refine rgd_gload 17 (some 39) rfl rfl (by kernel_rfl) (by kernel_rfl) (by kernel_rfl) (fun _ _ _ _ h => h) (by kernel_rfl) _ rfl g1 0 (by kernel_rfl) _ (fun x h => range_of_block (CA.out.later h)) _ Try.underlying26 rfl (by rw [Array.length_toList]; exact sizeC _ _) b3 ?_
      refine rgd_gload 18 (some 40) rfl rfl (by kernel_rfl) (by kernel_rfl) (by kernel_rfl) (fun _ _ _ _ h => h) (by kernel_rfl) _ rfl g3 0 (by kernel_rfl) _ (fun x h => range_below RD.out h) _ Try.underlying28 rfl (sizeDl d.1 d.2) b3 ?_
      refine rgd_call 14 (some 36) (by kernel_rfl) rfl rfl (by kernel_rfl) 7 #[.agg (ccs F (.slice p l.length c))] (by kernel_rfl) (tidyD_is F p c l x3 (HA.out.below b3) (by omega)) ?_
      rintro e x4 ⟨G1, o1, v1, hI1, rfl, hown1, hb4⟩
      have b4 := thenBelow b3 hb4
      obtain ⟨q1, e1, rfl⟩ := own_shape hown1
      obtain ⟨hd1, _, _⟩ := own_dots hown1
      refine ⟨_, rfl, b4, ?_⟩
      refine rgd_call 16 (some 38) (by kernel_rfl) rfl rfl (by kernel_rfl) 10 #[.agg (ccs G1 (.slice q1 o1.length e1)), .agg (dcs d.1 d.2)] (by kernel_rfl) (knowsC (knows_is G1 q1 e1 o1 d x4 hd1.row (Nat.le_trans hI1.small (by omega))) ((hI1.knows d).trans ka)) ?_
      rintro e x5 ⟨rfl, hb5⟩
      have b5 := thenBelow b4 hb5
      refine ⟨_, rfl, b5, ?_⟩
      refine rgd_call 19 (some 41) (by kernel_rfl) rfl rfl (by kernel_rfl) 10 #[.agg (ccs F (.slice p l.length c)), .agg (dcs d.1 d.2)] (by kernel_rfl) (knowsC (knows_is F p c l d x5 (HA.out.below b5).row (by omega)) ka) ?_
      rintro e x6 ⟨rfl, hb6⟩
      have b6 := thenBelow b5 hb6
      refine ⟨_, rfl, b6, ?_⟩
      refine rgd_pure 20 (some 42) rfl rfl (.bool true) (by kernel_rfl) (by kernel_rfl) (by kernel_rfl) (fun _ _ _ _ h => h) (by kernel_rfl) (fun _ => by kernel_rfl) b6 ?_
      refine rgd_pure 21 (some 43) rfl rfl (.bool true) (by kernel_rfl) (by kernel_rfl) (by kernel_rfl) (fun _ _ _ _ h => h) (by kernel_rfl) (fun _ => by kernel_rfl) b6 ?_
      refine rgd_pure 22 (some 44) rfl rfl (.bool true) (by kernel_rfl) (by kernel_rfl) (by kernel_rfl) (fun _ _ _ _ h => h) (by kernel_rfl) (fun _ => by kernel_rfl) b6 ?_
      refine rgd_gload 23 (some 45) rfl rfl (by kernel_rfl) (by kernel_rfl) (by kernel_rfl) (fun _ _ _ _ h => h) (by kernel_rfl) _ rfl g2 0 (by kernel_rfl) _ (fun x h => range_of_block (CB.out.later h)) _ Try.underlying26 rfl (by rw [Array.length_toList]; exact sizeC _ _) b6 ?_
      refine rgd_gload 24 (some 46) rfl rfl (by kernel_rfl) (by kernel_rfl) (by kernel_rfl) (fun _ _ _ _ h => h) (by kernel_rfl) _ rfl g1 0 (by kernel_rfl) _ (fun x h => range_of_block (CA.out.later h)) _ Try.underlying26 rfl (by rw [Array.length_toList]; exact sizeC _ _) b6 ?_
      refine rgd_gload 26 (some 48) rfl rfl (by kernel_rfl) (by kernel_rfl) (by kernel_rfl) (fun _ _ _ _ h => h) (by kernel_rfl) _ rfl g7 0 (by kernel_rfl) _ (fun x h => range_of_block (CU.out.later h)) _ Try.underlying26 rfl (by rw [Array.length_toList]; exact sizeC _ _) b6 ?_
      refine rgd_call 25 (some 47) (by kernel_rfl) rfl rfl (by kernel_rfl) 14 #[.agg (ccs F' (.slice p' l'.length c')), .agg (ccs F (.slice p l.length c))] (by kernel_rfl) (unionD_is F' F p' p c' c l' l x6 (HB.out.below b6) (HA.out.below b6) n2 n1 (by omega)) ?_
      rintro e x7 ⟨G2, o2, v2, hI2, rfl, hown2, hb7⟩
      have b7 := thenBelow b6 hb7
      obtain ⟨q2, e2, rfl⟩ := own_shape hown2
      obtain ⟨hd2, _, _⟩ := own_dots hown2
      refine ⟨_, rfl, b7, ?_⟩
      refine rgd_call 27 (some 49) (by kernel_rfl) rfl rfl (by kernel_rfl) 9 #[.agg (ccs G2 (.slice q2 o2.length e2)), .agg (ccs U (.slice pu ou.length cu))] (by kernel_rfl) (knowsC (same_is G2 U q2 pu e2 cu o2 ou x7 hd2.row (HU.out.below b7).row (Nat.le_trans hI2.small (by rw [List.length_append]; omega)) (by omega)) (union_turned IU.out hI2)) ?_
      rintro e x8 ⟨rfl, hb8⟩
      have b8 := thenBelow b7 hb8
      refine ⟨_, rfl, b8, ?_⟩
      refine rgd_pure 28 (some 50) rfl rfl (.bool true) (by kernel_rfl) (by kernel_rfl) (by kernel_rfl) (fun _ _ _ _ h => h) (by kernel_rfl) (fun _ => by kernel_rfl) b8 ?_
      refine rgd_pure 29 (some 51) rfl rfl (.bool true) (by kernel_rfl) (by kernel_rfl) (by kernel_rfl) (fun _ _ _ _ h => h) (by kernel_rfl) (fun _ => by kernel_rfl) b8 ?_
      refine rgd_gload 30 (some 52) rfl rfl (by kernel_rfl) (by kernel_rfl) (by kernel_rfl) (fun _ _ _ _ h => h) (by kernel_rfl) _ rfl g7 0 (by kernel_rfl) _ (fun x h => range_of_block (CU.out.later h)) _ Try.underlying26 rfl (by rw [Array.length_toList]; exact sizeC _ _) b8 ?_
      refine rgd_gload 31 (some 53) rfl rfl (by kernel_rfl) (by kernel_rfl) (by kernel_rfl) (fun _ _ _ _ h => h) (by kernel_rfl) _ rfl g1 0 (by kernel_rfl) _ (fun x h => range_of_block (CA.out.later h)) _ Try.underlying26 rfl (by rw [Array.length_toList]; exact sizeC _ _) b8 ?_
      refine rgd_gload 33 (some 55) rfl rfl (by kernel_rfl) (by kernel_rfl) (by kernel_rfl) (fun _ _ _ _ h => h) (by kernel_rfl) _ rfl g7 0 (by kernel_rfl) _ (fun x h => range_of_block (CU.out.later h)) _ Try.underlying26 rfl (by rw [Array.length_toList]; exact sizeC _ _) b8 ?_
      refine rgd_call 32 (some 54) (by kernel_rfl) rfl rfl (by kernel_rfl) 14 #[.agg (ccs U (.slice pu ou.length cu)), .agg (ccs F (.slice p l.length c))] (by kernel_rfl) (unionD_is U F pu p cu c ou l x8 (HU.out.below b8) (HA.out.below b8) n3 n1 (by omega)) ?_
      rintro e x9 ⟨G3, o3, v3, hI3, rfl, hown3, hb9⟩
      have b9 := thenBelow b8 hb9
      obtain ⟨q3, e3, rfl⟩ := own_shape hown3
      obtain ⟨hd3, _, _⟩ := own_dots hown3
      refine ⟨_, rfl, b9, ?_⟩
      refine rgd_call 34 (some 56) (by kernel_rfl) rfl rfl (by kernel_rfl) 9 #[.agg (ccs G3 (.slice q3 o3.length e3)), .agg (ccs U (.slice pu ou.length cu))] (by kernel_rfl) (knowsC (same_is G3 U q3 pu e3 cu o3 ou x9 hd3.row (HU.out.below b9).row (Nat.le_trans hI3.small (by rw [List.length_append]; omega)) (by omega)) (union_again IU.out hI3)) ?_
      rintro e x10 ⟨rfl, hb10⟩
      have b10 := thenBelow b9 hb10
      refine ⟨_, rfl, b10, ?_⟩
      refine rgd_pure 35 (some 57) rfl rfl (.bool true) (by kernel_rfl) (by kernel_rfl) (by kernel_rfl) (fun _ _ _ _ h => h) (by kernel_rfl) (fun _ => by kernel_rfl) b10 ?_
      refine rgd_pure 36 (some 58) rfl rfl (.bool true) (by kernel_rfl) (by kernel_rfl) (by kernel_rfl) (fun _ _ _ _ h => h) (by kernel_rfl) (fun _ => by kernel_rfl) b10 ?_
      refine rgd_gload 37 (some 59) rfl rfl (by kernel_rfl) (by kernel_rfl) (by kernel_rfl) (fun _ _ _ _ h => h) (by kernel_rfl) _ rfl g1 0 (by kernel_rfl) _ (fun x h => range_of_block (CA.out.later h)) _ Try.underlying26 rfl (by rw [Array.length_toList]; exact sizeC _ _) b10 ?_
      refine rgd_gload 38 (some 60) rfl rfl (by kernel_rfl) (by kernel_rfl) (by kernel_rfl) (fun _ _ _ _ h => h) (by kernel_rfl) _ rfl g7 0 (by kernel_rfl) _ (fun x h => range_of_block (CU.out.later h)) _ Try.underlying26 rfl (by rw [Array.length_toList]; exact sizeC _ _) b10 ?_
      refine rgd_call 39 (some 61) (by kernel_rfl) rfl rfl (by kernel_rfl) 16 #[.agg (ccs F (.slice p l.length c)), .agg (ccs U (.slice pu ou.length cu))] (by kernel_rfl) (insideD_is F U p pu c cu l ou x10 (HA.out.below b10) (HU.out.below b10) n1 n3 (by omega)) ?_
      rintro e x11 ⟨z, rfl, hz, hb11⟩
      have b11 := thenBelow b10 hb11
      obtain rfl := union_inside IU.out hz
      refine ⟨_, rfl, b11, ?_⟩
      refine rgd_pure 40 (some 62) rfl rfl (.bool true) (by kernel_rfl) (by kernel_rfl) (by kernel_rfl) (fun _ _ _ _ h => h) (by kernel_rfl) (fun _ => by kernel_rfl) b11 ?_
      refine rgd_pure 41 (some 63) rfl rfl (.bool true) (by kernel_rfl) (by kernel_rfl) (by kernel_rfl) (fun _ _ _ _ h => h) (by kernel_rfl) (fun _ => by kernel_rfl) b11 ?_
      refine rgd_call 42 (some 64) (by kernel_rfl) rfl rfl (by kernel_rfl) 6 #[] (by kernel_rfl) (awake8 x11) ?_
      rintro e x12 ⟨rfl, hb12⟩
      have b12 := thenBelow b11 hb12
      refine ⟨_, rfl, b12, ?_⟩
      refine rgd_pure 43 (some 65) rfl rfl (.bool true) (by kernel_rfl) (by kernel_rfl) (by kernel_rfl) (fun _ _ _ _ h => h) (by kernel_rfl) (fun _ => by kernel_rfl) b12 ?_
      refine rgd_pure 44 (some 6) rfl rfl (.bool true) (by kernel_rfl) (by kernel_rfl) (by kernel_rfl) (fun _ _ _ _ h => h) (by kernel_rfl) (fun _ => by kernel_rfl) b12 ?_
      refine wpAnyH_done (by kernel_rfl) ?_ _
      have BZ := Lib.hid (B6.out.drew.trans (b12.mono (Nat.le_trans B6.out.size (Nat.le_refl _))))
      clear b0 b1 b2 b3 b4 b5 b6 b7 b8 b9 b10 b11 b12
      simp only [Act.put, List.setIfInBounds_toArray, List.set_cons_zero, List.set_cons_succ]
      go_wp2
      go_ret
      exact ⟨ret_bool (by first | rfl | (simp; done)), BZ.out⟩
end Go.Proofs.Ytnfknnkhabjciaa
