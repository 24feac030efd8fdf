/- Add of any context; the document's Both. -/
import Derived.Test.YtnfknnkhabjciaaDotInside
namespace Go.Proofs.Ytnfknnkhabjciaa
open Go Go.RowKit
set_option linter.unusedVariables false

theorem IsTidy.mono {F F' : Nat → Int} {l l' : List Dt} {G G' : Nat → Int} {o o' : List Dt} (h : IsTidy F l G o) (h' : IsTidy F' l' G' o') (hF : ∀ i, i < 64 → clampF F i ≤ G' i) (hl : ∀ d ∈ l, vl d = true → d ∈ l') (i : Nat) (hi : i < 64) : G i ≤ G' i := by
  by_cases hle : G i ≤ G' i
  · exact hle
  · exfalso
    obtain ⟨h1, h2⟩ := h.reach i hi (G' i + 1) (by have := hF i hi; omega) (by omega)
    have := h'.closed _ (hl _ h1 h2) h2
    simp at this
theorem IsTidy.based {Z Z' : Nat → Int} {l : List Dt} {U : Nat → Int} {o : List Dt} (h : IsTidy Z l U o) (h1 : ∀ i, i < 64 → clampF Z i ≤ clampF Z' i) (h2 : ∀ i, i < 64 → clampF Z' i ≤ U i) : IsTidy Z' l U o where
  base := h2
  reach i hi k hk hk2 := h.reach i hi k (by have := h1 i hi; omega) hk2
  closed := h.closed
  rises := h.rises
  mem := h.mem
/-- contexts joined ahead of their tidying, or behind it -/
theorem both_same {F F' : Nat → Int} {l l' : List Dt} {Ga Gb U U' : Nat → Int} {oa ob o o' : List Dt} (ha : IsTidy F l Ga oa) (hb : IsTidy F' l' Gb ob) (h : IsTidy (fun i => max (F i) (F' i)) (l ++ l') U o) (h' : IsTidy (fun i => max (Ga i) (Gb i)) (l ++ l') U' o') : (∀ i, i < 64 → U i = U' i) ∧ o = o' := by
  have ka := ha.mono h (fun i hi => by have := h.base i hi; unfold clampF at *; simp only at this; omega) (fun d hd _ => List.mem_append.2 (.inl hd))
  have kb := hb.mono h (fun i hi => by have := h.base i hi; unfold clampF at *; simp only at this; omega) (fun d hd _ => List.mem_append.2 (.inr hd))
  have hz : IsTidy (fun i => max (Ga i) (Gb i)) (l ++ l') U o := h.based
    (fun i hi => by have h1 := ha.base i hi; have h2 := hb.base i hi; have h3 := ha.good i hi; have h4 := hb.good i hi; unfold clampF at *; simp only; omega)
    (fun i hi => by have h1 := ka i hi; have h2 := kb i hi; have h3 := ha.good i hi; unfold clampF; simp only; omega)
  exact hz.unique h' (fun _ _ => rfl) (fun _ _ => Iff.rfl)
theorem more_same {F : Nat → Int} {l l' : List Dt} {Ga Gb U U' : Nat → Int} {oa ob o o' : List Dt} (ha : IsTidy F l Ga oa) (hb : IsTidy (fun _ => 0) l' Gb ob) (h : IsTidy F (l ++ l') U o) (h' : IsTidy (fun i => max (Ga i) (Gb i)) (l ++ l') U' o') : (∀ i, i < 64 → U i = U' i) ∧ o = o' := by
  have ka := ha.mono h (fun i hi => h.base i hi) (fun d hd _ => List.mem_append.2 (.inl hd))
  have kb := hb.mono h (fun i hi => by have := (h.good i hi).1; unfold clampF; simp only; omega) (fun d hd _ => List.mem_append.2 (.inr hd))
  have hz : IsTidy (fun i => max (Ga i) (Gb i)) (l ++ l') U o := h.based
    (fun i hi => by have h1 := ha.base i hi; have h3 := ha.good i hi; have h4 := hb.good i hi; unfold clampF at *; simp only; omega)
    (fun i hi => by have h1 := ka i hi; have h2 := kb i hi; have h3 := ha.good i hi; unfold clampF; simp only; omega)
  exact hz.unique h' (fun _ _ => rfl) (fun _ _ => Iff.rfl)
theorem sameB_congr {F G F' G' : Nat → Int} {l l' m m' : List Dt} (h : ∀ i, i < 64 → F i = F' i) (hl : l = l') (h2 : ∀ i, i < 64 → G i = G' i) (hm : m = m') : sameB F G l m = sameB F' G' l' m' := by
  subst hl hm
  unfold sameB
  congr 1
  rw [Bool.eq_iff_iff, veq_iff, veq_iff]
  exact ⟨fun k i hi => by rw [← h i hi, ← h2 i hi]; exact k i hi, fun k i hi => by rw [h i hi, h2 i hi]; exact k i hi⟩
theorem builtC1 (p : Option Addr) (n c : Nat) (w : World) : (Instr.build 26 #[(1, .slice p n c)]).run Try.prog w = .ok (.agg (ccs (fun _ => 0) (.slice p n c))) w := by
  unfold ccs; rw [vf_zero]; exact run_build w _ _ _ (by kernel_rfl)
section
variable {o : Oper} {a : Act}
theorem exec_field0 (x : Operand) (ho : o.op = .field 26 x 0) (G : Nat → Int) (v : Value) (hx : a.eval x = .agg (ccs G v)) (w : World) : (execOp a.eval o).run Try.prog w = .ok (.value (.agg (vf G))) w := by
  unfold execOp
  simp only [ho, hx]
  exact run_value_of (fieldC0 G v w)
end
/-- the beginning: two results, all ending at acts that one function gives -/
theorem wp_region_vals {ops : Array Oper} {a : Act} {w : World} {Q : Exit → Act → World → Prop} {id n : Nat} {S : World → Prop} (Fn : (Nat → Int) → Value → (Nat → Int) → Value → World → Prop) {act : (Nat → Int) → Value → (Nat → Int) → Value → Act} {P : Program} (hm : P.follows .mixedOrders = true) (hn : ops.size = n) (hS : S w.drew)
    (h : (∀ G v G' v' w', Fn G v G' v' w' → Q .normal (act G v G' v') w') → wpAnyH P .any ops Q S n (Array.replicate n false) a w.drew)
    (hK : ∀ G v G' v' w', Fn G v G' v' w' → Q .normal (act G v G' v') w') : (Code.region id ops true).wp P Q a w := by
  subst hn
  exact wp_region_held_drew hm hS fun _ => h hK

set_option maxHeartbeats 8000000 in
set_option maxRecDepth 100000 in
theorem addD_is (F : Nat → Int) (p p' : Option Addr) (c c' : Nat) (l l' : List Dt) (w : World) (h : DotsAt w p l) (h' : DotsAt w p' l') (n1 : p = none → c = 0) (n2 : p' = none → c' = 0) (hlen : l.length + l'.length ≤ 1000) :
    Calls Try.prog 15 #[.agg (ccs F (.slice p l.length c)), .slice p' l'.length c'] w (TidyR w F (l ++ l')) := by
  have H := Lib.hid h; have H' := Lib.hid h'
  clear h h'
  go_enter Try.func15, Try.ntmps15
  go_wp2_with (refine wpList_gbox rfl _ rfl (ccs F (.slice p l.length c)) rfl ?_)
  intro g1 w1 l1 h1 hb1
  have C1 : Hid (Cx w1 g1 F (.slice p l.length c)) := h1
  have B1 := Lib.hid hb1; have H1 := Lib.hid (H.out.below hb1); have H1' := Lib.hid (H'.out.below hb1)
  clear h1 hb1
  go_wp2_with (refine wpList_galloc _ zeroC rfl rfl ?_)
  intro g3 w3 l3 h3 hb3
  have CA := Lib.hid ((C1.out.later hb3).later (drew_below (w := w3)))
  have RR : Hid (Cx w3.drew g3 (fun _ => 0) (.slice none 0 0)) := (show Cx w3 g3 (fun _ => 0) (.slice none 0 0) from h3).later drew_below
  have B3 := Lib.hid (thenBelow B1.out hb3); have HA := Lib.hid ((H1.out.below hb3).below (drew_below (w := w3))); have HB := Lib.hid ((H1'.out.below hb3).below (drew_below (w := w3)))
  have g1lt : g1 < g3 := Nat.lt_of_lt_of_le C1.out.lt l3
  have hwr : w.heap.size ≤ g3 := Nat.le_trans B1.out.size l3
  clear h3 hb3 C1 H1 H1'
  go_wp2
  have b3 : Below w3.drew.heap.size w3.drew w3.drew := Below.refl _ _
  have hle : g3 ≤ w3.drew.heap.size := Nat.le_of_lt RR.out.lt
  apply wp_region_res (n := 10) (S := fun x => Below g3 w3.drew x) (ResAt w F (l ++ l') g3) (by kernel_rfl) rfl (b3.mono hle)
  · intro KK
    refine rgd_pure 0 (some 5) rfl rfl (.pointer (some ⟨g1, 0, none⟩)) (by kernel_rfl) (by kernel_rfl) (by kernel_rfl) (fun _ _ _ _ h => h) (by kernel_rfl) (fun _ => by kernel_rfl) (b3.mono hle) ?_
    refine rgd_gload 1 (some 6) rfl rfl (by kernel_rfl) (by kernel_rfl) (by kernel_rfl) (fun _ _ _ _ h => h) (by kernel_rfl) _ rfl g1 0 (by kernel_rfl) _ (fun x h => (show Cx x g1 _ _ from (h.block g1 g1lt).trans CA.out).range) _ Try.underlying23 rfl (by rw [Array.length_toList]; exact sizeV _) (b3.mono hle) ?_
    refine rgd_pure 2 (some 7) rfl rfl (.pointer (some ⟨g1, 64, none⟩)) (by kernel_rfl) (by kernel_rfl) (by kernel_rfl) (fun _ _ _ _ h => h) (by kernel_rfl) (fun _ => by kernel_rfl) (b3.mono hle) ?_
    refine rgd_load 3 (some 8) rfl rfl (by kernel_rfl) (by kernel_rfl) (by kernel_rfl) (fun _ _ _ _ h => h) (by kernel_rfl) _ _ rfl Try.underlying24 rfl ⟨g1, 64, none⟩ (.slice p l.length c) (by kernel_rfl) (fun x h => (show Cx x g1 _ _ from (h.block g1 g1lt).trans CA.out).slot) (b3.mono hle) ?_
    refine rgd_pure 4 (some 9) rfl rfl (.slice p' l'.length c') (by kernel_rfl) (by kernel_rfl) (by kernel_rfl) (fun _ _ _ _ h => h) (by kernel_rfl) (fun _ => by kernel_rfl) (b3.mono hle) ?_
    refine rgd_run 5 (some 10) (by kernel_rfl) rfl rfl (by kernel_rfl) (.slice (some ⟨w3.drew.heap.size, 0, none⟩) 2 2) (w3.drew.alloc (.cells #[.slice p l.length c, .slice p' l'.length c'] 24)) (by kernel_rfl) ((below_alloc _ _).mono hle) ?_
    have pr := pair_cells w3.drew (.slice p l.length c) (.slice p' l'.length c') 24
    have b4 := below_alloc w3.drew (.cells #[.slice p l.length c, .slice p' l'.length c'] 24)
    obtain ⟨gp, hgp⟩ : ∃ gp, gp = w3.drew.heap.size := ⟨_, rfl⟩
    rw [← hgp] at pr ⊢
    generalize w3.drew.alloc (.cells #[.slice p l.length c, .slice p' l'.length c'] 24) = w4 at pr b4 ⊢
    clear hgp
    refine rgd_call 6 (some 11) (by kernel_rfl) rfl rfl (by kernel_rfl) 30 #[.slice (some ⟨gp, 0, none⟩) 2 2] (by kernel_rfl) (concatD gp 2 c c' p p' l l' w4 (HA.out.below b4).row (HB.out.below b4).row (fun e => ⟨HA.out.none e, n1 e⟩) (fun e => ⟨HB.out.none e, n2 e⟩) (by omega) pr.1 pr.2) ?_
    rintro e w5 ⟨v, rfl, hown, hb5⟩
    have b5 := thenBelow b4 hb5
    obtain ⟨pv, cv, rfl⟩ := own_shape hown
    obtain ⟨hdv, _, _⟩ := own_dots hown
    refine ⟨_, rfl, b5.mono hle, ?_⟩
    refine rgd_pure 7 (some 12) rfl rfl (.agg (ccs F (.slice pv (l ++ l').length cv))) (by kernel_rfl) (by kernel_rfl) (by kernel_rfl) (fun _ _ _ _ h => h) (by kernel_rfl) (fun w => exec_ctx _ _ rfl F pv (l ++ l').length cv (by kernel_rfl) (by kernel_rfl) w) (b5.mono hle) ?_
    refine rgd_call 8 (some 13) (by kernel_rfl) rfl rfl (by kernel_rfl) 7 #[.agg (ccs F (.slice pv (l ++ l').length cv))] (by kernel_rfl) (tidyD_is F pv cv (l ++ l') w5 hdv (by rw [List.length_append]; exact hlen)) ?_
    rintro e w6 ⟨G, o, v2, hI, rfl, hown2, hb6⟩
    refine ⟨_, rfl, (thenBelow b5 hb6).mono hle, ?_⟩
    refine wpAnyH_all (rs := [9]) (by kernel_rfl) (by simp) fun i hi => ?_
    rcases List.mem_singleton.1 hi
    refine wpOp_cstoreD rfl rfl rfl _ _ rfl g3 (by kernel_rfl) G v2 (by kernel_rfl) (shape3 hown2) _ _ ((RR.out.later b5).later hb6) fun wz hz gz => ⟨((thenBelow b5 hb6).mono hle).trans (grown_below gz (Nat.le_trans hle (thenBelow b5 hb6).size) (Nat.le_refl _)), ?_⟩
    exact wpAnyH_done (by kernel_rfl) (KK G v2 gp pv cv wz (resAt_of hI (B3.out.drew.trans (b5.mono B3.out.size)) hwr (Nat.lt_of_lt_of_le RR.out.lt b5.size) hb6 hown2 hz gz)) _
  intro G v gp pv cv wz hR
  obtain ⟨o, hI, hB, hO, hC⟩ := hR
  simp only [Act.put, List.setIfInBounds_toArray, List.set_cons_zero, List.set_cons_succ]
  go_wp2
  exact bodyPost_ret (v := .agg (ccs G v)) (results_cell_row rfl _ wz g3 _ _ (0, 0) _ rfl hC.out Try.underlying26 rfl (sizeC _ _)) rfl ⟨G, o, v, hI, rfl, hO, hB.out⟩

/-- what the document's Both gives -/
def BothR (w : World) (F F' : Nat → Int) (l l' : List Dt) (e : Ending) (w' : World) : Prop :=
  ∃ Ga oa Gb ob v, IsTidy F l Ga oa ∧ IsTidy F' l' Gb ob ∧ e = .returned (.agg (ccs (fun i => max (Ga i) (Gb i)) v)) ∧ w'.ownsRow w.heap.size 28 2 v (l ++ l').length (dcl (l ++ l')) ∧ Below w.heap.size w w'
def BothAt (w : World) (F F' : Nat → Int) (l l' : List Dt) (g : Nat) (v : Value) (Ga : Nat → Int) (va : Value) (Gb : Nat → Int) (vb : Value) (w' : World) : Prop :=
  ∃ oa ob, IsTidy F l Ga oa ∧ IsTidy F' l' Gb ob ∧ Hid (Below w.heap.size w w') ∧ w'.ownsRow w.heap.size 28 2 v (l ++ l').length (dcl (l ++ l')) ∧ Hid (Cx w' g (fun i => max (Ga i) (Gb i)) v)

set_option maxHeartbeats 8000000 in
set_option maxRecDepth 100000 in
theorem bothD_is (F F' : Nat → Int) (p p' : Option Addr) (c c' : Nat) (l l' : List Dt) (w : World) (h : DotsAt w p l) (h' : DotsAt w p' l') (n1 : p = none → c = 0) (n2 : p' = none → c' = 0) (hlen : l.length + l'.length ≤ 1000) :
    Calls Try.prog 13 #[.agg (ccs F (.slice p l.length c)), .agg (ccs F' (.slice p' l'.length c'))] w (BothR w F F' l l') := by
  have H := Lib.hid h; have H' := Lib.hid h'
  clear h h'
  go_enter Try.func13, Try.ntmps13
  go_wp2_with (refine wpList_gbox rfl _ rfl (ccs F (.slice p l.length c)) rfl ?_)
  intro g1 w1 l1 h1 hb1
  have C1 : Hid (Cx w1 g1 F (.slice p l.length c)) := h1
  have B1 := Lib.hid hb1; have H1 := Lib.hid (H.out.below hb1); have H1' := Lib.hid (H'.out.below hb1)
  clear h1 hb1
  go_wp2_with (refine wpList_gbox rfl _ rfl (ccs F' (.slice p' l'.length c')) rfl ?_)
  intro g2 w2 l2 h2 hb2
  have C2 := Lib.hid (C1.out.later hb2); have D2 : Hid (Cx w2 g2 F' (.slice p' l'.length c')) := h2
  have B2 := Lib.hid (thenBelow B1.out hb2); have H2 := Lib.hid (H1.out.below hb2); have H2' := Lib.hid (H1'.out.below hb2)
  clear h2 hb2
  go_wp2_with (refine wpList_galloc _ zeroC rfl rfl ?_)
  intro g3 w3 l3 h3 hb3
  have C3 := Lib.hid (C2.out.later hb3); have D3 := Lib.hid (D2.out.later hb3)
  have R3 : Hid (Cx w3 g3 (fun _ => 0) (.slice none 0 0)) := h3
  have B3 := Lib.hid (thenBelow B2.out hb3); have H3 := Lib.hid (H2.out.below hb3); have H3' := Lib.hid (H2'.out.below hb3)
  have g1lt : g1 < g3 := Nat.lt_of_lt_of_le C2.out.lt l3
  have g2lt : g2 < g3 := Nat.lt_of_lt_of_le D2.out.lt l3
  have hwr : w.heap.size ≤ g3 := Nat.le_trans B2.out.size l3
  have s1 := C3.out.slot
  clear h3 hb3 C1 C2 D2 H1 H1' H2 H2'
  go_wp2_with (at_builtin; refine wpList_dots _ rfl _ _ rfl w3.heap.size [] (.slice none 0 0) rfl ⟨rfl, .inl ⟨rfl, rfl⟩⟩ p l.length c l rfl H3.out.row rfl (fun e => ⟨by rw [H3.out.none e]; rfl, n1 e⟩) (by simp; omega) (Nat.le_refl _) ?_)
  intro v1 w4 hown1 hb4
  have O1 : w4.ownsRow w3.heap.size 28 2 v1 l.length (dcl l) := by simpa using hown1
  have D4 := Lib.hid (D3.out.later hb4); have H4' := Lib.hid (H3'.out.below hb4)
  have s2 := D4.out.slot
  clear s1 hown1
  go_wp2_with (at_builtin; refine wpList_dots _ rfl _ _ rfl w3.heap.size l v1 rfl O1 p' l'.length c' l' rfl H4'.out.row rfl (fun e => ⟨by rw [H4'.out.none e]; rfl, n2 e⟩) (by omega) hb4.size ?_)
  intro v2 w5 hown2 hb5
  have O2 : w5.ownsRow w3.heap.size 28 2 v2 (l ++ l').length (dcl (l ++ l')) := by simpa using hown2
  have h35 : Below w3.heap.size w3 w5 := hb4.trans hb5
  have CA := Lib.hid ((C3.out.later h35).later (drew_below (w := w5))); have CB := Lib.hid ((D3.out.later h35).later (drew_below (w := w5)))
  have RR := Lib.hid ((R3.out.later h35).later (drew_below (w := w5)))
  have HA := Lib.hid ((H3.out.below h35).below (drew_below (w := w5))); have HB := Lib.hid ((H3'.out.below h35).below (drew_below (w := w5)))
  have B5 := Lib.hid (thenBelow B3.out h35)
  have OO := Lib.hid (own_lat O2 (drew_below (w := w5)))
  have hg33 : g3 < w3.heap.size := R3.out.lt
  obtain ⟨pv, cv, rfl⟩ := own_shape O2
  obtain ⟨L, hL⟩ : ∃ L, L = l ++ l' := ⟨_, rfl⟩
  obtain ⟨N3, hN3⟩ : ∃ n, n = w3.heap.size := ⟨_, rfl⟩
  rw [← hL] at OO
  rw [← hN3] at OO hg33
  have hwN : w.heap.size ≤ N3 := by rw [hN3]; exact B3.out.size
  have hLL : (l ++ l').length = L.length := by rw [hL]
  simp only [hLL]
  clear s2 hown2 O1 O2 hb4 hb5 h35 C3 D3 R3 D4 H3 H3' H4' B1 B2 B3 hN3 H H'
  go_wp2
  have b3 : Below w5.drew.heap.size w5.drew w5.drew := Below.refl _ _
  have hle : g3 ≤ w5.drew.heap.size := Nat.le_of_lt RR.out.lt
  apply wp_region_vals (n := 10) (S := fun x => Below g3 w5.drew x) (BothAt w F F' l l' g3 (.slice pv L.length cv)) (by kernel_rfl) rfl (b3.mono hle)
  · intro KK
    refine rgd_gload 0 (some 14) rfl rfl (by kernel_rfl) (by kernel_rfl) (by kernel_rfl) (fun _ _ _ _ h => h) (by kernel_rfl) _ rfl g1 0 (by kernel_rfl) _ (fun x h => range_of_block ((h.block g1 g1lt).trans CA.out)) _ Try.underlying26 rfl (by rw [Array.length_toList]; exact sizeC _ _) (b3.mono hle) ?_
    refine rgd_gload 3 (some 17) rfl rfl (by kernel_rfl) (by kernel_rfl) (by kernel_rfl) (fun _ _ _ _ h => h) (by kernel_rfl) _ rfl g2 0 (by kernel_rfl) _ (fun x h => range_of_block ((h.block g2 g2lt).trans CB.out)) _ Try.underlying26 rfl (by rw [Array.length_toList]; exact sizeC _ _) (b3.mono hle) ?_
    refine rgd_pure 7 (some 21) rfl rfl (.slice pv L.length cv) (by kernel_rfl) (by kernel_rfl) (by kernel_rfl) (fun _ _ _ _ h => h) (by kernel_rfl) (fun _ => by kernel_rfl) (b3.mono hle) ?_
    refine rgd_call 1 (some 15) (by kernel_rfl) rfl rfl (by kernel_rfl) 8 #[.agg (ccs F (.slice p l.length c))] (by kernel_rfl) (refTidyD_is F p c l w5.drew HA.out (by omega)) ?_
    rintro e w6 ⟨Ga, oa, va, hIa, rfl, _, hb6⟩
    have b6 := thenBelow b3 hb6
    refine ⟨_, rfl, b6.mono hle, ?_⟩
    refine rgd_pure 2 (some 16) rfl rfl (.agg (vf Ga)) (by kernel_rfl) (by kernel_rfl) (by kernel_rfl) (fun _ _ _ _ h => h) (by kernel_rfl) (fun w => exec_field0 _ rfl Ga va (by kernel_rfl) w) (b6.mono hle) ?_
    refine rgd_call 4 (some 18) (by kernel_rfl) rfl rfl (by kernel_rfl) 8 #[.agg (ccs F' (.slice p' l'.length c'))] (by kernel_rfl) (refTidyD_is F' p' c' l' w6 (HB.out.below b6) (by omega)) ?_
    rintro e w7 ⟨Gb, ob, vb, hIb, rfl, _, hb7⟩
    have b7 := thenBelow b6 hb7
    refine ⟨_, rfl, b7.mono hle, ?_⟩
    refine rgd_pure 5 (some 19) rfl rfl (.agg (vf Gb)) (by kernel_rfl) (by kernel_rfl) (by kernel_rfl) (fun _ _ _ _ h => h) (by kernel_rfl) (fun w => exec_field0 _ rfl Gb vb (by kernel_rfl) w) (b7.mono hle) ?_
    refine rgd_call 6 (some 20) (by kernel_rfl) rfl rfl (by kernel_rfl) 28 #[.agg (vf Ga), .agg (vf Gb)] (by kernel_rfl) (refJoin_is Ga Gb w7) ?_
    rintro e w8 ⟨rfl, hb8⟩
    have b8 := thenBelow b7 hb8
    refine ⟨_, rfl, b8.mono hle, ?_⟩
    refine rgd_pure 8 (some 22) rfl rfl (.agg (ccs (fun i => max (Ga i) (Gb i)) (.slice pv L.length cv))) (by kernel_rfl) (by kernel_rfl) (by kernel_rfl) (fun _ _ _ _ h => h) (by kernel_rfl) (fun w => exec_ctx _ _ rfl _ pv L.length cv (by kernel_rfl) (by kernel_rfl) w) (b8.mono hle) ?_
    refine wpAnyH_all (rs := [9]) (by kernel_rfl) (by simp) fun i hi => ?_
    rcases List.mem_singleton.1 hi
    refine wpOp_cstoreD rfl rfl rfl _ _ rfl g3 (by kernel_rfl) (fun i => max (Ga i) (Gb i)) (.slice pv L.length cv) (by kernel_rfl) ⟨_, _, _, rfl⟩ _ _ (RR.out.later b8) fun wz hz gz => ⟨(b8.mono hle).trans (grown_below gz (Nat.le_trans hle b8.size) (Nat.le_refl _)), ?_⟩
    exact wpAnyH_done (by kernel_rfl) (KK Ga va Gb vb wz ⟨oa, ob, hIa, hIb, (B5.out.drew.trans (b8.mono B5.out.size)).trans (grown_below gz (Nat.le_trans B5.out.size b8.size) hwr), by rw [← hL]; exact own_down (own_kept (own_lat OO.out b8) gz hg33) hwN, hz⟩) _
  intro Ga va Gb vb wz hR
  obtain ⟨oa, ob, hIa, hIb, hB, hO, hC⟩ := hR
  simp only [Act.put, List.setIfInBounds_toArray, List.set_cons_zero, List.set_cons_succ]
  go_wp2
  exact bodyPost_ret (v := .agg (ccs (fun i => max (Ga i) (Gb i)) (.slice pv L.length cv))) (results_cell_row rfl _ wz g3 _ _ (0, 0) _ rfl hC.out Try.underlying26 rfl (sizeC _ _)) rfl ⟨Ga, oa, Gb, ob, _, hIa, hIb, rfl, hO, hB.out⟩
end Go.Proofs.Ytnfknnkhabjciaa
