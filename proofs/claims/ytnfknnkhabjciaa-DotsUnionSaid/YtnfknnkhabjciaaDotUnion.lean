/- Union and Add of any contexts. -/
import Derived.Test.YtnfknnkhabjciaaDotCat
import Derived.Test.YtnfknnkhabjciaaDotReg
namespace Go.Proofs.Ytnfknnkhabjciaa
open Go Go.RowKit
set_option linter.unusedVariables false

theorem sizeV (f : Nat → Int) : (Try.prog.info? 23).map (·.size) = some (vf f).size := by rw [vf_size]; kernel_rfl
section
variable {P : Program} {t : TypeId} {ops : Array Oper} {o : Oper} {a : Act} {w : World} {Q : Exit → Act → World → Prop}
theorem exec_build (parts : Array (Nat × Operand)) (ho : o.op = .build t parts) (cs : Array Value) (hb : (Instr.build t (parts.map fun (i, x) => (i, a.eval x))).run P w = .ok (.agg cs) w) : (execOp a.eval o).run P w = .ok (.value (.agg cs)) w := by
  unfold execOp
  simp only [ho, Sem.run_bind, hb, Result.andThen_ok]
  rfl
variable {S : World → Prop} {i : Nat} {md : Region.Mode} {fuel : Nat} {listed : Array Bool}
theorem rgd_call (i : Nat) (d : Option Tmp) (hr : Region.ready md ops listed = [i]) (hi : ops[i]? = some o) (hd : o.dst = d) (hw : Region.wanted o (yielded ops a.tmps) = true) (f : FuncId) (args : Array Value) {Post : Ending → World → Prop} (hrun : (execOp a.eval o).run P w = .ok (.enter f args) w)
    (hc : Calls P f args w Post) (h : ∀ e w', Post e w' → ∃ v, e = .returned v ∧ S w' ∧ wpAnyH P md ops Q S fuel (listed.setIfInBounds i true) (a.put d v) w') : wpAnyH P md ops Q S (fuel + 1) listed a w := by
  subst hd; exact rg_call i hr hi hw f args hrun hc h
theorem rgd_run (i : Nat) (d : Option Tmp) (hr : Region.ready md ops listed = [i]) (hi : ops[i]? = some o) (hd : o.dst = d) (hw : Region.wanted o (yielded ops a.tmps) = true) (v : Value) (w' : World) (hrun : (execOp a.eval o).run P w = .ok (.value v) w')
    (hS : S w') (h : wpAnyH P md ops Q S fuel (listed.setIfInBounds i true) (a.put d v) w') : wpAnyH P md ops Q S (fuel + 1) listed a w := by
  subst hd; exact rg_run i hr hi hw v w' hrun hS h
theorem rgd_two2 {o2 : Oper} (i j : Nat) (d d2 : Option Tmp) (hr : Region.ready md ops listed = [i, j]) (hi : ops[i]? = some o) (hd : o.dst = d) (hw : Region.wanted o (yielded ops a.tmps) = true) (f : FuncId) (args : Array Value) {Post : Ending → World → Prop} (hrun : (execOp a.eval o).run P w = .ok (.enter f args) w) (hc : Calls P f args w Post)
    (hj : ops[j]? = some o2) (hd2 : o2.dst = d2) (hw2 : Region.wanted o2 (yielded ops a.tmps) = true) (v2 : Value) (w2 : World) (hrun2 : (execOp a.eval o2).run P w = .ok (.value v2) w2) (hS : S w2)
    (h : ∀ e w', Post e w' → ∃ v, e = .returned v ∧ S w' ∧ wpAnyH P md ops Q S fuel (listed.setIfInBounds i true) (a.put d v) w')
    (h2 : wpAnyH P md ops Q S fuel (listed.setIfInBounds j true) (a.put d2 v2) w2) : wpAnyH P md ops Q S (fuel + 1) listed a w := by
  subst hd; subst hd2; exact rg_two2 i j hr hi hw f args hrun hc hj hw2 v2 w2 hrun2 hS h h2
theorem rgd_gload (i : Nat) (d : Option Tmp) (hi : ops[i]? = some o) (hd : o.dst = d) (hs : Region.noSelect ops = true) (hf : Region.free md ops listed i = true) (hr : (Region.ready md ops listed).contains i = true)
    (hQ : ∀ c (a : Act) w v, Q (.panic c) (a.put d v) w → Q (.panic c) a w) (hw : Region.wanted o (yielded ops a.tmps) = true) (x : Operand) (ho : o.op = .load t x) (b c : Nat) (hx : a.eval x = .pointer (some ⟨b, c, none⟩)) (cs : List Value) (hrow : ∀ w, S w → w.rangeAt b c cs) (dd : TypeDesc) (hu : P.underlying t = some dd) (hdd : dd.isRow = true) (hsz : (P.info? t).map (·.size) = some cs.length) (hS : S w)
    (h : wpAnyH P md ops Q S fuel (listed.setIfInBounds i true) (a.put d (.agg cs.toArray)) w) : wpAnyH P md ops Q S (fuel + 1) listed a w := by
  subst hd; exact wpAnyH_gload hi hs hf hr hQ hw x ho b c hx cs hrow dd hu hdd hsz hS h
/-- the beginning: one result, all ending at acts that one function gives -/
theorem wp_region_res {id n : Nat} {S : World → Prop} (Fn : (Nat → Int) → Value → World → Prop) {act : (Nat → Int) → Value → Nat → Option Addr → Nat → Act} (hm : P.follows .mixedOrders = true) (hn : ops.size = n) (hS : S w.drew)
    (h : (∀ G v g p c w', Fn G v w' → Q .normal (act G v g p c) w') → wpAnyH P .any ops Q S n (Array.replicate n false) a w.drew)
    (hK : ∀ G v g p c w', Fn G v w' → Q .normal (act G v g p c) w') : (Code.region id ops true).wp P Q a w := by
  subst hn
  exact wp_region_held_drew hm hS fun _ => h hK
end
theorem exec_ctx {o : Oper} {a : Act} (x y : Operand) (ho : o.op = .build 26 #[(0, x), (1, y)]) (J : Nat → Int) (p : Option Addr) (n c : Nat) (hx : a.eval x = .agg (vf J)) (hy : a.eval y = .slice p n c) (w : World) :
    (execOp a.eval o).run Try.prog w = .ok (.value (.agg (ccs J (.slice p n c)))) w :=
  exec_build _ ho _ (by simp only [List.map_toArray, List.map_cons, List.map_nil, hx, hy]; exact builtC2 J p n c w)
theorem wpOp_cstoreD {ops : Array Oper} {o : Oper} {a : Act} {w : World} {Q : Exit → Act → World → Prop} {K : Act → World → Prop} {i : Nat} (hi : ops[i]? = some o) (hd : o.dst = none) (hw : Region.wanted o (yielded ops a.tmps) = true) (x y : Operand) (ho : o.op = .store 26 x y) (g : Nat) (hx : a.eval x = .pointer (some ⟨g, 0, none⟩)) (G : Nat → Int) (v : Value) (hy : a.eval y = .agg (ccs G v)) (hv : ∃ p n c, v = .slice p n c) (F0 : Nat → Int) (v0 : Value) (hr : Cx w g F0 v0)
    (h : ∀ w', Cx w' g G v → w.grownBy w' (some g) → K a w') : wpOp Try.prog ops Q i K a w :=
  wpOp_cstore hi hw x y ho g hx G v hy hv F0 v0 hr fun w' h1 h2 => by rw [hd]; exact h w' h1 h2
theorem own_dots {w : World} {B : Nat} {p : Option Addr} {n c : Nat} {l : List Dt} (h : w.ownsRow B 28 2 (.slice p n c) l.length (dcl l)) : DotsAt w p l ∧ (p = none → c = 0) ∧ n = l.length := by
  obtain ⟨_, p', c', e, _, hr, hn, hs⟩ := own_drow h
  cases e
  exact ⟨⟨hr, fun e => (hn e).1, fun a e => by obtain ⟨g, rfl, _⟩ := hs a e; exact ⟨g, 0, rfl⟩⟩, fun e => (hn e).2, rfl⟩
theorem pair_cells (w : World) (u v : Value) (t : TypeId) : (w.alloc (.cells #[u, v] t)).cell? ⟨w.heap.size, 0, none⟩ = some u ∧ (w.alloc (.cells #[u, v] t)).cell? ⟨w.heap.size, 1, none⟩ = some v :=
  ⟨(cell_of_row _ w.heap.size 0 _ _ _ (heap_alloc_new w _)).trans rfl, (cell_of_row _ w.heap.size 1 _ _ _ (heap_alloc_new w _)).trans rfl⟩
/-- what holds behind the region: the result lies at g -/
def ResAt (w : World) (F : Nat → Int) (l : List Dt) (g : Nat) (G : Nat → Int) (v : Value) (w' : World) : Prop :=
  ∃ o, IsTidy F l G o ∧ Hid (Below w.heap.size w w') ∧ w'.ownsRow w.heap.size 28 2 v o.length (dcl o) ∧ Hid (Cx w' g G v)
theorem resAt_of {w w5 w6 w7 : World} {F : Nat → Int} {l o : List Dt} {g : Nat} {G : Nat → Int} {v : Value} (hI : IsTidy F l G o) (hb : Below w.heap.size w w5) (hg : w.heap.size ≤ g) (hg5 : g < w5.heap.size) (hb6 : Below w5.heap.size w5 w6) (hown : w6.ownsRow w5.heap.size 28 2 v o.length (dcl o)) (h7 : Cx w7 g G v) (g7 : w6.grownBy w7 (some g)) : ResAt w F l g G v w7 :=
  ⟨o, hI, (thenBelow hb hb6).trans (grown_below g7 (thenBelow hb hb6).size hg), own_down (own_kept hown g7 hg5) hb.size, h7⟩

set_option maxHeartbeats 8000000 in
set_option maxRecDepth 100000 in
theorem unionD_is (F F' : Nat → Int) (p p' : Option Addr) (c c' : Nat) (l l' : List Dt) (w : World) (h : DotsAt w p l) (h' : DotsAt w p' l') (n1 : p = none → c = 0) (n2 : p' = none → c' = 0) (hlen : l.length + l'.length ≤ 1000) :
    Calls Try.prog 14 #[.agg (ccs F (.slice p l.length c)), .agg (ccs F' (.slice p' l'.length c'))] w (TidyR w (fun i => max (F i) (F' i)) (l ++ l')) := by
  have H := Lib.hid h; have H' := Lib.hid h'
  clear h h'
  have JO : Hid (∀ w, Calls Try.prog 29 #[.agg (vf F), .agg (vf F')] w (RetVec w (fun i => max (F i) (F' i)))) := fun w => ownJoin_is F F' w
  obtain ⟨J, hJ⟩ : ∃ J : Nat → Int, J = fun i => max (F i) (F' i) := ⟨_, rfl⟩
  rw [← hJ] at JO
  go_enter Try.func14, Try.ntmps14
  go_wp2_with (refine wpList_gbox rfl _ rfl (ccs F (.slice p l.length c)) rfl ?_)
  intro g1 w1 l1 h1 hb1
  have C1 : Hid (Cx w1 g1 F (.slice p l.length c)) := h1
  have B1 := Lib.hid hb1; have H1 := Lib.hid (H.out.below hb1); have H1' := Lib.hid (H'.out.below hb1)
  clear h1 hb1
  go_wp2_with (refine wpList_gbox rfl _ rfl (ccs F' (.slice p' l'.length c')) rfl ?_)
  intro g2 w2 l2 h2 hb2
  have C2 := Lib.hid (C1.out.later hb2); have D2 : Hid (Cx w2 g2 F' (.slice p' l'.length c')) := h2
  have B2 := Lib.hid (thenBelow B1.out hb2); have H2 := Lib.hid (H1.out.below hb2); have H2' := Lib.hid (H1'.out.below hb2)
  clear h2 hb2
  go_wp2_with (refine wpList_galloc _ zeroC rfl rfl ?_)
  intro g3 w3 l3 h3 hb3
  have CA := Lib.hid ((C2.out.later hb3).later (drew_below (w := w3))); have CB := Lib.hid ((D2.out.later hb3).later (drew_below (w := w3)))
  have RR : Hid (Cx w3.drew g3 (fun _ => 0) (.slice none 0 0)) := (show Cx w3 g3 (fun _ => 0) (.slice none 0 0) from h3).later drew_below
  have B3 := Lib.hid (thenBelow B2.out hb3); have HA := Lib.hid ((H2.out.below hb3).below (drew_below (w := w3))); have HB := Lib.hid ((H2'.out.below hb3).below (drew_below (w := w3)))
  have h13 : g1 < g3 := Nat.lt_of_lt_of_le C2.out.lt l3
  have h23 : g2 < g3 := Nat.lt_of_lt_of_le D2.out.lt l3
  have hwr : w.heap.size ≤ g3 := Nat.le_trans B2.out.size l3
  clear h3 hb3 C1 C2 D2 H1 H1' H2 H2'
  go_wp2
  have b3 : Below w3.drew.heap.size w3.drew w3.drew := Below.refl _ _
  have hle : g3 ≤ w3.drew.heap.size := Nat.le_of_lt RR.out.lt
  have g1lt : g1 < g3 := h13
  have g2lt : g2 < g3 := h23
  apply wp_region_res (n := 14) (S := fun x => Below g3 w3.drew x) (ResAt w J (l ++ l') g3) (by kernel_rfl) rfl (b3.mono hle)
  · intro KK
    refine rgd_pure 0 (some 5) rfl rfl (.pointer (some ⟨g1, 0, none⟩)) (by kernel_rfl) (by kernel_rfl) (by kernel_rfl) (fun _ _ _ _ h => h) (by kernel_rfl) (fun _ => by kernel_rfl) (b3.mono hle) ?_
    refine rgd_gload 1 (some 6) rfl rfl (by kernel_rfl) (by kernel_rfl) (by kernel_rfl) (fun _ _ _ _ h => h) (by kernel_rfl) _ rfl g1 0 rfl _ (fun x h => (show Cx x g1 _ _ from (h.block g1 g1lt).trans CA.out).range) _ Try.underlying23 rfl (by rw [Array.length_toList]; exact sizeV _) (b3.mono hle) ?_
    refine rgd_pure 2 (some 7) rfl rfl (.pointer (some ⟨g2, 0, none⟩)) (by kernel_rfl) (by kernel_rfl) (by kernel_rfl) (fun _ _ _ _ h => h) (by kernel_rfl) (fun _ => by kernel_rfl) (b3.mono hle) ?_
    refine rgd_gload 3 (some 8) rfl rfl (by kernel_rfl) (by kernel_rfl) (by kernel_rfl) (fun _ _ _ _ h => h) (by kernel_rfl) _ rfl g2 0 rfl _ (fun x h => (show Cx x g2 _ _ from (h.block g2 g2lt).trans CB.out).range) _ Try.underlying23 rfl (by rw [Array.length_toList]; exact sizeV _) (b3.mono hle) ?_
    refine rgd_pure 5 (some 10) rfl rfl (.pointer (some ⟨g1, 64, none⟩)) (by kernel_rfl) (by kernel_rfl) (by kernel_rfl) (fun _ _ _ _ h => h) (by kernel_rfl) (fun _ => by kernel_rfl) (b3.mono hle) ?_
    refine rgd_load 6 (some 11) rfl rfl (by kernel_rfl) (by kernel_rfl) (by kernel_rfl) (fun _ _ _ _ h => h) (by kernel_rfl) _ _ rfl Try.underlying24 rfl ⟨g1, 64, none⟩ (.slice p l.length c) (by kernel_rfl) (fun x h => (show Cx x g1 _ _ from (h.block g1 g1lt).trans CA.out).slot) (b3.mono hle) ?_
    refine rgd_pure 7 (some 12) rfl rfl (.pointer (some ⟨g2, 64, none⟩)) (by kernel_rfl) (by kernel_rfl) (by kernel_rfl) (fun _ _ _ _ h => h) (by kernel_rfl) (fun _ => by kernel_rfl) (b3.mono hle) ?_
    refine rgd_load 8 (some 13) rfl rfl (by kernel_rfl) (by kernel_rfl) (by kernel_rfl) (fun _ _ _ _ h => h) (by kernel_rfl) _ _ rfl Try.underlying24 rfl ⟨g2, 64, none⟩ (.slice p' l'.length c') (by kernel_rfl) (fun x h => (show Cx x g2 _ _ from (h.block g2 g2lt).trans CB.out).slot) (b3.mono hle) ?_
    refine rgd_two2 4 9 (some 9) (some 14) (by kernel_rfl) rfl rfl (by kernel_rfl) 29 #[.agg (vf F), .agg (vf F')] (by kernel_rfl) (JO.out _) rfl rfl (by kernel_rfl) (.slice (some ⟨w3.drew.heap.size, 0, none⟩) 2 2) (w3.drew.alloc (.cells #[.slice p l.length c, .slice p' l'.length c'] 24)) (by kernel_rfl) ((below_alloc _ _).mono hle) ?_ ?_
    · rintro e w4 ⟨rfl, hb4⟩
      refine ⟨_, rfl, hb4.mono hle, ?_⟩
      refine rgd_run 9 (some 14) (by kernel_rfl) rfl rfl (by kernel_rfl) (.slice (some ⟨w4.heap.size, 0, none⟩) 2 2) (w4.alloc (.cells #[.slice p l.length c, .slice p' l'.length c'] 24)) (by kernel_rfl) ((thenBelow hb4 (below_alloc _ _)).mono hle) ?_
      have pr := pair_cells w4 (.slice p l.length c) (.slice p' l'.length c') 24
      have b5 := thenBelow hb4 (below_alloc w4 (.cells #[.slice p l.length c, .slice p' l'.length c'] 24))
      obtain ⟨gp, hgp⟩ : ∃ gp, gp = w4.heap.size := ⟨_, rfl⟩
      rw [← hgp] at pr ⊢
      generalize w4.alloc (.cells #[.slice p l.length c, .slice p' l'.length c'] 24) = w5 at pr b5 ⊢
      clear hgp
      refine rgd_call 10 (some 15) (by kernel_rfl) rfl rfl (by kernel_rfl) 30 #[.slice (some ⟨gp, 0, none⟩) 2 2] (by kernel_rfl) (concatD gp 2 c c' p p' l l' w5 (HA.out.below b5).row (HB.out.below b5).row (fun e => ⟨HA.out.none e, n1 e⟩) (fun e => ⟨HB.out.none e, n2 e⟩) (by omega) pr.1 pr.2) ?_
      rintro e w6 ⟨v, rfl, hown, hb6⟩
      have b6 := thenBelow b5 hb6
      obtain ⟨pv, cv, rfl⟩ := own_shape hown
      obtain ⟨hdv, _, _⟩ := own_dots hown
      refine ⟨_, rfl, b6.mono hle, ?_⟩
      refine rgd_pure 11 (some 16) rfl rfl (.agg (ccs J (.slice pv (l ++ l').length cv))) (by kernel_rfl) (by kernel_rfl) (by kernel_rfl) (fun _ _ _ _ h => h) (by kernel_rfl) (fun w => exec_ctx _ _ rfl J pv (l ++ l').length cv (by kernel_rfl) (by kernel_rfl) w) (b6.mono hle) ?_
      refine rgd_call 12 (some 17) (by kernel_rfl) rfl rfl (by kernel_rfl) 7 #[.agg (ccs J (.slice pv (l ++ l').length cv))] (by kernel_rfl) (tidyD_is J pv cv (l ++ l') w6 hdv (by rw [List.length_append]; exact hlen)) ?_
      rintro e w7 ⟨G, o, v2, hI, rfl, hown2, hb7⟩
      refine ⟨_, rfl, (thenBelow b6 hb7).mono hle, ?_⟩
      refine wpAnyH_all (rs := [13]) (by kernel_rfl) (by simp) fun i hi => ?_
      rcases List.mem_singleton.1 hi
      refine wpOp_cstoreD rfl rfl rfl _ _ rfl g3 (by kernel_rfl) G v2 (by kernel_rfl) (shape3 hown2) _ _ ((RR.out.later b6).later hb7) fun wz hz gz => ⟨((thenBelow b6 hb7).mono hle).trans (grown_below gz (Nat.le_trans hle (thenBelow b6 hb7).size) (Nat.le_refl _)), ?_⟩
      exact wpAnyH_done (by kernel_rfl) (KK G v2 gp pv cv wz (resAt_of hI (B3.out.drew.trans (b6.mono B3.out.size)) hwr (Nat.lt_of_lt_of_le RR.out.lt b6.size) hb7 hown2 hz gz)) _
    · have pr := pair_cells w3.drew (.slice p l.length c) (.slice p' l'.length c') 24
      have b4 := below_alloc w3.drew (.cells #[.slice p l.length c, .slice p' l'.length c'] 24)
      obtain ⟨gp, hgp⟩ : ∃ gp, gp = w3.drew.heap.size := ⟨_, rfl⟩
      rw [← hgp] at pr ⊢
      generalize w3.drew.alloc (.cells #[.slice p l.length c, .slice p' l'.length c'] 24) = w4 at pr b4 ⊢
      clear hgp
      refine rgd_call 4 (some 9) (by kernel_rfl) rfl rfl (by kernel_rfl) 29 #[.agg (vf F), .agg (vf F')] (by kernel_rfl) (JO.out _) ?_
      rintro e w5 ⟨rfl, hb5⟩
      have b5 := thenBelow b4 hb5
      have pr := (show _ ∧ _ from ⟨(hb5.cell (p := ⟨gp, 0, none⟩) (World.block_lt_of_cell? _ _ pr.1)).trans pr.1, (hb5.cell (p := ⟨gp, 1, none⟩) (World.block_lt_of_cell? _ _ pr.2)).trans pr.2⟩)
      refine ⟨_, rfl, b5.mono hle, ?_⟩
      refine rgd_call 10 (some 15) (by kernel_rfl) rfl rfl (by kernel_rfl) 30 #[.slice (some ⟨gp, 0, none⟩) 2 2] (by kernel_rfl) (concatD gp 2 c c' p p' l l' w5 (HA.out.below b5).row (HB.out.below b5).row (fun e => ⟨HA.out.none e, n1 e⟩) (fun e => ⟨HB.out.none e, n2 e⟩) (by omega) pr.1 pr.2) ?_
      rintro e w6 ⟨v, rfl, hown, hb6⟩
      have b6 := thenBelow b5 hb6
      obtain ⟨pv, cv, rfl⟩ := own_shape hown
      obtain ⟨hdv, _, _⟩ := own_dots hown
      refine ⟨_, rfl, b6.mono hle, ?_⟩
      refine rgd_pure 11 (some 16) rfl rfl (.agg (ccs J (.slice pv (l ++ l').length cv))) (by kernel_rfl) (by kernel_rfl) (by kernel_rfl) (fun _ _ _ _ h => h) (by kernel_rfl) (fun w => exec_ctx _ _ rfl J pv (l ++ l').length cv (by kernel_rfl) (by kernel_rfl) w) (b6.mono hle) ?_
      refine rgd_call 12 (some 17) (by kernel_rfl) rfl rfl (by kernel_rfl) 7 #[.agg (ccs J (.slice pv (l ++ l').length cv))] (by kernel_rfl) (tidyD_is J pv cv (l ++ l') w6 hdv (by rw [List.length_append]; exact hlen)) ?_
      rintro e w7 ⟨G, o, v2, hI, rfl, hown2, hb7⟩
      refine ⟨_, rfl, (thenBelow b6 hb7).mono hle, ?_⟩
      refine wpAnyH_all (rs := [13]) (by kernel_rfl) (by simp) fun i hi => ?_
      rcases List.mem_singleton.1 hi
      refine wpOp_cstoreD rfl rfl rfl _ _ rfl g3 (by kernel_rfl) G v2 (by kernel_rfl) (shape3 hown2) _ _ ((RR.out.later b6).later hb7) fun wz hz gz => ⟨((thenBelow b6 hb7).mono hle).trans (grown_below gz (Nat.le_trans hle (thenBelow b6 hb7).size) (Nat.le_refl _)), ?_⟩
      exact wpAnyH_done (by kernel_rfl) (Eq.mp (by kernel_rfl) (KK G v2 gp pv cv wz (resAt_of hI (B3.out.drew.trans (b6.mono B3.out.size)) hwr (Nat.lt_of_lt_of_le RR.out.lt b6.size) hb7 hown2 hz gz))) _
  intro G v gp pv cv wz hR
  obtain ⟨o, hI, hB, hO, hC⟩ := hR
  simp only [Act.put, List.setIfInBounds_toArray, List.set_cons_zero, List.set_cons_succ]
  go_wp2
  exact bodyPost_ret (v := .agg (ccs G v)) (results_cell_row rfl _ wz g3 _ _ (0, 0) _ rfl hC.out Try.underlying26 rfl (sizeC _ _)) rfl (hJ ▸ ⟨G, o, v, hI, rfl, hO, hB.out⟩)
end Go.Proofs.Ytnfknnkhabjciaa
