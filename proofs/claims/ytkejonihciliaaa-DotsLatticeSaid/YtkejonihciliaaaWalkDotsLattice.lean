/- The walk of DotsLattice. -/
import Derived.Test.YtkejonihciliaaaDotQuiet
import Derived.Test.YtkejonihciliaaaRegionAlloc
namespace Go.Proofs.Ytkejonihciliaaa
open Go Go.RowKit
set_option linter.unusedVariables false

/-- what holds behind the region that makes the join -/
def Leaf (W : World) (ga gb gc : Nat) (t : TypeId) (a b c J : Nat → Int) (g : Nat) (w : World) : Prop :=
  Hid (Below W.heap.size W w) ∧ Hid (Row w ga t a) ∧ Hid (Row w gb t b) ∧ Hid (Row w gc t c) ∧ Hid (Row w g t J) ∧ ga < g ∧ gb < g ∧ gc < g ∧ W.heap.size ≤ g
/-- the three rows are there -/
def Three (ga gb gc : Nat) (t : TypeId) (a b c : Nat → Int) (w : World) : Prop := Row w ga t a ∧ Row w gb t b ∧ Row w gc t c
theorem Three.later {ga gb gc : Nat} {t : TypeId} {a b c : Nat → Int} {w w' : World} (h : Three ga gb gc t a b c w) (hb : Below w.heap.size w w') : Three ga gb gc t a b c w' := ⟨h.1.later hb, h.2.1.later hb, h.2.2.later hb⟩
theorem Three.kept {ga gb gc g : Nat} {t : TypeId} {a b c : Nat → Int} {w w' : World} (h : Three ga gb gc t a b c w) (hg : w.grownBy w' (some g)) (h1 : ga < g) (h2 : gb < g) (h3 : gc < g) : Three ga gb gc t a b c w' :=
  ⟨h.1.kept hg (by simp; omega), h.2.1.kept hg (by simp; omega), h.2.2.kept hg (by simp; omega)⟩
theorem leaf_of {W w3 w6 w7 : World} {ga gb gc gj : Nat} {t : TypeId} {a b c J : Nat → Int} (B3 : Below W.heap.size W w3) (h3 : Three ga gb gc t a b c w3) (hA : Below w3.heap.size w3 w6) (lj : w3.heap.size ≤ gj) (r7 : Row w7 gj t J) (g7 : w6.grownBy w7 (some gj)) : Leaf W ga gb gc t a b c J gj w7 := by
  have h1 : ga < gj := Nat.lt_of_lt_of_le h3.1.lt lj
  have h2 : gb < gj := Nat.lt_of_lt_of_le h3.2.1.lt lj
  have h4 : gc < gj := Nat.lt_of_lt_of_le h3.2.2.lt lj
  have hW : W.heap.size ≤ gj := Nat.le_trans B3.size lj
  have B6 := thenBelow B3 hA
  obtain ⟨x, y, z⟩ := (h3.later hA).kept g7 h1 h2 h4
  exact ⟨B6.trans (grown_below g7 B6.size hW), x, y, z, r7, h1, h2, h4, hW⟩

set_option maxHeartbeats 8000000 in
set_option maxRecDepth 100000 in
theorem dotsLattice_walk (a b c : Nat → Int) (W : World) (ha : Wide a) (hb : Wide b) (hc : Wide c) : Calls Try.prog 5 #[.agg (vf a), .agg (vf b), .agg (vf c)] W (Yes W) := by
  clear ha hb hc
  go_enter Try.func5, Try.ntmps5
  go_wp2_with (refine wpList_vbox vecI rfl _ rfl a rfl ?_)
  intro ga w1 la ra hb1
  have B1 := Lib.hid hb1; have RA1 := Lib.hid ra
  clear hb1 ra
  go_wp2_with (refine wpList_vbox vecI rfl _ rfl b rfl ?_)
  intro gb w2 lb rb hb2
  have B2 := Lib.hid (thenBelow B1.out hb2); have RA2 := Lib.hid (RA1.out.later hb2); have RB2 := Lib.hid rb
  clear hb2 rb
  go_wp2_with (refine wpList_vbox vecI rfl _ rfl c rfl ?_)
  intro gc w3 lc rc hb3
  have B3 := Lib.hid (thenBelow B2.out hb3); have RA3 := Lib.hid (RA2.out.later hb3); have RB3 := Lib.hid (RB2.out.later hb3); have RC3 := Lib.hid rc
  clear hb3 rc
  have C1 := Lib.hid (ownJoin_is a b)
  generalize hJ0 : (fun i => max (a i) (b i)) = J0 at C1
  have C2 := Lib.hid (ownJoin_is J0 c)
  generalize hJ : (fun i => max (J0 i) (c i)) = J at C2
  have KJ : Hid (∀ i, J i = max (max (a i) (b i)) (c i)) := by intro i; rw [← hJ, ← hJ0]
  clear hJ hJ0
  go_wp2
  have T3 : Three ga gb gc 25 a b c w3.drew := ⟨RA3.out, RB3.out, RC3.out⟩
  have D3 : Below W.heap.size W w3.drew := B3.out.drew
  apply wp_region_alloc (n := 7) (S := Three ga gb gc 25 a b c) (Leaf W ga gb gc 25 a b c J) (by kernel_rfl) rfl T3
  · intro KK
    refine wpAnyH_vload (i := 0) vecI rfl (by kernel_rfl) (by kernel_rfl) (by kernel_rfl) (fun _ _ _ _ h => h) rfl _ rfl ga rfl _ a (fun w h => h.1) T3 ?_
    refine wpAnyH_vload (i := 1) vecI rfl (by kernel_rfl) (by kernel_rfl) (by kernel_rfl) (fun _ _ _ _ h => h) rfl _ rfl gb rfl _ b (fun w h => h.2.1) T3 ?_
    refine wpAnyH_vload (i := 3) vecI rfl (by kernel_rfl) (by kernel_rfl) (by kernel_rfl) (fun _ _ _ _ h => h) rfl _ rfl gc rfl _ c (fun w h => h.2.2) T3 ?_
    refine wpAnyH_all (rs := [2, 5]) (by kernel_rfl) (by simp) fun i hi => ?_
    rcases List.mem_cons.1 hi with rfl | hi
    · refine wpOp_enter rfl rfl 20 #[.agg (vf a), .agg (vf b)] J0 (by kernel_rfl) (C1.out _) fun w4 hb4 => ⟨T3.later hb4, ?_⟩
      refine wpAnyH_all (rs := [4, 5]) (by kernel_rfl) (by simp) fun i hi => ?_
      rcases List.mem_cons.1 hi with rfl | hi
      · refine wpOp_enter rfl rfl 20 #[.agg (vf J0), .agg (vf c)] J (by kernel_rfl) (C2.out _) fun w5 hb5 => ?_
        have h5 := thenBelow hb4 hb5
        refine ⟨T3.later h5, ?_⟩
        refine wpAnyH_all (rs := [5]) (by kernel_rfl) (by simp) fun i hi => ?_
        rcases List.mem_singleton.1 hi
        refine wpOp_valloc zeroV rfl rfl rfl fun gj w6 lj rj hb6 => ?_
        have h6 := thenBelow h5 hb6
        refine ⟨T3.later h6, ?_⟩
        refine wpAnyH_all (rs := [6]) (by kernel_rfl) (by simp) fun i hi => ?_
        rcases List.mem_singleton.1 hi
        refine wpOp_vstore vecI rfl rfl _ _ rfl gj rfl _ rfl _ _ rj fun w7 r7 g7 => ?_
        have L := leaf_of D3 T3 h6 (Nat.le_trans h5.size lj) r7 g7
        exact ⟨⟨L.2.1, L.2.2.1, L.2.2.2.1⟩, wpAnyH_done (by kernel_rfl) (KK gj w7 L) _⟩
      · rcases List.mem_singleton.1 hi
        refine wpOp_valloc zeroV rfl rfl rfl fun gj w5 lj rj hb5 => ?_
        have h5 := thenBelow hb4 hb5
        refine ⟨T3.later h5, ?_⟩
        refine wpAnyH_all (rs := [4]) (by kernel_rfl) (by simp) fun i hi => ?_
        rcases List.mem_singleton.1 hi
        refine wpOp_enter rfl rfl 20 #[.agg (vf J0), .agg (vf c)] J (by kernel_rfl) (C2.out _) fun w6 hb6 => ?_
        have h6 := thenBelow h5 hb6
        refine ⟨T3.later h6, ?_⟩
        refine wpAnyH_all (rs := [6]) (by kernel_rfl) (by simp) fun i hi => ?_
        rcases List.mem_singleton.1 hi
        refine wpOp_vstore vecI rfl rfl _ _ rfl gj rfl _ rfl _ _ (rj.later hb6) fun w7 r7 g7 => ?_
        have L := leaf_of D3 T3 h6 (Nat.le_trans hb4.size lj) r7 g7
        exact ⟨⟨L.2.1, L.2.2.1, L.2.2.2.1⟩, wpAnyH_done (by kernel_rfl) (KK gj w7 L) _⟩
    · rcases List.mem_singleton.1 hi
      refine wpOp_valloc zeroV rfl rfl rfl fun gj w4 lj rj hb4 => ⟨T3.later hb4, ?_⟩
      refine wpAnyH_all (rs := [2]) (by kernel_rfl) (by simp) fun i hi => ?_
      rcases List.mem_singleton.1 hi
      refine wpOp_enter rfl rfl 20 #[.agg (vf a), .agg (vf b)] J0 (by kernel_rfl) (C1.out _) fun w5 hb5 => ?_
      have h5 := thenBelow hb4 hb5
      refine ⟨T3.later h5, ?_⟩
      refine wpAnyH_all (rs := [4]) (by kernel_rfl) (by simp) fun i hi => ?_
      rcases List.mem_singleton.1 hi
      refine wpOp_enter rfl rfl 20 #[.agg (vf J0), .agg (vf c)] J (by kernel_rfl) (C2.out _) fun w6 hb6 => ?_
      have h6 := thenBelow h5 hb6
      refine ⟨T3.later h6, ?_⟩
      refine wpAnyH_all (rs := [6]) (by kernel_rfl) (by simp) fun i hi => ?_
      rcases List.mem_singleton.1 hi
      refine wpOp_vstore vecI rfl rfl _ _ rfl gj rfl _ rfl _ _ ((rj.later hb5).later hb6) fun w7 r7 g7 => ?_
      have L := leaf_of D3 T3 h6 lj r7 g7
      exact ⟨⟨L.2.1, L.2.2.1, L.2.2.2.1⟩, wpAnyH_done (by kernel_rfl) (KK gj w7 L) _⟩
  intro gj w6 hF
  obtain ⟨B6, RA6, RB6, RC6, RJ6, haj, hbj, hcj, lwj⟩ := hF
  have MT := Lib.hid (ownMeet_is a b w6)
  go_wp2_with (first | refine wpList_vload vecI rfl _ rfl ga rfl _ _ RA6.out ?_ | refine wpList_vload vecI rfl _ rfl gb rfl _ _ RB6.out ?_)
  refine MT.out.mono ?_
  rintro e w7 ⟨rfl, hb7⟩
  have B7 := Lib.hid (thenBelow B6.out hb7); have RA7 := Lib.hid (RA6.out.later hb7); have RB7 := Lib.hid (RB6.out.later hb7); have RC7 := Lib.hid (RC6.out.later hb7); have RJ7 := Lib.hid (RJ6.out.later hb7)
  clear hb7 MT
  go_wp2_with (refine wpList_valloc vecI zeroV rfl rfl ?_)
  intro gm w8 lm rm hb8
  have B8 := Lib.hid (thenBelow B7.out hb8); have RA8 := Lib.hid (RA7.out.later hb8); have RB8 := Lib.hid (RB7.out.later hb8); have RC8 := Lib.hid (RC7.out.later hb8); have RJ8 := Lib.hid (RJ7.out.later hb8); have RM8 := Lib.hid rm
  have ham : ga < gm := Nat.lt_of_lt_of_le RA7.out.lt lm
  have hbm : gb < gm := Nat.lt_of_lt_of_le RB7.out.lt lm
  have hcm : gc < gm := Nat.lt_of_lt_of_le RC7.out.lt lm
  have hjm : gj < gm := Nat.lt_of_lt_of_le RJ7.out.lt lm
  have lwm := Nat.le_trans B7.out.size lm
  clear hb8 rm
  go_wp2_with (refine wpList_vstore vecI rfl _ _ rfl gm rfl _ rfl _ _ RM8.out ?_)
  intro w9 r9 g9 _
  have B9 := Lib.hid (B8.out.trans (grown_below g9 B8.out.size lwm)); have RA9 := Lib.hid (RA8.out.kept g9 (by simp; omega)); have RB9 := Lib.hid (RB8.out.kept g9 (by simp; omega)); have RC9 := Lib.hid (RC8.out.kept g9 (by simp; omega)); have RJ9 := Lib.hid (RJ8.out.kept g9 (by simp; omega)); have RM9 := Lib.hid r9
  clear r9 g9
  generalize hM : (fun i => min (a i) (b i)) = M at RM9
  have KM : Hid (∀ i, M i = min (a i) (b i)) := by intro i; rw [← hM]
  clear hM
  have c1 := quiet_call (w := w9) (ownJoin_is b a); have c2 := quiet_call (w := w9) (ownJoin_is c (fun i => max (b i) (a i)))
  have c3 := quiet_call (w := w9) (ownJoin_is J b)
  have c4 := quiet_call (w := w9) (ownWithin_is a J); have c5 := quiet_call (w := w9) (ownWithin_is M a); have c6 := quiet_call (w := w9) (ownWithin_is M b)
  have c7 := quiet_call (w := w9) (ownJoin_is M a)
  have c8 := quiet_call (w := w9) awake8
  have q1 : veq J (fun i => max (c i) (max (b i) (a i))) = true := veq_of fun i _ => by rw [KJ.out i]; omega
  have q2 : veq (fun i => max (J i) (b i)) J = true := veq_of fun i _ => by show max (J i) (b i) = J i; rw [KJ.out i]; omega
  have q3 : veq (fun i => max (M i) (a i)) a = true := veq_of fun i _ => by show max (M i) (a i) = a i; rw [KM.out i]; omega
  have e1 := vecI.equalIn 9998 J (fun i => max (c i) (max (b i) (a i))); have e2 := vecI.equalIn 9998 (fun i => max (J i) (b i)) J; have e3 := vecI.equalIn 9998 (fun i => max (M i) (a i)) a
  have d1 := vecI.eql J (fun i => max (c i) (max (b i) (a i))); have d2 := vecI.eql (fun i => max (J i) (b i)) J; have d3 := vecI.eql (fun i => max (M i) (a i)) a
  rw [q1] at e1 d1; rw [q2] at e2 d2; rw [q3] at e3 d3
  rw [(vle_iff a J).2 (fun i _ => by rw [KJ.out i]; omega)] at c4
  rw [(vle_iff M a).2 (fun i _ => by rw [KM.out i]; omega)] at c5
  rw [(vle_iff M b).2 (fun i _ => by rw [KM.out i]; omega)] at c6
  clear q1 q2 q3
  generalize (fun i => max (b i) (a i)) = P1 at c1 c2
  generalize (fun i => max (c i) (P1 i)) = X1 at c2 e1 d1
  generalize (fun i => max (J i) (b i)) = X2 at c3 e2 d2
  generalize (fun i => max (M i) (a i)) = X3 at c7 e3 d3
  go_wp2
  refine wp_region_quiet_below (by kernel_rfl) (by kernel_rfl) ?_
  refine wpQuiet_vloadG vecI (by rfl) _ rfl gj rfl _ J (fun _ h => RJ9.out.quiet h) ?_
  refine wpQuiet_vloadG vecI (by rfl) _ rfl gc rfl _ c (fun _ h => RC9.out.quiet h) ?_
  refine wpQuiet_vloadG vecI (by rfl) _ rfl gb rfl _ b (fun _ h => RB9.out.quiet h) ?_
  refine wpQuiet_vloadG vecI (by rfl) _ rfl ga rfl _ a (fun _ h => RA9.out.quiet h) ?_
  quiet_step (exact c1 _ _)
  quiet_step (exact c2 _ _)
  iterate 2 (quiet_step (fail))
  refine wpQuiet_vloadG vecI (by rfl) _ rfl gj rfl _ J (fun _ h => RJ9.out.quiet h) ?_
  refine wpQuiet_vloadG vecI (by rfl) _ rfl gb rfl _ b (fun _ h => RB9.out.quiet h) ?_
  quiet_step (exact c3 _ _)
  refine wpQuiet_vloadG vecI (by rfl) _ rfl gj rfl _ J (fun _ h => RJ9.out.quiet h) ?_
  iterate 3 (quiet_step (fail))
  refine wpQuiet_vloadG vecI (by rfl) _ rfl ga rfl _ a (fun _ h => RA9.out.quiet h) ?_
  refine wpQuiet_vloadG vecI (by rfl) _ rfl gj rfl _ J (fun _ h => RJ9.out.quiet h) ?_
  quiet_step (exact c4 _ _)
  iterate 2 (quiet_step (fail))
  refine wpQuiet_vloadG vecI (by rfl) _ rfl gm rfl _ M (fun _ h => RM9.out.quiet h) ?_
  refine wpQuiet_vloadG vecI (by rfl) _ rfl ga rfl _ a (fun _ h => RA9.out.quiet h) ?_
  quiet_step (exact c5 _ _)
  iterate 2 (quiet_step (fail))
  refine wpQuiet_vloadG vecI (by rfl) _ rfl gm rfl _ M (fun _ h => RM9.out.quiet h) ?_
  refine wpQuiet_vloadG vecI (by rfl) _ rfl gb rfl _ b (fun _ h => RB9.out.quiet h) ?_
  quiet_step (exact c6 _ _)
  iterate 2 (quiet_step (fail))
  refine wpQuiet_vloadG vecI (by rfl) _ rfl gm rfl _ M (fun _ h => RM9.out.quiet h) ?_
  refine wpQuiet_vloadG vecI (by rfl) _ rfl ga rfl _ a (fun _ h => RA9.out.quiet h) ?_
  quiet_step (exact c7 _ _)
  refine wpQuiet_vloadG vecI (by rfl) _ rfl ga rfl _ a (fun _ h => RA9.out.quiet h) ?_
  iterate 3 (quiet_step (fail))
  quiet_step (exact c8 _ _)
  repeat (quiet_step (fail))
  refine wpQuiet_nil ?_
  rintro _ ⟨⟨dq, osq⟩, rfl⟩
  have B10 := Lib.hid (thenBelow B9.out (below_regrown w9 dq osq))
  generalize Sort.grow (redrawn w9 dq) osq = w10 at B10 ⊢
  clear c1 c2 c3 c4 c5 c6 c7 c8
  go_wp2
  go_ret
  exact ⟨ret_bool (by first | rfl | (simp; done)), B10.out⟩
end Go.Proofs.Ytkejonihciliaaa
