/- slices.Equal of any dots; Inside. -/
import Derived.Test.YtnfknnkhabjciaaDotUnion
import Derived.Shelf.SlicesQ.Equal
namespace Go.Proofs.Ytnfknnkhabjciaa
open Go Go.RowKit
set_option linter.unusedVariables false

theorem allEqD : ∀ l l' : List Dt, Lib.allEq eqD l l' = decide (l = l')
  | [], [] => rfl
  | [], _ :: _ => by simp [Lib.allEq]
  | _ :: _, [] => by simp [Lib.allEq]
  | x :: l, y :: l' => by
    simp only [Lib.allEq]
    rw [allEqD l l', Bool.eq_iff_iff]
    simp only [Bool.and_eq_true, decide_eq_true_eq, eqD_iff, List.cons.injEq]
theorem dots_each {w : World} {b o : Nat} {l : List Dt} (hr : w.rangeAt b o (dcl l)) (j : Nat) (hj : j < l.length) (i : Nat) (v : Value) (hv : (dvs l[j]!)[i]? = some v) : w.cell? ⟨b, o + j * 2 + i, none⟩ = some v := by
  have e1 : l[j]! = l[j] := by simp [hj]
  rw [e1] at hv
  obtain ⟨g1, g2⟩ := dcl_get l j hj
  match i, hv with
  | 0, hv => simp [dvs] at hv; subst hv; exact hr _ _ g1
  | 1, hv => simp [dvs] at hv; subst hv; rw [Nat.add_assoc]; exact hr _ _ g2
  | i + 2, hv => simp [dvs] at hv
set_option maxHeartbeats 2000000 in
/-- slices.Equal -/
theorem equalD_is (p p' : Option Addr) (c c' : Nat) (l l' : List Dt) (w : World) (h : DRow w p l) (h' : DRow w p' l') (hlen : l.length ≤ 10000) (hlen' : l'.length ≤ 10000) :
    Calls Try.prog 31 #[.slice p l.length c, .slice p' l'.length c'] w fun e w' => e = .returned (.bool (decide (l = l'))) ∧ Below w.heap.size w w' := by
  by_cases hll : l.length = l'.length
  · by_cases hn : l = []
    · subst hn
      obtain rfl := List.eq_nil_of_length_eq_zero hll.symm
      go_enter Try.func31, Try.ntmps31
      go_wp2
      refine wp_loop_rounds 1 ?_
      rw [rounds_succ]
      go_wp2
      go_ret
      exact ⟨rfl, Below.refl _ _⟩
    · have hn' : l' ≠ [] := fun e => hn (List.eq_nil_of_length_eq_zero (by rw [hll, e]; rfl))
      obtain ⟨b, o, rfl, hr⟩ := h hn
      obtain ⟨b', o', rfl, hr'⟩ := h' hn'
      refine (AnyQ.slices_Equal Try.laysEqual 2 Try.isAgg28 Try.sizeOf28 dvs (fun _ => rfl) eqD neqAtD b o l.length c b' o' l'.length c' l l' w (Nat.le_refl _) (Nat.le_refl _) (by omega) (by omega) (fun j hj i v hv => dots_each hr j hj i v hv) (fun j hj i v hv => dots_each hr' j hj i v hv)).mono fun e w' ⟨h1, q, h2⟩ => ⟨?_, ?_⟩
      · rw [h1, List.take_of_length_le (Nat.le_refl _), List.take_of_length_le (Nat.le_refl _), allEqD]
      · subst h2; exact ⟨rfl, rfl, rfl, Nat.le_refl _, fun _ _ => rfl⟩
  · have hli : ¬ (l.length : Int) = (l'.length : Int) := by omega
    have hno : decide (l = l') = false := by
      rw [decide_eq_false_iff_not]
      intro e; exact hll (by rw [e])
    rw [hno]
    clear hno h h'
    go_enter Try.func31, Try.ntmps31
    go_wp2
    go_ret
    exact ⟨rfl, Below.refl _ _⟩

/-- what holds behind a region that makes two contexts -/
def TwoT (W2 : World) (F : Nat → Int) (l : List Dt) (F' : Nat → Int) (l' : List Dt) (G : Nat → Int) (v : Value) (G' : Nat → Int) (v' : Value) (gA gB : Nat) (w : World) : Prop :=
  ∃ o o', IsTidy F l G o ∧ IsTidy F' l' G' o' ∧ Hid (Below W2.heap.size W2 w) ∧ w.ownsRow W2.heap.size 28 2 v o.length (dcl o) ∧ w.ownsRow W2.heap.size 28 2 v' o'.length (dcl o') ∧ Hid (Cx w gA G v) ∧ Hid (Cx w gB G' v')
theorem twoT_of {W2 w w7 w8 : World} {F F' : Nat → Int} {l l' : List Dt} {o o' : List Dt} {G G' : Nat → Int} {v v' : Value} {L : List Nat} (h : Mid W2 [(o', v'), (o, v)] L w) (h1 : IsTidy F l G o) (h2 : IsTidy F' l' G' o') {gA gB : Nat} (hA : gA ∈ L) (hB : gB ∈ L) (hne : gA ≠ gB) (h7 : Cx w7 gA G v) (g7 : w.grownBy w7 (some gA)) (h8 : Cx w8 gB G' v') (g8 : w7.grownBy w8 (some gB)) :
    TwoT W2 F l F' l' G v G' v' gA gB w8 := by
  obtain ⟨a, b, c, d⟩ := h.both hA hB hne h7 g7 h8 g8
  exact ⟨o, o', h1, h2, a, b (o, v) (by simp), b (o', v') (by simp), c, d⟩
def InsideR (F F' : Nat → Int) (l l' : List Dt) (b : Bool) : Prop := ∃ G o G' o', IsTidy (fun i => max (F i) (F' i)) (l ++ l') G o ∧ IsTidy F' l' G' o' ∧ b = sameB G G' o o'
/-- what Inside tells -/
def InsideP (w : World) (F F' : Nat → Int) (l l' : List Dt) (e : Ending) (w' : World) : Prop := ∃ b, e = .returned (.bool b) ∧ InsideR F F' l l' b ∧ Below w.heap.size w w'

set_option maxHeartbeats 8000000 in
set_option maxRecDepth 100000 in
theorem insideD_is (F F' : Nat → Int) (p p' : Option Addr) (c c' : Nat) (l l' : List Dt) (w : World) (h : DotsAt w p l) (h' : DotsAt w p' l') (n1 : p = none → c = 0) (n2 : p' = none → c' = 0) (hlen : l.length + l'.length ≤ 1000) :
    Calls Try.prog 16 #[.agg (ccs F (.slice p l.length c)), .agg (ccs F' (.slice p' l'.length c'))] w (InsideP w F F' l l') := by
  have H := Lib.hid h; have H' := Lib.hid h'
  clear h h'
  go_enter Try.func16, Try.ntmps16
  go_wp2_with (refine wpList_gbox rfl _ rfl (ccs F (.slice p l.length c)) rfl ?_)
  intro g1 w1 l1 h1 hb1
  have C1 : Hid (Cx w1 g1 F (.slice p l.length c)) := h1
  have B1 := Lib.hid hb1; have H1 := Lib.hid (H.out.below hb1); have H1' := Lib.hid (H'.out.below hb1)
  clear h1 hb1
  go_wp2_with (refine wpList_gbox rfl _ rfl (ccs F' (.slice p' l'.length c')) rfl ?_)
  intro g2 w2 l2 h2 hb2
  have CA := Lib.hid ((C1.out.later hb2).later (drew_below (w := w2)))
  have CB : Hid (Cx w2.drew g2 F' (.slice p' l'.length c')) := (show Cx w2 g2 F' (.slice p' l'.length c') from h2).later drew_below
  have B2 := Lib.hid (thenBelow B1.out hb2); have HA := Lib.hid ((H1.out.below hb2).below (drew_below (w := w2))); have HB := Lib.hid ((H1'.out.below hb2).below (drew_below (w := w2)))
  clear h2 hb2 C1 H1 H1'
  have T1 : Hid (∀ x, Below w2.drew.heap.size w2.drew x → Calls Try.prog 14 #[.agg (ccs F (.slice p l.length c)), .agg (ccs F' (.slice p' l'.length c'))] x (TidyR x (fun i => max (F i) (F' i)) (l ++ l'))) := fun x hx => unionD_is F F' p p' c c' l l' x (HA.out.below hx) (HB.out.below hx) n1 n2 hlen
  have T2 : Hid (∀ x, Below w2.drew.heap.size w2.drew x → Calls Try.prog 7 #[.agg (ccs F' (.slice p' l'.length c'))] x (TidyR x F' l')) := fun x hx => tidyD_is F' p' c' l' x (HB.out.below hx) (by omega)
  go_wp2
  have M0 := Mid.start (Below.refl w2.drew.heap.size w2.drew)
  obtain ⟨J, hJ⟩ : ∃ J : Nat → Int, J = fun i => max (F i) (F' i) := ⟨_, rfl⟩
  rw [← hJ] at T1
  apply wp_region_two (n := 9) (S := fun x => Below w2.drew.heap.size w2.drew x) (TwoT w2.drew J (l ++ l') F' l') (by kernel_rfl) rfl M0.below
  · intro KK
    refine wpAnyH_gload (i := 0) rfl (by kernel_rfl) (by kernel_rfl) (by kernel_rfl) (fun _ _ _ _ h => h) rfl _ rfl g1 0 rfl _ (fun x h => range_of_block (CA.out.later h)) _ Try.underlying26 rfl (by rw [Array.length_toList]; exact sizeC _ _) M0.below ?_
    refine wpAnyH_gload (i := 1) rfl (by kernel_rfl) (by kernel_rfl) (by kernel_rfl) (fun _ _ _ _ h => h) rfl _ rfl g2 0 rfl _ (fun x h => range_of_block (CB.out.later h)) _ Try.underlying26 rfl (by rw [Array.length_toList]; exact sizeC _ _) M0.below ?_
    refine wpAnyH_gload (i := 3) rfl (by kernel_rfl) (by kernel_rfl) (by kernel_rfl) (fun _ _ _ _ h => h) rfl _ rfl g2 0 rfl _ (fun x h => range_of_block (CB.out.later h)) _ Try.underlying26 rfl (by rw [Array.length_toList]; exact sizeC _ _) M0.below ?_
    refine wpAnyH_all (rs := [2, 5, 6]) (by kernel_rfl) (by simp) fun i hi => ?_
    rcases List.mem_cons.1 hi with rfl | hi
    · refine wpOp_mid_call M0 rfl rfl 14 #[.agg (ccs F (.slice p l.length c)), .agg (ccs F' (.slice p' l'.length c'))] J (l ++ l') (by kernel_rfl) (T1.out _ M0.below) fun Ga oa va w11 hIa M1 => ⟨M1.below, ?_⟩
      refine wpAnyH_all (rs := [4, 5, 6]) (by kernel_rfl) (by simp) fun i hi => ?_
      rcases List.mem_cons.1 hi with rfl | hi
      · refine wpOp_mid_call M1 rfl rfl 7 #[.agg (ccs F' (.slice p' l'.length c'))] F' l' (by kernel_rfl) (T2.out _ M1.below) fun Gb ob vb w12 hIb M2 => ⟨M2.below, ?_⟩
        refine wpAnyH_all (rs := [5, 6]) (by kernel_rfl) (by simp) fun i hi => ?_
        rcases List.mem_cons.1 hi with rfl | hi
        · refine wpOp_mid_alloc M2 rfl rfl rfl fun gA w13 M3 => ⟨M3.below, ?_⟩
          refine wpAnyH_all (rs := [6]) (by kernel_rfl) (by simp) fun i hi => ?_
          rcases List.mem_singleton.1 hi
          refine wpOp_mid_alloc M3 rfl rfl rfl fun gB w14 M4 => ⟨M4.below, ?_⟩
          refine wpAnyH_all (rs := [7]) (by kernel_rfl) (by simp) fun i hi => ?_
          rcases List.mem_singleton.1 hi
          refine wpOp_cstore rfl rfl _ _ rfl gA (by kernel_rfl) Ga va (by kernel_rfl) (shape3 (M4.rows (oa, va) (by simp))) _ _ (M4.blks gA (by simp)).1 fun w7 h7 g7 => ⟨(M4.stored (g := gA) (by simp) g7).1, ?_⟩
          refine wpAnyH_all (rs := [8]) (by kernel_rfl) (by simp) fun i hi => ?_
          rcases List.mem_singleton.1 hi
          have hne : gA ≠ gB := (by have := M4.nodup; simp at this; omega)
          refine wpOp_cstore rfl rfl _ _ rfl gB (by kernel_rfl) Gb vb (by kernel_rfl) (shape3 (M4.rows (ob, vb) (by simp))) _ _ ((M4.stored (g := gA) (by simp) g7).2.2 gB (by simp) (Ne.symm hne)) fun w8 h8 g8 => ?_
          have T := twoT_of M4 hIa hIb (gA := gA) (gB := gB) (by simp) (by simp) hne h7 g7 h8 g8
          exact ⟨(M4.both (gA := gA) (gB := gB) (by simp) (by simp) hne h7 g7 h8 g8).1, wpAnyH_done (by kernel_rfl) (KK Ga va Gb vb gA gB w8 T) _⟩
        rcases List.mem_singleton.1 hi
        refine wpOp_mid_alloc M2 rfl rfl rfl fun gB w13 M3 => ⟨M3.below, ?_⟩
        refine wpAnyH_all (rs := [5]) (by kernel_rfl) (by simp) fun i hi => ?_
        rcases List.mem_singleton.1 hi
        refine wpOp_mid_alloc M3 rfl rfl rfl fun gA w14 M4 => ⟨M4.below, ?_⟩
        refine wpAnyH_all (rs := [7]) (by kernel_rfl) (by simp) fun i hi => ?_
        rcases List.mem_singleton.1 hi
        refine wpOp_cstore rfl rfl _ _ rfl gA (by kernel_rfl) Ga va (by kernel_rfl) (shape3 (M4.rows (oa, va) (by simp))) _ _ (M4.blks gA (by simp)).1 fun w7 h7 g7 => ⟨(M4.stored (g := gA) (by simp) g7).1, ?_⟩
        refine wpAnyH_all (rs := [8]) (by kernel_rfl) (by simp) fun i hi => ?_
        rcases List.mem_singleton.1 hi
        have hne : gA ≠ gB := (by have := M4.nodup; simp at this; omega)
        refine wpOp_cstore rfl rfl _ _ rfl gB (by kernel_rfl) Gb vb (by kernel_rfl) (shape3 (M4.rows (ob, vb) (by simp))) _ _ ((M4.stored (g := gA) (by simp) g7).2.2 gB (by simp) (Ne.symm hne)) fun w8 h8 g8 => ?_
        have T := twoT_of M4 hIa hIb (gA := gA) (gB := gB) (by simp) (by simp) hne h7 g7 h8 g8
        exact ⟨(M4.both (gA := gA) (gB := gB) (by simp) (by simp) hne h7 g7 h8 g8).1, wpAnyH_done (by kernel_rfl) (KK Ga va Gb vb gA gB w8 T) _⟩
      rcases List.mem_cons.1 hi with rfl | hi
      · refine wpOp_mid_alloc M1 rfl rfl rfl fun gA w12 M2 => ⟨M2.below, ?_⟩
        refine wpAnyH_all (rs := [4, 6]) (by kernel_rfl) (by simp) fun i hi => ?_
        rcases List.mem_cons.1 hi with rfl | hi
        · refine wpOp_mid_call M2 rfl rfl 7 #[.agg (ccs F' (.slice p' l'.length c'))] F' l' (by kernel_rfl) (T2.out _ M2.below) fun Gb ob vb w13 hIb M3 => ⟨M3.below, ?_⟩
          refine wpAnyH_all (rs := [6]) (by kernel_rfl) (by simp) fun i hi => ?_
          rcases List.mem_singleton.1 hi
          refine wpOp_mid_alloc M3 rfl rfl rfl fun gB w14 M4 => ⟨M4.below, ?_⟩
          refine wpAnyH_all (rs := [7]) (by kernel_rfl) (by simp) fun i hi => ?_
          rcases List.mem_singleton.1 hi
          refine wpOp_cstore rfl rfl _ _ rfl gA (by kernel_rfl) Ga va (by kernel_rfl) (shape3 (M4.rows (oa, va) (by simp))) _ _ (M4.blks gA (by simp)).1 fun w7 h7 g7 => ⟨(M4.stored (g := gA) (by simp) g7).1, ?_⟩
          refine wpAnyH_all (rs := [8]) (by kernel_rfl) (by simp) fun i hi => ?_
          rcases List.mem_singleton.1 hi
          have hne : gA ≠ gB := (by have := M4.nodup; simp at this; omega)
          refine wpOp_cstore rfl rfl _ _ rfl gB (by kernel_rfl) Gb vb (by kernel_rfl) (shape3 (M4.rows (ob, vb) (by simp))) _ _ ((M4.stored (g := gA) (by simp) g7).2.2 gB (by simp) (Ne.symm hne)) fun w8 h8 g8 => ?_
          have T := twoT_of M4 hIa hIb (gA := gA) (gB := gB) (by simp) (by simp) hne h7 g7 h8 g8
          exact ⟨(M4.both (gA := gA) (gB := gB) (by simp) (by simp) hne h7 g7 h8 g8).1, wpAnyH_done (by kernel_rfl) (KK Ga va Gb vb gA gB w8 T) _⟩
        rcases List.mem_singleton.1 hi
        refine wpOp_mid_alloc M2 rfl rfl rfl fun gB w13 M3 => ⟨M3.below, ?_⟩
        refine wpAnyH_all (rs := [4]) (by kernel_rfl) (by simp) fun i hi => ?_
        rcases List.mem_singleton.1 hi
        refine wpOp_mid_call M3 rfl rfl 7 #[.agg (ccs F' (.slice p' l'.length c'))] F' l' (by kernel_rfl) (T2.out _ M3.below) fun Gb ob vb w14 hIb M4 => ⟨M4.below, ?_⟩
        refine wpAnyH_all (rs := [7]) (by kernel_rfl) (by simp) fun i hi => ?_
        rcases List.mem_singleton.1 hi
        refine wpOp_cstore rfl rfl _ _ rfl gA (by kernel_rfl) Ga va (by kernel_rfl) (shape3 (M4.rows (oa, va) (by simp))) _ _ (M4.blks gA (by simp)).1 fun w7 h7 g7 => ⟨(M4.stored (g := gA) (by simp) g7).1, ?_⟩
        refine wpAnyH_all (rs := [8]) (by kernel_rfl) (by simp) fun i hi => ?_
        rcases List.mem_singleton.1 hi
        have hne : gA ≠ gB := (by have := M4.nodup; simp at this; omega)
        refine wpOp_cstore rfl rfl _ _ rfl gB (by kernel_rfl) Gb vb (by kernel_rfl) (shape3 (M4.rows (ob, vb) (by simp))) _ _ ((M4.stored (g := gA) (by simp) g7).2.2 gB (by simp) (Ne.symm hne)) fun w8 h8 g8 => ?_
        have T := twoT_of M4 hIa hIb (gA := gA) (gB := gB) (by simp) (by simp) hne h7 g7 h8 g8
        exact ⟨(M4.both (gA := gA) (gB := gB) (by simp) (by simp) hne h7 g7 h8 g8).1, wpAnyH_done (by kernel_rfl) (KK Ga va Gb vb gA gB w8 T) _⟩
      rcases List.mem_singleton.1 hi
      refine wpOp_mid_alloc M1 rfl rfl rfl fun gB w12 M2 => ⟨M2.below, ?_⟩
      refine wpAnyH_all (rs := [4, 5]) (by kernel_rfl) (by simp) fun i hi => ?_
      rcases List.mem_cons.1 hi with rfl | hi
      · refine wpOp_mid_call M2 rfl rfl 7 #[.agg (ccs F' (.slice p' l'.length c'))] F' l' (by kernel_rfl) (T2.out _ M2.below) fun Gb ob vb w13 hIb M3 => ⟨M3.below, ?_⟩
        refine wpAnyH_all (rs := [5]) (by kernel_rfl) (by simp) fun i hi => ?_
        rcases List.mem_singleton.1 hi
        refine wpOp_mid_alloc M3 rfl rfl rfl fun gA w14 M4 => ⟨M4.below, ?_⟩
        refine wpAnyH_all (rs := [7]) (by kernel_rfl) (by simp) fun i hi => ?_
        rcases List.mem_singleton.1 hi
        refine wpOp_cstore rfl rfl _ _ rfl gA (by kernel_rfl) Ga va (by kernel_rfl) (shape3 (M4.rows (oa, va) (by simp))) _ _ (M4.blks gA (by simp)).1 fun w7 h7 g7 => ⟨(M4.stored (g := gA) (by simp) g7).1, ?_⟩
        refine wpAnyH_all (rs := [8]) (by kernel_rfl) (by simp) fun i hi => ?_
        rcases List.mem_singleton.1 hi
        have hne : gA ≠ gB := (by have := M4.nodup; simp at this; omega)
        refine wpOp_cstore rfl rfl _ _ rfl gB (by kernel_rfl) Gb vb (by kernel_rfl) (shape3 (M4.rows (ob, vb) (by simp))) _ _ ((M4.stored (g := gA) (by simp) g7).2.2 gB (by simp) (Ne.symm hne)) fun w8 h8 g8 => ?_
        have T := twoT_of M4 hIa hIb (gA := gA) (gB := gB) (by simp) (by simp) hne h7 g7 h8 g8
        exact ⟨(M4.both (gA := gA) (gB := gB) (by simp) (by simp) hne h7 g7 h8 g8).1, wpAnyH_done (by kernel_rfl) (KK Ga va Gb vb gA gB w8 T) _⟩
      rcases List.mem_singleton.1 hi
      refine wpOp_mid_alloc M2 rfl rfl rfl fun gA w13 M3 => ⟨M3.below, ?_⟩
      refine wpAnyH_all (rs := [4]) (by kernel_rfl) (by simp) fun i hi => ?_
      rcases List.mem_singleton.1 hi
      refine wpOp_mid_call M3 rfl rfl 7 #[.agg (ccs F' (.slice p' l'.length c'))] F' l' (by kernel_rfl) (T2.out _ M3.below) fun Gb ob vb w14 hIb M4 => ⟨M4.below, ?_⟩
      refine wpAnyH_all (rs := [7]) (by kernel_rfl) (by simp) fun i hi => ?_
      rcases List.mem_singleton.1 hi
      refine wpOp_cstore rfl rfl _ _ rfl gA (by kernel_rfl) Ga va (by kernel_rfl) (shape3 (M4.rows (oa, va) (by simp))) _ _ (M4.blks gA (by simp)).1 fun w7 h7 g7 => ⟨(M4.stored (g := gA) (by simp) g7).1, ?_⟩
      refine wpAnyH_all (rs := [8]) (by kernel_rfl) (by simp) fun i hi => ?_
      rcases List.mem_singleton.1 hi
      have hne : gA ≠ gB := (by have := M4.nodup; simp at this; omega)
      refine wpOp_cstore rfl rfl _ _ rfl gB (by kernel_rfl) Gb vb (by kernel_rfl) (shape3 (M4.rows (ob, vb) (by simp))) _ _ ((M4.stored (g := gA) (by simp) g7).2.2 gB (by simp) (Ne.symm hne)) fun w8 h8 g8 => ?_
      have T := twoT_of M4 hIa hIb (gA := gA) (gB := gB) (by simp) (by simp) hne h7 g7 h8 g8
      exact ⟨(M4.both (gA := gA) (gB := gB) (by simp) (by simp) hne h7 g7 h8 g8).1, wpAnyH_done (by kernel_rfl) (KK Ga va Gb vb gA gB w8 T) _⟩
    rcases List.mem_cons.1 hi with rfl | hi
    · refine wpOp_mid_alloc M0 rfl rfl rfl fun gA w11 M1 => ⟨M1.below, ?_⟩
      refine wpAnyH_all (rs := [2, 6]) (by kernel_rfl) (by simp) fun i hi => ?_
      rcases List.mem_cons.1 hi with rfl | hi
      · refine wpOp_mid_call M1 rfl rfl 14 #[.agg (ccs F (.slice p l.length c)), .agg (ccs F' (.slice p' l'.length c'))] J (l ++ l') (by kernel_rfl) (T1.out _ M1.below) fun Ga oa va w12 hIa M2 => ⟨M2.below, ?_⟩
        refine wpAnyH_all (rs := [4, 6]) (by kernel_rfl) (by simp) fun i hi => ?_
        rcases List.mem_cons.1 hi with rfl | hi
        · refine wpOp_mid_call M2 rfl rfl 7 #[.agg (ccs F' (.slice p' l'.length c'))] F' l' (by kernel_rfl) (T2.out _ M2.below) fun Gb ob vb w13 hIb M3 => ⟨M3.below, ?_⟩
          refine wpAnyH_all (rs := [6]) (by kernel_rfl) (by simp) fun i hi => ?_
          rcases List.mem_singleton.1 hi
          refine wpOp_mid_alloc M3 rfl rfl rfl fun gB w14 M4 => ⟨M4.below, ?_⟩
          refine wpAnyH_all (rs := [7]) (by kernel_rfl) (by simp) fun i hi => ?_
          rcases List.mem_singleton.1 hi
          refine wpOp_cstore rfl rfl _ _ rfl gA (by kernel_rfl) Ga va (by kernel_rfl) (shape3 (M4.rows (oa, va) (by simp))) _ _ (M4.blks gA (by simp)).1 fun w7 h7 g7 => ⟨(M4.stored (g := gA) (by simp) g7).1, ?_⟩
          refine wpAnyH_all (rs := [8]) (by kernel_rfl) (by simp) fun i hi => ?_
          rcases List.mem_singleton.1 hi
          have hne : gA ≠ gB := (by have := M4.nodup; simp at this; omega)
          refine wpOp_cstore rfl rfl _ _ rfl gB (by kernel_rfl) Gb vb (by kernel_rfl) (shape3 (M4.rows (ob, vb) (by simp))) _ _ ((M4.stored (g := gA) (by simp) g7).2.2 gB (by simp) (Ne.symm hne)) fun w8 h8 g8 => ?_
          have T := twoT_of M4 hIa hIb (gA := gA) (gB := gB) (by simp) (by simp) hne h7 g7 h8 g8
          exact ⟨(M4.both (gA := gA) (gB := gB) (by simp) (by simp) hne h7 g7 h8 g8).1, wpAnyH_done (by kernel_rfl) (KK Ga va Gb vb gA gB w8 T) _⟩
        rcases List.mem_singleton.1 hi
        refine wpOp_mid_alloc M2 rfl rfl rfl fun gB w13 M3 => ⟨M3.below, ?_⟩
        refine wpAnyH_all (rs := [4]) (by kernel_rfl) (by simp) fun i hi => ?_
        rcases List.mem_singleton.1 hi
        refine wpOp_mid_call M3 rfl rfl 7 #[.agg (ccs F' (.slice p' l'.length c'))] F' l' (by kernel_rfl) (T2.out _ M3.below) fun Gb ob vb w14 hIb M4 => ⟨M4.below, ?_⟩
        refine wpAnyH_all (rs := [7]) (by kernel_rfl) (by simp) fun i hi => ?_
        rcases List.mem_singleton.1 hi
        refine wpOp_cstore rfl rfl _ _ rfl gA (by kernel_rfl) Ga va (by kernel_rfl) (shape3 (M4.rows (oa, va) (by simp))) _ _ (M4.blks gA (by simp)).1 fun w7 h7 g7 => ⟨(M4.stored (g := gA) (by simp) g7).1, ?_⟩
        refine wpAnyH_all (rs := [8]) (by kernel_rfl) (by simp) fun i hi => ?_
        rcases List.mem_singleton.1 hi
        have hne : gA ≠ gB := (by have := M4.nodup; simp at this; omega)
        refine wpOp_cstore rfl rfl _ _ rfl gB (by kernel_rfl) Gb vb (by kernel_rfl) (shape3 (M4.rows (ob, vb) (by simp))) _ _ ((M4.stored (g := gA) (by simp) g7).2.2 gB (by simp) (Ne.symm hne)) fun w8 h8 g8 => ?_
        have T := twoT_of M4 hIa hIb (gA := gA) (gB := gB) (by simp) (by simp) hne h7 g7 h8 g8
        exact ⟨(M4.both (gA := gA) (gB := gB) (by simp) (by simp) hne h7 g7 h8 g8).1, wpAnyH_done (by kernel_rfl) (KK Ga va Gb vb gA gB w8 T) _⟩
      rcases List.mem_singleton.1 hi
      refine wpOp_mid_alloc M1 rfl rfl rfl fun gB w12 M2 => ⟨M2.below, ?_⟩
      refine wpAnyH_all (rs := [2]) (by kernel_rfl) (by simp) fun i hi => ?_
      rcases List.mem_singleton.1 hi
      refine wpOp_mid_call M2 rfl rfl 14 #[.agg (ccs F (.slice p l.length c)), .agg (ccs F' (.slice p' l'.length c'))] J (l ++ l') (by kernel_rfl) (T1.out _ M2.below) fun Ga oa va w13 hIa M3 => ⟨M3.below, ?_⟩
      refine wpAnyH_all (rs := [4]) (by kernel_rfl) (by simp) fun i hi => ?_
      rcases List.mem_singleton.1 hi
      refine wpOp_mid_call M3 rfl rfl 7 #[.agg (ccs F' (.slice p' l'.length c'))] F' l' (by kernel_rfl) (T2.out _ M3.below) fun Gb ob vb w14 hIb M4 => ⟨M4.below, ?_⟩
      refine wpAnyH_all (rs := [7]) (by kernel_rfl) (by simp) fun i hi => ?_
      rcases List.mem_singleton.1 hi
      refine wpOp_cstore rfl rfl _ _ rfl gA (by kernel_rfl) Ga va (by kernel_rfl) (shape3 (M4.rows (oa, va) (by simp))) _ _ (M4.blks gA (by simp)).1 fun w7 h7 g7 => ⟨(M4.stored (g := gA) (by simp) g7).1, ?_⟩
      refine wpAnyH_all (rs := [8]) (by kernel_rfl) (by simp) fun i hi => ?_
      rcases List.mem_singleton.1 hi
      have hne : gA ≠ gB := (by have := M4.nodup; simp at this; omega)
      refine wpOp_cstore rfl rfl _ _ rfl gB (by kernel_rfl) Gb vb (by kernel_rfl) (shape3 (M4.rows (ob, vb) (by simp))) _ _ ((M4.stored (g := gA) (by simp) g7).2.2 gB (by simp) (Ne.symm hne)) fun w8 h8 g8 => ?_
      have T := twoT_of M4 hIa hIb (gA := gA) (gB := gB) (by simp) (by simp) hne h7 g7 h8 g8
      exact ⟨(M4.both (gA := gA) (gB := gB) (by simp) (by simp) hne h7 g7 h8 g8).1, wpAnyH_done (by kernel_rfl) (KK Ga va Gb vb gA gB w8 T) _⟩
    rcases List.mem_singleton.1 hi
    refine wpOp_mid_alloc M0 rfl rfl rfl fun gB w11 M1 => ⟨M1.below, ?_⟩
    refine wpAnyH_all (rs := [2, 5]) (by kernel_rfl) (by simp) fun i hi => ?_
    rcases List.mem_cons.1 hi with rfl | hi
    · refine wpOp_mid_call M1 rfl rfl 14 #[.agg (ccs F (.slice p l.length c)), .agg (ccs F' (.slice p' l'.length c'))] J (l ++ l') (by kernel_rfl) (T1.out _ M1.below) fun Ga oa va w12 hIa M2 => ⟨M2.below, ?_⟩
      refine wpAnyH_all (rs := [4, 5]) (by kernel_rfl) (by simp) fun i hi => ?_
      rcases List.mem_cons.1 hi with rfl | hi
      · refine wpOp_mid_call M2 rfl rfl 7 #[.agg (ccs F' (.slice p' l'.length c'))] F' l' (by kernel_rfl) (T2.out _ M2.below) fun Gb ob vb w13 hIb M3 => ⟨M3.below, ?_⟩
        refine wpAnyH_all (rs := [5]) (by kernel_rfl) (by simp) fun i hi => ?_
        rcases List.mem_singleton.1 hi
        refine wpOp_mid_alloc M3 rfl rfl rfl fun gA w14 M4 => ⟨M4.below, ?_⟩
        refine wpAnyH_all (rs := [7]) (by kernel_rfl) (by simp) fun i hi => ?_
        rcases List.mem_singleton.1 hi
        refine wpOp_cstore rfl rfl _ _ rfl gA (by kernel_rfl) Ga va (by kernel_rfl) (shape3 (M4.rows (oa, va) (by simp))) _ _ (M4.blks gA (by simp)).1 fun w7 h7 g7 => ⟨(M4.stored (g := gA) (by simp) g7).1, ?_⟩
        refine wpAnyH_all (rs := [8]) (by kernel_rfl) (by simp) fun i hi => ?_
        rcases List.mem_singleton.1 hi
        have hne : gA ≠ gB := (by have := M4.nodup; simp at this; omega)
        refine wpOp_cstore rfl rfl _ _ rfl gB (by kernel_rfl) Gb vb (by kernel_rfl) (shape3 (M4.rows (ob, vb) (by simp))) _ _ ((M4.stored (g := gA) (by simp) g7).2.2 gB (by simp) (Ne.symm hne)) fun w8 h8 g8 => ?_
        have T := twoT_of M4 hIa hIb (gA := gA) (gB := gB) (by simp) (by simp) hne h7 g7 h8 g8
        exact ⟨(M4.both (gA := gA) (gB := gB) (by simp) (by simp) hne h7 g7 h8 g8).1, wpAnyH_done (by kernel_rfl) (KK Ga va Gb vb gA gB w8 T) _⟩
      rcases List.mem_singleton.1 hi
      refine wpOp_mid_alloc M2 rfl rfl rfl fun gA w13 M3 => ⟨M3.below, ?_⟩
      refine wpAnyH_all (rs := [4]) (by kernel_rfl) (by simp) fun i hi => ?_
      rcases List.mem_singleton.1 hi
      refine wpOp_mid_call M3 rfl rfl 7 #[.agg (ccs F' (.slice p' l'.length c'))] F' l' (by kernel_rfl) (T2.out _ M3.below) fun Gb ob vb w14 hIb M4 => ⟨M4.below, ?_⟩
      refine wpAnyH_all (rs := [7]) (by kernel_rfl) (by simp) fun i hi => ?_
      rcases List.mem_singleton.1 hi
      refine wpOp_cstore rfl rfl _ _ rfl gA (by kernel_rfl) Ga va (by kernel_rfl) (shape3 (M4.rows (oa, va) (by simp))) _ _ (M4.blks gA (by simp)).1 fun w7 h7 g7 => ⟨(M4.stored (g := gA) (by simp) g7).1, ?_⟩
      refine wpAnyH_all (rs := [8]) (by kernel_rfl) (by simp) fun i hi => ?_
      rcases List.mem_singleton.1 hi
      have hne : gA ≠ gB := (by have := M4.nodup; simp at this; omega)
      refine wpOp_cstore rfl rfl _ _ rfl gB (by kernel_rfl) Gb vb (by kernel_rfl) (shape3 (M4.rows (ob, vb) (by simp))) _ _ ((M4.stored (g := gA) (by simp) g7).2.2 gB (by simp) (Ne.symm hne)) fun w8 h8 g8 => ?_
      have T := twoT_of M4 hIa hIb (gA := gA) (gB := gB) (by simp) (by simp) hne h7 g7 h8 g8
      exact ⟨(M4.both (gA := gA) (gB := gB) (by simp) (by simp) hne h7 g7 h8 g8).1, wpAnyH_done (by kernel_rfl) (KK Ga va Gb vb gA gB w8 T) _⟩
    rcases List.mem_singleton.1 hi
    refine wpOp_mid_alloc M1 rfl rfl rfl fun gA w12 M2 => ⟨M2.below, ?_⟩
    refine wpAnyH_all (rs := [2]) (by kernel_rfl) (by simp) fun i hi => ?_
    rcases List.mem_singleton.1 hi
    refine wpOp_mid_call M2 rfl rfl 14 #[.agg (ccs F (.slice p l.length c)), .agg (ccs F' (.slice p' l'.length c'))] J (l ++ l') (by kernel_rfl) (T1.out _ M2.below) fun Ga oa va w13 hIa M3 => ⟨M3.below, ?_⟩
    refine wpAnyH_all (rs := [4]) (by kernel_rfl) (by simp) fun i hi => ?_
    rcases List.mem_singleton.1 hi
    refine wpOp_mid_call M3 rfl rfl 7 #[.agg (ccs F' (.slice p' l'.length c'))] F' l' (by kernel_rfl) (T2.out _ M3.below) fun Gb ob vb w14 hIb M4 => ⟨M4.below, ?_⟩
    refine wpAnyH_all (rs := [7]) (by kernel_rfl) (by simp) fun i hi => ?_
    rcases List.mem_singleton.1 hi
    refine wpOp_cstore rfl rfl _ _ rfl gA (by kernel_rfl) Ga va (by kernel_rfl) (shape3 (M4.rows (oa, va) (by simp))) _ _ (M4.blks gA (by simp)).1 fun w7 h7 g7 => ⟨(M4.stored (g := gA) (by simp) g7).1, ?_⟩
    refine wpAnyH_all (rs := [8]) (by kernel_rfl) (by simp) fun i hi => ?_
    rcases List.mem_singleton.1 hi
    have hne : gA ≠ gB := (by have := M4.nodup; simp at this; omega)
    refine wpOp_cstore rfl rfl _ _ rfl gB (by kernel_rfl) Gb vb (by kernel_rfl) (shape3 (M4.rows (ob, vb) (by simp))) _ _ ((M4.stored (g := gA) (by simp) g7).2.2 gB (by simp) (Ne.symm hne)) fun w8 h8 g8 => ?_
    have T := twoT_of M4 hIa hIb (gA := gA) (gB := gB) (by simp) (by simp) hne h7 g7 h8 g8
    exact ⟨(M4.both (gA := gA) (gB := gB) (by simp) (by simp) hne h7 g7 h8 g8).1, wpAnyH_done (by kernel_rfl) (KK Ga va Gb vb gA gB w8 T) _⟩
  intro Ga va Gb vb gA gB w3 hT
  obtain ⟨oa, ob, hIa, hIb, hB, hOa, hOb, CA3, CB3⟩ := hT
  obtain ⟨pa, ca, rfl⟩ := own_shape hOa
  obtain ⟨pb, cb, rfl⟩ := own_shape hOb
  obtain ⟨hda, _, _⟩ := own_dots hOa
  obtain ⟨hdb, _, _⟩ := own_dots hOb
  have B3 := Lib.hid (thenBelow B2.out.drew hB.out)
  have hoa : oa.length ≤ 1000 := Nat.le_trans hIa.small (by rw [List.length_append]; exact hlen)
  have hob : ob.length ≤ 1000 := Nat.le_trans hIb.small (by omega)
  have EQ := Lib.hid (equalD_is pa pb ca cb oa ob w3 hda.row hdb.row (by omega) (by omega))
  have RES : Hid (∀ b, b = sameB Ga Gb oa ob → InsideR F F' l l' b) := fun b hb => ⟨Ga, oa, Gb, ob, hJ ▸ hIa, hIb, hb⟩
  have hq := fun x => vecI.eql Ga Gb x
  have hS : Hid (sameB Ga Gb oa ob = (veq Ga Gb && decide (oa = ob))) := rfl
  clear hIa hIb hOa hOb hda hdb hB T1 T2 M0 B2 H H'
  cases hv : veq Ga Gb with
  | false =>
    rw [hv, Bool.false_and] at hS
    rw [hv] at hq
    clear hv
    go_wp2_with (first | refine wpList_vmid vecI rfl _ rfl gA 0 rfl _ CA3.out.range ?_ | refine wpList_vmid vecI rfl _ rfl gB 0 rfl _ CB3.out.range ?_)
    go_ret
    exact ⟨false, ret_bool rfl, RES.out _ hS.out.symm, B3.out⟩
  | true =>
    rw [hv, Bool.true_and] at hS
    rw [hv] at hq
    clear hv
    have s1 := CA3.out.slot
    have s2 := CB3.out.slot
    go_wp2_with (first | refine wpList_vmid vecI rfl _ rfl gA 0 rfl _ CA3.out.range ?_ | refine wpList_vmid vecI rfl _ rfl gB 0 rfl _ CB3.out.range ?_)
    refine EQ.out.mono ?_
    rintro e w4 ⟨rfl, hb4⟩
    have B4 := Lib.hid (thenBelow B3.out hb4)
    clear hb4 s1 s2 EQ
    generalize decide (oa = ob) = z at hS
    go_wp2
    go_ret
    exact ⟨z, ret_bool (by first | rfl | simp), RES.out _ hS.out.symm, B4.out⟩
end Go.Proofs.Ytnfknnkhabjciaa
