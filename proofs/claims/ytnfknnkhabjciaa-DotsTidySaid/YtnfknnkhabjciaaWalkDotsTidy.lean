/- The walk of DotsTidy. -/
import Derived.Test.YtnfknnkhabjciaaDotReg
namespace Go.Proofs.Ytnfknnkhabjciaa
open Go Go.RowKit
set_option linter.unusedVariables false

/-- what holds behind the region that makes the two contexts -/
def TwoTidy (W2 : World) (F : Nat → Int) (l : List Dt) (G : Nat → Int) (v : Value) (G' : Nat → Int) (v' : Value) (gA gB : Nat) (w : World) : Prop :=
  ∃ o o', IsTidy F l G o ∧ IsTidy F l G' o' ∧ Hid (Below W2.heap.size W2 w) ∧ w.ownsRow W2.heap.size 28 2 v o.length (dcl o) ∧ w.ownsRow W2.heap.size 28 2 v' o'.length (dcl o') ∧ Hid (Cx w gA G v) ∧ Hid (Cx w gB G' v')
theorem twoTidy_of {W2 w w7 w8 : World} {F : Nat → Int} {l : List Dt} {o o' : List Dt} {G G' : Nat → Int} {v v' : Value} {L : List Nat} (h : Mid W2 [(o', v'), (o, v)] L w) (h1 : IsTidy F l G o) (h2 : IsTidy F l G' o') {gA gB : Nat} (hA : gA ∈ L) (hB : gB ∈ L) (hne : gA ≠ gB) (h7 : Cx w7 gA G v) (g7 : w.grownBy w7 (some gA)) (h8 : Cx w8 gB G' v') (g8 : w7.grownBy w8 (some gB)) :
    TwoTidy W2 F l G v G' v' gA gB w8 := by
  obtain ⟨a, b, c, d⟩ := h.both hA hB hne h7 g7 h8 g8
  exact ⟨o, o', h1, h2, a, b (o, v) (by simp), b (o', v') (by simp), c, d⟩

set_option maxHeartbeats 8000000 in
set_option maxRecDepth 100000 in
theorem dotsTidy_walk (F : Nat → Int) (p : Option Addr) (c : Nat) (l : List Dt) (d : Dt) (W : World) (hd : DotsAt W p l) : Calls Try.prog 3 #[.agg (ccs F (.slice p l.length c)), .agg (dcs d.1 d.2)] W (Yes W) := by
  have H := Lib.hid hd
  clear hd
  go_enter Try.func3, Try.ntmps3
  go_wp2_with (refine wpList_gbox rfl _ rfl (ccs F (.slice p l.length c)) rfl ?_)
  intro g1 w1 l1 h1 hb1
  have C1 : Hid (Cx w1 g1 F (.slice p l.length c)) := h1
  have B1 := Lib.hid hb1; have H1 := Lib.hid (H.out.below hb1)
  clear h1 hb1
  go_wp2_with (refine wpList_gbox rfl _ rfl (dcs d.1 d.2) rfl ?_)
  intro g2 w2 l2 h2 hb2
  have C2 := Lib.hid (C1.out.later hb2); have R2 := Lib.hid (range_of_block h2)
  have B2 := Lib.hid (thenBelow B1.out hb2); have H2 := Lib.hid (H1.out.below hb2)
  clear h2 hb2
  have s0 := C2.out.slot
  by_cases hm : (60 : Int) < l.length
  · have c0 := Lib.hid (fun W => awake8 W)
    go_wp2_with (fail)
    refine (c0.out _).mono ?_
    rintro e w3 ⟨rfl, hb3⟩
    have B3 := Lib.hid (thenBelow B2.out hb3)
    clear hb3
    go_wp2
    go_ret
    exact ⟨rfl, B3.out⟩
  · have hlen : l.length ≤ 1000 := by omega
    have T1 : Hid (∀ w, Below w2.drew.heap.size w2.drew w → Calls Try.prog 7 #[.agg (ccs F (.slice p l.length c))] w (TidyR w F l)) := fun w hw => tidyD_is F p c l w ((H2.out.below drew_below).below hw) hlen
    have T2 : Hid (∀ w, Below w2.drew.heap.size w2.drew w → Calls Try.prog 8 #[.agg (ccs F (.slice p l.length c))] w (TidyR w F l)) := fun w hw => refTidyD_is F p c l w ((H2.out.below drew_below).below hw) hlen
    have CR : Hid (∀ w, Below w2.drew.heap.size w2.drew w → w.rangeAt g1 0 (ccs F (.slice p l.length c)).toList) := fun w hw => range_of_block ((show Cx w2.drew g1 F (.slice p l.length c) from C2.out).later hw)
    go_wp2
    have M0 := Mid.start (Below.refl w2.drew.heap.size w2.drew)
    apply wp_region_two (n := 8) (S := fun w => Below w2.drew.heap.size w2.drew w) (TwoTidy w2.drew F l) (by kernel_rfl) rfl M0.below
    · intro KK
      refine wpAnyH_gload (i := 0) rfl (by kernel_rfl) (by kernel_rfl) (by kernel_rfl) (fun _ _ _ _ h => h) rfl _ rfl g1 0 rfl _ CR.out _ Try.underlying26 rfl (by rw [Array.length_toList]; exact sizeC _ _) M0.below ?_
      refine wpAnyH_gload (i := 2) rfl (by kernel_rfl) (by kernel_rfl) (by kernel_rfl) (fun _ _ _ _ h => h) rfl _ rfl g1 0 rfl _ CR.out _ Try.underlying26 rfl (by rw [Array.length_toList]; exact sizeC _ _) M0.below ?_
      refine wpAnyH_all (rs := [1, 4, 5]) (by kernel_rfl) (by simp) fun i hi => ?_
      rcases List.mem_cons.1 hi with rfl | hi
      · refine wpOp_mid_call M0 rfl rfl 7 #[.agg (ccs F (.slice p l.length c))] F l (by kernel_rfl) (T1.out _ M0.below) fun Ga oa va w11 hIa M1 => ⟨M1.below, ?_⟩
        refine wpAnyH_all (rs := [3, 4, 5]) (by kernel_rfl) (by simp) fun i hi => ?_
        rcases List.mem_cons.1 hi with rfl | hi
        · refine wpOp_mid_call M1 rfl rfl 8 #[.agg (ccs F (.slice p l.length c))] F l (by kernel_rfl) (T2.out _ M1.below) fun Gb ob vb w12 hIb M2 => ⟨M2.below, ?_⟩
          refine wpAnyH_all (rs := [4, 5]) (by kernel_rfl) (by simp) fun i hi => ?_
          rcases List.mem_cons.1 hi with rfl | hi
          · refine wpOp_mid_alloc M2 rfl rfl rfl fun gA w13 M3 => ⟨M3.below, ?_⟩
            refine wpAnyH_all (rs := [5]) (by kernel_rfl) (by simp) fun i hi => ?_
            rcases List.mem_singleton.1 hi
            refine wpOp_mid_alloc M3 rfl rfl rfl fun gB w14 M4 => ⟨M4.below, ?_⟩
            refine wpAnyH_all (rs := [6]) (by kernel_rfl) (by simp) fun i hi => ?_
            rcases List.mem_singleton.1 hi
            refine wpOp_cstore rfl rfl _ _ rfl gA (by kernel_rfl) Ga va (by kernel_rfl) (shape3 (M4.rows (oa, va) (by simp))) _ _ (M4.blks gA (by simp)).1 fun w7 h7 g7 => ⟨(M4.stored (g := gA) (by simp) g7).1, ?_⟩
            refine wpAnyH_all (rs := [7]) (by kernel_rfl) (by simp) fun i hi => ?_
            rcases List.mem_singleton.1 hi
            have hne : gA ≠ gB := (by have := M4.nodup; simp at this; omega)
            refine wpOp_cstore rfl rfl _ _ rfl gB (by kernel_rfl) Gb vb (by kernel_rfl) (shape3 (M4.rows (ob, vb) (by simp))) _ _ ((M4.stored (g := gA) (by simp) g7).2.2 gB (by simp) (Ne.symm hne)) fun w8 h8 g8 => ?_
            have T := twoTidy_of M4 hIa hIb (gA := gA) (gB := gB) (by simp) (by simp) hne h7 g7 h8 g8
            exact ⟨(M4.both (gA := gA) (gB := gB) (by simp) (by simp) hne h7 g7 h8 g8).1, wpAnyH_done (by kernel_rfl) (KK Ga va Gb vb gA gB w8 T) _⟩
          rcases List.mem_singleton.1 hi
          refine wpOp_mid_alloc M2 rfl rfl rfl fun gB w13 M3 => ⟨M3.below, ?_⟩
          refine wpAnyH_all (rs := [4]) (by kernel_rfl) (by simp) fun i hi => ?_
          rcases List.mem_singleton.1 hi
          refine wpOp_mid_alloc M3 rfl rfl rfl fun gA w14 M4 => ⟨M4.below, ?_⟩
          refine wpAnyH_all (rs := [6]) (by kernel_rfl) (by simp) fun i hi => ?_
          rcases List.mem_singleton.1 hi
          refine wpOp_cstore rfl rfl _ _ rfl gA (by kernel_rfl) Ga va (by kernel_rfl) (shape3 (M4.rows (oa, va) (by simp))) _ _ (M4.blks gA (by simp)).1 fun w7 h7 g7 => ⟨(M4.stored (g := gA) (by simp) g7).1, ?_⟩
          refine wpAnyH_all (rs := [7]) (by kernel_rfl) (by simp) fun i hi => ?_
          rcases List.mem_singleton.1 hi
          have hne : gA ≠ gB := (by have := M4.nodup; simp at this; omega)
          refine wpOp_cstore rfl rfl _ _ rfl gB (by kernel_rfl) Gb vb (by kernel_rfl) (shape3 (M4.rows (ob, vb) (by simp))) _ _ ((M4.stored (g := gA) (by simp) g7).2.2 gB (by simp) (Ne.symm hne)) fun w8 h8 g8 => ?_
          have T := twoTidy_of M4 hIa hIb (gA := gA) (gB := gB) (by simp) (by simp) hne h7 g7 h8 g8
          exact ⟨(M4.both (gA := gA) (gB := gB) (by simp) (by simp) hne h7 g7 h8 g8).1, wpAnyH_done (by kernel_rfl) (KK Ga va Gb vb gA gB w8 T) _⟩
        rcases List.mem_cons.1 hi with rfl | hi
        · refine wpOp_mid_alloc M1 rfl rfl rfl fun gA w12 M2 => ⟨M2.below, ?_⟩
          refine wpAnyH_all (rs := [3, 5]) (by kernel_rfl) (by simp) fun i hi => ?_
          rcases List.mem_cons.1 hi with rfl | hi
          · refine wpOp_mid_call M2 rfl rfl 8 #[.agg (ccs F (.slice p l.length c))] F l (by kernel_rfl) (T2.out _ M2.below) fun Gb ob vb w13 hIb M3 => ⟨M3.below, ?_⟩
            refine wpAnyH_all (rs := [5]) (by kernel_rfl) (by simp) fun i hi => ?_
            rcases List.mem_singleton.1 hi
            refine wpOp_mid_alloc M3 rfl rfl rfl fun gB w14 M4 => ⟨M4.below, ?_⟩
            refine wpAnyH_all (rs := [6]) (by kernel_rfl) (by simp) fun i hi => ?_
            rcases List.mem_singleton.1 hi
            refine wpOp_cstore rfl rfl _ _ rfl gA (by kernel_rfl) Ga va (by kernel_rfl) (shape3 (M4.rows (oa, va) (by simp))) _ _ (M4.blks gA (by simp)).1 fun w7 h7 g7 => ⟨(M4.stored (g := gA) (by simp) g7).1, ?_⟩
            refine wpAnyH_all (rs := [7]) (by kernel_rfl) (by simp) fun i hi => ?_
            rcases List.mem_singleton.1 hi
            have hne : gA ≠ gB := (by have := M4.nodup; simp at this; omega)
            refine wpOp_cstore rfl rfl _ _ rfl gB (by kernel_rfl) Gb vb (by kernel_rfl) (shape3 (M4.rows (ob, vb) (by simp))) _ _ ((M4.stored (g := gA) (by simp) g7).2.2 gB (by simp) (Ne.symm hne)) fun w8 h8 g8 => ?_
            have T := twoTidy_of M4 hIa hIb (gA := gA) (gB := gB) (by simp) (by simp) hne h7 g7 h8 g8
            exact ⟨(M4.both (gA := gA) (gB := gB) (by simp) (by simp) hne h7 g7 h8 g8).1, wpAnyH_done (by kernel_rfl) (KK Ga va Gb vb gA gB w8 T) _⟩
          rcases List.mem_singleton.1 hi
          refine wpOp_mid_alloc M2 rfl rfl rfl fun gB w13 M3 => ⟨M3.below, ?_⟩
          refine wpAnyH_all (rs := [3]) (by kernel_rfl) (by simp) fun i hi => ?_
          rcases List.mem_singleton.1 hi
          refine wpOp_mid_call M3 rfl rfl 8 #[.agg (ccs F (.slice p l.length c))] F l (by kernel_rfl) (T2.out _ M3.below) fun Gb ob vb w14 hIb M4 => ⟨M4.below, ?_⟩
          refine wpAnyH_all (rs := [6]) (by kernel_rfl) (by simp) fun i hi => ?_
          rcases List.mem_singleton.1 hi
          refine wpOp_cstore rfl rfl _ _ rfl gA (by kernel_rfl) Ga va (by kernel_rfl) (shape3 (M4.rows (oa, va) (by simp))) _ _ (M4.blks gA (by simp)).1 fun w7 h7 g7 => ⟨(M4.stored (g := gA) (by simp) g7).1, ?_⟩
          refine wpAnyH_all (rs := [7]) (by kernel_rfl) (by simp) fun i hi => ?_
          rcases List.mem_singleton.1 hi
          have hne : gA ≠ gB := (by have := M4.nodup; simp at this; omega)
          refine wpOp_cstore rfl rfl _ _ rfl gB (by kernel_rfl) Gb vb (by kernel_rfl) (shape3 (M4.rows (ob, vb) (by simp))) _ _ ((M4.stored (g := gA) (by simp) g7).2.2 gB (by simp) (Ne.symm hne)) fun w8 h8 g8 => ?_
          have T := twoTidy_of M4 hIa hIb (gA := gA) (gB := gB) (by simp) (by simp) hne h7 g7 h8 g8
          exact ⟨(M4.both (gA := gA) (gB := gB) (by simp) (by simp) hne h7 g7 h8 g8).1, wpAnyH_done (by kernel_rfl) (KK Ga va Gb vb gA gB w8 T) _⟩
        rcases List.mem_singleton.1 hi
        refine wpOp_mid_alloc M1 rfl rfl rfl fun gB w12 M2 => ⟨M2.below, ?_⟩
        refine wpAnyH_all (rs := [3, 4]) (by kernel_rfl) (by simp) fun i hi => ?_
        rcases List.mem_cons.1 hi with rfl | hi
        · refine wpOp_mid_call M2 rfl rfl 8 #[.agg (ccs F (.slice p l.length c))] F l (by kernel_rfl) (T2.out _ M2.below) fun Gb ob vb w13 hIb M3 => ⟨M3.below, ?_⟩
          refine wpAnyH_all (rs := [4]) (by kernel_rfl) (by simp) fun i hi => ?_
          rcases List.mem_singleton.1 hi
          refine wpOp_mid_alloc M3 rfl rfl rfl fun gA w14 M4 => ⟨M4.below, ?_⟩
          refine wpAnyH_all (rs := [6]) (by kernel_rfl) (by simp) fun i hi => ?_
          rcases List.mem_singleton.1 hi
          refine wpOp_cstore rfl rfl _ _ rfl gA (by kernel_rfl) Ga va (by kernel_rfl) (shape3 (M4.rows (oa, va) (by simp))) _ _ (M4.blks gA (by simp)).1 fun w7 h7 g7 => ⟨(M4.stored (g := gA) (by simp) g7).1, ?_⟩
          refine wpAnyH_all (rs := [7]) (by kernel_rfl) (by simp) fun i hi => ?_
          rcases List.mem_singleton.1 hi
          have hne : gA ≠ gB := (by have := M4.nodup; simp at this; omega)
          refine wpOp_cstore rfl rfl _ _ rfl gB (by kernel_rfl) Gb vb (by kernel_rfl) (shape3 (M4.rows (ob, vb) (by simp))) _ _ ((M4.stored (g := gA) (by simp) g7).2.2 gB (by simp) (Ne.symm hne)) fun w8 h8 g8 => ?_
          have T := twoTidy_of M4 hIa hIb (gA := gA) (gB := gB) (by simp) (by simp) hne h7 g7 h8 g8
          exact ⟨(M4.both (gA := gA) (gB := gB) (by simp) (by simp) hne h7 g7 h8 g8).1, wpAnyH_done (by kernel_rfl) (KK Ga va Gb vb gA gB w8 T) _⟩
        rcases List.mem_singleton.1 hi
        refine wpOp_mid_alloc M2 rfl rfl rfl fun gA w13 M3 => ⟨M3.below, ?_⟩
        refine wpAnyH_all (rs := [3]) (by kernel_rfl) (by simp) fun i hi => ?_
        rcases List.mem_singleton.1 hi
        refine wpOp_mid_call M3 rfl rfl 8 #[.agg (ccs F (.slice p l.length c))] F l (by kernel_rfl) (T2.out _ M3.below) fun Gb ob vb w14 hIb M4 => ⟨M4.below, ?_⟩
        refine wpAnyH_all (rs := [6]) (by kernel_rfl) (by simp) fun i hi => ?_
        rcases List.mem_singleton.1 hi
        refine wpOp_cstore rfl rfl _ _ rfl gA (by kernel_rfl) Ga va (by kernel_rfl) (shape3 (M4.rows (oa, va) (by simp))) _ _ (M4.blks gA (by simp)).1 fun w7 h7 g7 => ⟨(M4.stored (g := gA) (by simp) g7).1, ?_⟩
        refine wpAnyH_all (rs := [7]) (by kernel_rfl) (by simp) fun i hi => ?_
        rcases List.mem_singleton.1 hi
        have hne : gA ≠ gB := (by have := M4.nodup; simp at this; omega)
        refine wpOp_cstore rfl rfl _ _ rfl gB (by kernel_rfl) Gb vb (by kernel_rfl) (shape3 (M4.rows (ob, vb) (by simp))) _ _ ((M4.stored (g := gA) (by simp) g7).2.2 gB (by simp) (Ne.symm hne)) fun w8 h8 g8 => ?_
        have T := twoTidy_of M4 hIa hIb (gA := gA) (gB := gB) (by simp) (by simp) hne h7 g7 h8 g8
        exact ⟨(M4.both (gA := gA) (gB := gB) (by simp) (by simp) hne h7 g7 h8 g8).1, wpAnyH_done (by kernel_rfl) (KK Ga va Gb vb gA gB w8 T) _⟩
      rcases List.mem_cons.1 hi with rfl | hi
      · refine wpOp_mid_alloc M0 rfl rfl rfl fun gA w11 M1 => ⟨M1.below, ?_⟩
        refine wpAnyH_all (rs := [1, 5]) (by kernel_rfl) (by simp) fun i hi => ?_
        rcases List.mem_cons.1 hi with rfl | hi
        · refine wpOp_mid_call M1 rfl rfl 7 #[.agg (ccs F (.slice p l.length c))] F l (by kernel_rfl) (T1.out _ M1.below) fun Ga oa va w12 hIa M2 => ⟨M2.below, ?_⟩
          refine wpAnyH_all (rs := [3, 5]) (by kernel_rfl) (by simp) fun i hi => ?_
          rcases List.mem_cons.1 hi with rfl | hi
          · refine wpOp_mid_call M2 rfl rfl 8 #[.agg (ccs F (.slice p l.length c))] F l (by kernel_rfl) (T2.out _ M2.below) fun Gb ob vb w13 hIb M3 => ⟨M3.below, ?_⟩
            refine wpAnyH_all (rs := [5]) (by kernel_rfl) (by simp) fun i hi => ?_
            rcases List.mem_singleton.1 hi
            refine wpOp_mid_alloc M3 rfl rfl rfl fun gB w14 M4 => ⟨M4.below, ?_⟩
            refine wpAnyH_all (rs := [6]) (by kernel_rfl) (by simp) fun i hi => ?_
            rcases List.mem_singleton.1 hi
            refine wpOp_cstore rfl rfl _ _ rfl gA (by kernel_rfl) Ga va (by kernel_rfl) (shape3 (M4.rows (oa, va) (by simp))) _ _ (M4.blks gA (by simp)).1 fun w7 h7 g7 => ⟨(M4.stored (g := gA) (by simp) g7).1, ?_⟩
            refine wpAnyH_all (rs := [7]) (by kernel_rfl) (by simp) fun i hi => ?_
            rcases List.mem_singleton.1 hi
            have hne : gA ≠ gB := (by have := M4.nodup; simp at this; omega)
            refine wpOp_cstore rfl rfl _ _ rfl gB (by kernel_rfl) Gb vb (by kernel_rfl) (shape3 (M4.rows (ob, vb) (by simp))) _ _ ((M4.stored (g := gA) (by simp) g7).2.2 gB (by simp) (Ne.symm hne)) fun w8 h8 g8 => ?_
            have T := twoTidy_of M4 hIa hIb (gA := gA) (gB := gB) (by simp) (by simp) hne h7 g7 h8 g8
            exact ⟨(M4.both (gA := gA) (gB := gB) (by simp) (by simp) hne h7 g7 h8 g8).1, wpAnyH_done (by kernel_rfl) (KK Ga va Gb vb gA gB w8 T) _⟩
          rcases List.mem_singleton.1 hi
          refine wpOp_mid_alloc M2 rfl rfl rfl fun gB w13 M3 => ⟨M3.below, ?_⟩
          refine wpAnyH_all (rs := [3]) (by kernel_rfl) (by simp) fun i hi => ?_
          rcases List.mem_singleton.1 hi
          refine wpOp_mid_call M3 rfl rfl 8 #[.agg (ccs F (.slice p l.length c))] F l (by kernel_rfl) (T2.out _ M3.below) fun Gb ob vb w14 hIb M4 => ⟨M4.below, ?_⟩
          refine wpAnyH_all (rs := [6]) (by kernel_rfl) (by simp) fun i hi => ?_
          rcases List.mem_singleton.1 hi
          refine wpOp_cstore rfl rfl _ _ rfl gA (by kernel_rfl) Ga va (by kernel_rfl) (shape3 (M4.rows (oa, va) (by simp))) _ _ (M4.blks gA (by simp)).1 fun w7 h7 g7 => ⟨(M4.stored (g := gA) (by simp) g7).1, ?_⟩
          refine wpAnyH_all (rs := [7]) (by kernel_rfl) (by simp) fun i hi => ?_
          rcases List.mem_singleton.1 hi
          have hne : gA ≠ gB := (by have := M4.nodup; simp at this; omega)
          refine wpOp_cstore rfl rfl _ _ rfl gB (by kernel_rfl) Gb vb (by kernel_rfl) (shape3 (M4.rows (ob, vb) (by simp))) _ _ ((M4.stored (g := gA) (by simp) g7).2.2 gB (by simp) (Ne.symm hne)) fun w8 h8 g8 => ?_
          have T := twoTidy_of M4 hIa hIb (gA := gA) (gB := gB) (by simp) (by simp) hne h7 g7 h8 g8
          exact ⟨(M4.both (gA := gA) (gB := gB) (by simp) (by simp) hne h7 g7 h8 g8).1, wpAnyH_done (by kernel_rfl) (KK Ga va Gb vb gA gB w8 T) _⟩
        rcases List.mem_singleton.1 hi
        refine wpOp_mid_alloc M1 rfl rfl rfl fun gB w12 M2 => ⟨M2.below, ?_⟩
        refine wpAnyH_all (rs := [1]) (by kernel_rfl) (by simp) fun i hi => ?_
        rcases List.mem_singleton.1 hi
        refine wpOp_mid_call M2 rfl rfl 7 #[.agg (ccs F (.slice p l.length c))] F l (by kernel_rfl) (T1.out _ M2.below) fun Ga oa va w13 hIa M3 => ⟨M3.below, ?_⟩
        refine wpAnyH_all (rs := [3]) (by kernel_rfl) (by simp) fun i hi => ?_
        rcases List.mem_singleton.1 hi
        refine wpOp_mid_call M3 rfl rfl 8 #[.agg (ccs F (.slice p l.length c))] F l (by kernel_rfl) (T2.out _ M3.below) fun Gb ob vb w14 hIb M4 => ⟨M4.below, ?_⟩
        refine wpAnyH_all (rs := [6]) (by kernel_rfl) (by simp) fun i hi => ?_
        rcases List.mem_singleton.1 hi
        refine wpOp_cstore rfl rfl _ _ rfl gA (by kernel_rfl) Ga va (by kernel_rfl) (shape3 (M4.rows (oa, va) (by simp))) _ _ (M4.blks gA (by simp)).1 fun w7 h7 g7 => ⟨(M4.stored (g := gA) (by simp) g7).1, ?_⟩
        refine wpAnyH_all (rs := [7]) (by kernel_rfl) (by simp) fun i hi => ?_
        rcases List.mem_singleton.1 hi
        have hne : gA ≠ gB := (by have := M4.nodup; simp at this; omega)
        refine wpOp_cstore rfl rfl _ _ rfl gB (by kernel_rfl) Gb vb (by kernel_rfl) (shape3 (M4.rows (ob, vb) (by simp))) _ _ ((M4.stored (g := gA) (by simp) g7).2.2 gB (by simp) (Ne.symm hne)) fun w8 h8 g8 => ?_
        have T := twoTidy_of M4 hIa hIb (gA := gA) (gB := gB) (by simp) (by simp) hne h7 g7 h8 g8
        exact ⟨(M4.both (gA := gA) (gB := gB) (by simp) (by simp) hne h7 g7 h8 g8).1, wpAnyH_done (by kernel_rfl) (KK Ga va Gb vb gA gB w8 T) _⟩
      rcases List.mem_singleton.1 hi
      refine wpOp_mid_alloc M0 rfl rfl rfl fun gB w11 M1 => ⟨M1.below, ?_⟩
      refine wpAnyH_all (rs := [1, 4]) (by kernel_rfl) (by simp) fun i hi => ?_
      rcases List.mem_cons.1 hi with rfl | hi
      · refine wpOp_mid_call M1 rfl rfl 7 #[.agg (ccs F (.slice p l.length c))] F l (by kernel_rfl) (T1.out _ M1.below) fun Ga oa va w12 hIa M2 => ⟨M2.below, ?_⟩
        refine wpAnyH_all (rs := [3, 4]) (by kernel_rfl) (by simp) fun i hi => ?_
        rcases List.mem_cons.1 hi with rfl | hi
        · refine wpOp_mid_call M2 rfl rfl 8 #[.agg (ccs F (.slice p l.length c))] F l (by kernel_rfl) (T2.out _ M2.below) fun Gb ob vb w13 hIb M3 => ⟨M3.below, ?_⟩
          refine wpAnyH_all (rs := [4]) (by kernel_rfl) (by simp) fun i hi => ?_
          rcases List.mem_singleton.1 hi
          refine wpOp_mid_alloc M3 rfl rfl rfl fun gA w14 M4 => ⟨M4.below, ?_⟩
          refine wpAnyH_all (rs := [6]) (by kernel_rfl) (by simp) fun i hi => ?_
          rcases List.mem_singleton.1 hi
          refine wpOp_cstore rfl rfl _ _ rfl gA (by kernel_rfl) Ga va (by kernel_rfl) (shape3 (M4.rows (oa, va) (by simp))) _ _ (M4.blks gA (by simp)).1 fun w7 h7 g7 => ⟨(M4.stored (g := gA) (by simp) g7).1, ?_⟩
          refine wpAnyH_all (rs := [7]) (by kernel_rfl) (by simp) fun i hi => ?_
          rcases List.mem_singleton.1 hi
          have hne : gA ≠ gB := (by have := M4.nodup; simp at this; omega)
          refine wpOp_cstore rfl rfl _ _ rfl gB (by kernel_rfl) Gb vb (by kernel_rfl) (shape3 (M4.rows (ob, vb) (by simp))) _ _ ((M4.stored (g := gA) (by simp) g7).2.2 gB (by simp) (Ne.symm hne)) fun w8 h8 g8 => ?_
          have T := twoTidy_of M4 hIa hIb (gA := gA) (gB := gB) (by simp) (by simp) hne h7 g7 h8 g8
          exact ⟨(M4.both (gA := gA) (gB := gB) (by simp) (by simp) hne h7 g7 h8 g8).1, wpAnyH_done (by kernel_rfl) (KK Ga va Gb vb gA gB w8 T) _⟩
        rcases List.mem_singleton.1 hi
        refine wpOp_mid_alloc M2 rfl rfl rfl fun gA w13 M3 => ⟨M3.below, ?_⟩
        refine wpAnyH_all (rs := [3]) (by kernel_rfl) (by simp) fun i hi => ?_
        rcases List.mem_singleton.1 hi
        refine wpOp_mid_call M3 rfl rfl 8 #[.agg (ccs F (.slice p l.length c))] F l (by kernel_rfl) (T2.out _ M3.below) fun Gb ob vb w14 hIb M4 => ⟨M4.below, ?_⟩
        refine wpAnyH_all (rs := [6]) (by kernel_rfl) (by simp) fun i hi => ?_
        rcases List.mem_singleton.1 hi
        refine wpOp_cstore rfl rfl _ _ rfl gA (by kernel_rfl) Ga va (by kernel_rfl) (shape3 (M4.rows (oa, va) (by simp))) _ _ (M4.blks gA (by simp)).1 fun w7 h7 g7 => ⟨(M4.stored (g := gA) (by simp) g7).1, ?_⟩
        refine wpAnyH_all (rs := [7]) (by kernel_rfl) (by simp) fun i hi => ?_
        rcases List.mem_singleton.1 hi
        have hne : gA ≠ gB := (by have := M4.nodup; simp at this; omega)
        refine wpOp_cstore rfl rfl _ _ rfl gB (by kernel_rfl) Gb vb (by kernel_rfl) (shape3 (M4.rows (ob, vb) (by simp))) _ _ ((M4.stored (g := gA) (by simp) g7).2.2 gB (by simp) (Ne.symm hne)) fun w8 h8 g8 => ?_
        have T := twoTidy_of M4 hIa hIb (gA := gA) (gB := gB) (by simp) (by simp) hne h7 g7 h8 g8
        exact ⟨(M4.both (gA := gA) (gB := gB) (by simp) (by simp) hne h7 g7 h8 g8).1, wpAnyH_done (by kernel_rfl) (KK Ga va Gb vb gA gB w8 T) _⟩
      rcases List.mem_singleton.1 hi
      refine wpOp_mid_alloc M1 rfl rfl rfl fun gA w12 M2 => ⟨M2.below, ?_⟩
      refine wpAnyH_all (rs := [1]) (by kernel_rfl) (by simp) fun i hi => ?_
      rcases List.mem_singleton.1 hi
      refine wpOp_mid_call M2 rfl rfl 7 #[.agg (ccs F (.slice p l.length c))] F l (by kernel_rfl) (T1.out _ M2.below) fun Ga oa va w13 hIa M3 => ⟨M3.below, ?_⟩
      refine wpAnyH_all (rs := [3]) (by kernel_rfl) (by simp) fun i hi => ?_
      rcases List.mem_singleton.1 hi
      refine wpOp_mid_call M3 rfl rfl 8 #[.agg (ccs F (.slice p l.length c))] F l (by kernel_rfl) (T2.out _ M3.below) fun Gb ob vb w14 hIb M4 => ⟨M4.below, ?_⟩
      refine wpAnyH_all (rs := [6]) (by kernel_rfl) (by simp) fun i hi => ?_
      rcases List.mem_singleton.1 hi
      refine wpOp_cstore rfl rfl _ _ rfl gA (by kernel_rfl) Ga va (by kernel_rfl) (shape3 (M4.rows (oa, va) (by simp))) _ _ (M4.blks gA (by simp)).1 fun w7 h7 g7 => ⟨(M4.stored (g := gA) (by simp) g7).1, ?_⟩
      refine wpAnyH_all (rs := [7]) (by kernel_rfl) (by simp) fun i hi => ?_
      rcases List.mem_singleton.1 hi
      have hne : gA ≠ gB := (by have := M4.nodup; simp at this; omega)
      refine wpOp_cstore rfl rfl _ _ rfl gB (by kernel_rfl) Gb vb (by kernel_rfl) (shape3 (M4.rows (ob, vb) (by simp))) _ _ ((M4.stored (g := gA) (by simp) g7).2.2 gB (by simp) (Ne.symm hne)) fun w8 h8 g8 => ?_
      have T := twoTidy_of M4 hIa hIb (gA := gA) (gB := gB) (by simp) (by simp) hne h7 g7 h8 g8
      exact ⟨(M4.both (gA := gA) (gB := gB) (by simp) (by simp) hne h7 g7 h8 g8).1, wpAnyH_done (by kernel_rfl) (KK Ga va Gb vb gA gB w8 T) _⟩
    intro Ga va Gb vb gA gB w3 hT
    obtain ⟨oa, ob, hIa, hIb, hB, hOa, hOb, CA, CB⟩ := hT
    obtain ⟨hG, hoo⟩ := hIa.unique hIb (fun _ _ => rfl) (fun _ _ => Iff.rfl)
    subst hoo
    have B3 := Lib.hid (thenBelow B2.out.drew hB.out)
    have C3 := Lib.hid ((show Cx w2.drew g1 F (.slice p l.length c) from C2.out).later hB.out)
    have R3 := Lib.hid (range_below (show w2.drew.rangeAt g2 0 (dcs d.1 d.2).toList from R2.out) hB.out)
    have H3 := Lib.hid ((H2.out.below drew_below).below hB.out)
    have hol : oa.length ≤ 1000 := Nat.le_trans hIa.small hlen
    obtain ⟨_, pa, ca, rfl, _, hra, _⟩ := own_drow hOa
    obtain ⟨_, pb, cb, rfl, _, hrb, _⟩ := own_drow hOb
    have q1 := quiet_callB (w := w3) (fun W hW => by
      have := same_is Ga Gb pa pb ca cb oa oa W (hra.below hW) (hrb.below hW) (by omega) (by omega)
      rw [show sameB Ga Gb oa oa = true from by unfold sameB; rw [veq_of hG]; simp] at this
      exact this)
    have q2 := quiet_callB (w := w3) (fun W hW => knows_is F p c l d W (H3.out.row.below hW) (by omega))
    have q3 := quiet_callB (w := w3) (fun W hW => refKnows_is F p c l d W (H3.out.row.below hW) (by omega))
    have q4 := quiet_callB (w := w3) (v := .bool (decide (oa.length = 0))) (fun W hW => (whole_is F p c l W (H3.out.below hW) hlen).mono fun e w' ⟨b, h1, ⟨G0, o0, hI0, hb0⟩, h3⟩ => ⟨by
      obtain ⟨_, rfl⟩ := hIa.unique hI0 (fun _ _ => rfl) (fun _ _ => Iff.rfl)
      rw [h1, hb0], h3⟩)
    have q5 := quiet_call (w := w3) awake8
    have s1 := cell_regrown CB.out.slot
    clear hIa hIb hOa hOb hra hrb hG T1 T2 CR M0 B2 C2 R2 H2 hB s0
    generalize knowsB F l d = kb at q2 q3
    have hdd : (decide (oa.length = 0)) = ((oa.length : Int) == 0) := by rw [Bool.eq_iff_iff]; simp
    rw [hdd] at q4
    clear hdd
    have LC : ∀ (w : World) (g : Nat) (f : Nat → Int) (v : Value), Cx w g f v → ∀ W, (∃ p : Regrown, W = Sort.grow (redrawn w p.d) p.os) → W.rangeAt g 0 (ccs f v).toList := fun w g f v h W hW => range_of_block (h.later (below_quiet hW))
    have LC := Lib.hid LC
    have LD : Hid (∀ W, (∃ p : Regrown, W = Sort.grow (redrawn w3 p.d) p.os) → W.rangeAt g2 0 (dcs d.1 d.2).toList) := fun W hW => range_below R3.out (below_quiet hW)
    simp only [Act.put, List.setIfInBounds_toArray, List.set_cons_zero, List.set_cons_succ]
    go_wp2
    refine wp_region_quiet_below (by kernel_rfl) (by kernel_rfl) ?_
    refine wpQuiet_gloadG (by rfl) _ rfl gA 0 rfl _ (LC.out _ _ _ _ CA.out) _ Try.underlying26 rfl (by rw [Array.length_toList]; exact sizeC _ _) ?_
    refine wpQuiet_gloadG (by rfl) _ rfl gB 0 rfl _ (LC.out _ _ _ _ CB.out) _ Try.underlying26 rfl (by rw [Array.length_toList]; exact sizeC _ _) ?_
    quiet_step (exact q1 _ _)
    quiet_step (fail)
    refine wpQuiet_gloadG (by rfl) _ rfl g1 0 rfl _ (LC.out _ _ _ _ C3.out) _ Try.underlying26 rfl (by rw [Array.length_toList]; exact sizeC _ _) ?_
    refine wpQuiet_gloadG (by rfl) _ rfl g2 0 rfl _ LD.out _ Try.underlying28 rfl (sizeDl d.1 d.2) ?_
    quiet_step (exact q2 _ _)
    refine wpQuiet_gloadG (by rfl) _ rfl g1 0 rfl _ (LC.out _ _ _ _ C3.out) _ Try.underlying26 rfl (by rw [Array.length_toList]; exact sizeC _ _) ?_
    refine wpQuiet_gloadG (by rfl) _ rfl g2 0 rfl _ LD.out _ Try.underlying28 rfl (sizeDl d.1 d.2) ?_
    quiet_step (exact q3 _ _)
    quiet_step (fail)
    quiet_step (fail)
    quiet_step (fail)
    refine wpQuiet_gloadG (by rfl) _ rfl g1 0 rfl _ (LC.out _ _ _ _ C3.out) _ Try.underlying26 rfl (by rw [Array.length_toList]; exact sizeC _ _) ?_
    quiet_step (exact q4 _ _)
    quiet_step (fail)
    quiet_step (fail)
    quiet_step (fail)
    quiet_step (fail)
    quiet_step (fail)
    quiet_step (fail)
    quiet_step (fail)
    quiet_step (exact q5 _ _)
    repeat (quiet_step (fail))
    refine wpQuiet_nil ?_
    rintro _ ⟨⟨dq, osq⟩, rfl⟩
    have B4 := Lib.hid (thenBelow B3.out (below_regrown w3 dq osq))
    generalize Sort.grow (redrawn w3 dq) osq = w4 at B4 ⊢
    clear q1 q2 q3 q4 q5 s1
    go_wp2
    go_ret
    exact ⟨ret_bool (by first | rfl | (simp; done)), B4.out⟩
end Go.Proofs.Ytnfknnkhabjciaa
