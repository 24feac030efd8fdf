/- The walk of DocsApplies. -/
import Derived.Test.YtjmglgcifekhgaaDoorRfWr
import Derived.Test.YtjmglgcifekhgaaDoorDcAwake
import Derived.Test.YtjmglgcifekhgaaDoorPastFew
namespace Go.Proofs.YtjmglgcifekhgaaDoor
open Go Go.RowKit
set_option linter.unusedVariables false
set_option maxRecDepth 1000000

set_option maxHeartbeats 8000000 in
theorem docsApplies_walk (F : Nat → Int) (p : Option Addr) (c : Nat) (L : List Wr) (x : EvP) (W : World) (hw : WrsAt W p L) (ho : ∀ a, p = some a → ∃ b o, a = ⟨b, o, none⟩) (hx : x.Ok W) (hT : Shapes W) :
    Calls Tryd.prog 3 #[.agg (scs F (.slice p L.length c)), .agg x.cells.toArray] W (Yes W) := by
  have HW := Lib.hid hw; have HO := Lib.hid ho; have HX := Lib.hid hx; have HT := Lib.hid hT
  clear hw ho hx hT
  go_enter Tryd.func3, Tryd.ntmps3
  go_wp2_with (refine wpList_gbox rfl _ rfl (scs F (.slice p L.length c)) rfl ?_)
  intro g2 w1 l2 h2 hb1
  have S1 : Hid (Sx w1 g2 F (.slice p L.length c)) := Lib.hid h2
  have B1 := Lib.hid hb1
  clear h2 hb1
  go_wp2_with (refine wpList_gbox rfl _ rfl x.cells.toArray rfl ?_)
  intro g3 w2 l3 h3 hb2
  have S2 := Lib.hid (S1.out.later hb2); have B2 := Lib.hid (thenBelow B1.out hb2)
  have X2 : Hid (w2.rangeAt g3 0 x.cells) := Lib.hid (by simpa using range_of_block h3)
  have SW := Lib.hid (S2.out.whole)
  clear h3 hb2 S1
  go_wp2_with (refine wpList_gload rfl _ rfl g2 0 rfl _ SW.out _ Tryd.underlying26 rfl (sizeStl _ _) ?_)
  refine (smallS_is F p c L w2 (HW.out.below B2.out)).mono ?_
  rintro e w3 ⟨b9, rfl, hb9, hb3⟩
  have S3 := Lib.hid (S2.out.later hb3); have B3 := Lib.hid (thenBelow B2.out hb3); have X3 := Lib.hid (range_below X2.out hb3)
  clear hb3 S2 X2 SW
  cases b9 with
  | false =>
    have AW := Lib.hid (awake12 w3 (HT.out.below B3.out))
    clear hb9
    go_wp2_with fail
    refine AW.out.mono ?_
    rintro e w7 ⟨rfl, hb7⟩
    have B7 := Lib.hid (thenBelow B3.out hb7)
    clear hb7 AW
    go_wp2
    go_ret
    exact ⟨rfl, B7.out⟩
  | true =>
  have SM : Hid (L.length ≤ 120) := Lib.hid (hb9 rfl)
  clear hb9
  have ba := below_alloc w3 (.cells x.cells.toArray 31)
  have na := heap_alloc_new w3 (.cells x.cells.toArray 31)
  have bb := below_alloc (w3.alloc (.cells x.cells.toArray 31)) (.cells #[.slice (some ⟨w3.heap.size, 0, none⟩) 1 1] 34)
  have nb := heap_alloc_new (w3.alloc (.cells x.cells.toArray 31)) (.cells #[.slice (some ⟨w3.heap.size, 0, none⟩) 1 1] 34)
  have B5 := Lib.hid (thenBelow B3.out (thenBelow ba bb))
  have S5 := Lib.hid (S3.out.later (thenBelow ba bb))
  have X5 := Lib.hid (range_below X3.out (thenBelow ba bb))
  have hn5 : ((w3.alloc (.cells x.cells.toArray 31)).alloc (.cells #[.slice (some ⟨w3.heap.size, 0, none⟩) 1 1] 34)).heap[w3.heap.size + 1]? = some (.cells #[.slice (some ⟨w3.heap.size, 0, none⟩) 1 1] 34 (0, 0)) := by simpa [World.size_alloc] using nb
  have ha5 := (bb.block _ (Array.getElem?_eq_some_iff.1 na).1).trans na
  have EX5 : EvsAt ((w3.alloc (.cells x.cells.toArray 31)).alloc (.cells #[.slice (some ⟨w3.heap.size, 0, none⟩) 1 1] 34)) (some ⟨w3.heap.size, 0, none⟩) [x] := evs_one ⟨HX.out.1.below B5.out, HX.out.2⟩ (by simpa using range_of_block ha5)
  have FW : Hid (Calls Tryd.prog 6 #[.slice (some ⟨w3.heap.size + 1, 0, none⟩) 1 1] ((w3.alloc (.cells x.cells.toArray 31)).alloc (.cells #[.slice (some ⟨w3.heap.size, 0, none⟩) 1 1] 34)) (FewR ((w3.alloc (.cells x.cells.toArray 31)).alloc (.cells #[.slice (some ⟨w3.heap.size, 0, none⟩) 1 1] 34)) [⟨some ⟨w3.heap.size, 0, none⟩, 1, [x]⟩])) :=
    Lib.hid (fewE_is (w3.heap.size + 1) 1 [⟨some ⟨w3.heap.size, 0, none⟩, 1, [x]⟩] _ (fun i hi => by
      have hi2 : i < 1 := hi
      match i, hi2 with
      | 0, _ => exact ⟨(cell_of_row _ _ 0 _ _ _ hn5).trans rfl, EX5⟩) (by simp))
  clear ba na bb nb hn5 ha5 EX5
  obtain ⟨k0, k1, k2, k3, k4, k5, k6, k7⟩ := ev_cells X3.out
  obtain ⟨FS, hFS⟩ : ∃ X, apSeen F x.e = X := ⟨_, rfl⟩
  obtain ⟨LL, hLL⟩ : ∃ X, apLive F L x.e = X := ⟨_, rfl⟩
  obtain ⟨X, hX⟩ : ∃ X, chk x.e = X := ⟨_, rfl⟩
  have AP : Hid (∀ V : World, Below W.heap.size W V → x.e.gone.length ≤ 1000 → Calls Tryd.prog 9 #[.agg (scs F (.slice p L.length c)), .agg x.cells.toArray] V (StR V FS LL X)) := Lib.hid fun V hV hg => by
    rw [← hFS, ← hLL, ← hX]
    exact apply_is F p c L x V (HW.out.below hV) HO.out (Nat.le_trans SM.out (by omega)) ⟨HX.out.1.below hV, HX.out.2⟩ (HT.out.below hV) hg
  have AR : Hid (∀ V : World, Below W.heap.size W V → x.e.gone.length ≤ 1000 → Calls Tryd.prog 10 #[.agg (scs F (.slice p L.length c)), .agg x.cells.toArray] V (StV V FS LL X)) := Lib.hid fun V hV hg => by
    rw [← hFS, ← hLL, ← hX]
    exact refApply_is F p c L x V (HW.out.below hV) HO.out (Nat.le_trans SM.out (by omega)) ⟨HX.out.1.below hV, HX.out.2⟩ hg
  have CN : Hid (CanP F L → X = 0 → canB FS LL = true) := Lib.hid fun hc h0 => by
    rw [← hFS, ← hLL]
    exact can_iff.2 (apply_can x.e hc (Nat.le_trans SM.out (by omega)) (by rw [hX, h0]))
  have LN : Hid (LL.length ≤ 200) := Lib.hid (by
    rw [← hLL]
    unfold apLive
    have := SM.out
    split
    · omega
    · have h1 := List.length_filter_le (fun y : Wr => !decide (y.dot ∈ x.e.gone)) L
      split
      · unfold insW leftOf
        rw [insAt_len _ _ _ (posW_le _ _)]
        omega
      · unfold leftOf; omega)
  clear hFS hLL hX
  obtain ⟨x0, hx0⟩ : ∃ x0, x = x0 := ⟨_, rfl⟩
  rw [hx0] at X5 AP AR
  have HX0 := Lib.hid hx0
  clear hx0 X3 HX
  obtain ⟨⟨r, n, t, kd, dc, fl, tx, gn⟩, gp, gc⟩ := x
  simp only [EvP.cells] at B5 S5 FW k0 k1 k2 k3 k4 k5 k6 k7 ⊢
  simp only [Nat.zero_add] at k0 k1 k2 k3 k4 k5 k6 k7
  have X5' := X5
  clear X5
  have X5 : Hid (((w3.alloc (.cells #[.int .i64 r, .int .i64 n, .int .i64 t, .int .i64 kd, .string dc, .int .i64 fl, .string tx, .slice gp gn.length gc] 31)).alloc (.cells #[.slice (some ⟨w3.heap.size, 0, none⟩) 1 1] 34)).rangeAt g3 0 [.int .i64 r, .int .i64 n, .int .i64 t, .int .i64 kd, .string dc, .int .i64 fl, .string tx, .slice gp gn.length gc]) := by rw [← HX0.out] at X5'; exact X5'
  have AP' : Hid (∀ V : World, Below W.heap.size W V → gn.length ≤ 1000 → Calls Tryd.prog 9 #[.agg (scs F (.slice p L.length c)), .agg #[.int .i64 r, .int .i64 n, .int .i64 t, .int .i64 kd, .string dc, .int .i64 fl, .string tx, .slice gp gn.length gc]] V (StR V FS LL X)) := by rw [← HX0.out] at AP; exact AP
  have AR' : Hid (∀ V : World, Below W.heap.size W V → gn.length ≤ 1000 → Calls Tryd.prog 10 #[.agg (scs F (.slice p L.length c)), .agg #[.int .i64 r, .int .i64 n, .int .i64 t, .int .i64 kd, .string dc, .int .i64 fl, .string tx, .slice gp gn.length gc]] V (StV V FS LL X)) := by rw [← HX0.out] at AR; exact AR
  have SZ : (Tryd.prog.info? 31).map (·.size) = some [Value.int .i64 r, .int .i64 n, .int .i64 t, .int .i64 kd, .string dc, .int .i64 fl, .string tx, .slice gp gn.length gc].length := by kernel_rfl
  clear X5' AP AR HX0
  go_wp2_with fail
  generalize (w3.alloc (.cells #[.int .i64 r, .int .i64 n, .int .i64 t, .int .i64 kd, .string dc, .int .i64 fl, .string tx, .slice gp gn.length gc] 31)).alloc (.cells #[.slice (some ⟨w3.heap.size, 0, none⟩) 1 1] 34) = w5 at X5 B5 S5 FW ⊢
  refine FW.out.mono ?_
  rintro e w6 ⟨fw, rfl, hfw, hb6⟩
  have B6 := Lib.hid (thenBelow B5.out hb6); have X6 := Lib.hid (range_below X5.out hb6); have S6 := Lib.hid (S5.out.later hb6)
  clear FW hb6 X5 B5 S5 S3 k0 k1 k2 k3 k4 k5 k6 k7
  cases fw with
  | false =>
    have AW := Lib.hid (awake12 w6 (HT.out.below B6.out))
    clear hfw
    go_wp2_with fail
    refine AW.out.mono ?_
    rintro e w7 ⟨rfl, hb7⟩
    have B7 := Lib.hid (thenBelow B6.out hb7)
    clear hb7 AW
    go_wp2
    go_ret
    exact ⟨rfl, B7.out⟩
  | true =>
  have GN : Hid (gn.length ≤ 1000) := Lib.hid (by
    have h1 := (hfw rfl 0 (by simp)).2 ⟨⟨r, n, t, kd, dc, fl, tx, gn⟩, gp, gc⟩ (by simp)
    have h2 : gn.length ≤ 130 := h1
    omega)
  clear hfw
  have SW := Lib.hid (S6.out.whole)
  have CA := Lib.hid (refCan_is F p c L w6 (HW.out.below B6.out))
  go_wp2_with (refine wpList_gloadG (by rfl) _ rfl g2 0 rfl _ SW.out _ Tryd.underlying26 rfl (sizeStl _ _) ?_)
  refine CA.out.mono ?_
  rintro e w7 ⟨rfl, hb7⟩
  have B7 := Lib.hid (thenBelow B6.out hb7); have X7 := Lib.hid (range_below X6.out hb7); have S7 := Lib.hid (S6.out.later hb7)
  clear hb7 X6 B6 S6 SW CA
  cases hcan : canB F L with
  | false =>
    have AW := Lib.hid (awake12 w7 (HT.out.below B7.out))
    clear hcan
    go_wp2_with fail
    refine AW.out.mono ?_
    rintro e w8 ⟨rfl, hb8⟩
    have B8 := Lib.hid (thenBelow B7.out hb8)
    clear hb8 AW
    go_wp2
    go_ret
    exact ⟨rfl, B8.out⟩
  | true =>
  have CP : Hid (X = 0 → canB FS LL = true) := Lib.hid (CN.out (can_iff.1 hcan))
  clear hcan CN
  have SW := Lib.hid (S7.out.whole)
  have A1 := Lib.hid (AP'.out w7 B7.out GN.out)
  have A2 : Hid (∀ V : World, Below W.heap.size W V → Calls Tryd.prog 10 #[.agg (scs F (.slice p L.length c)), .agg #[.int .i64 r, .int .i64 n, .int .i64 t, .int .i64 kd, .string dc, .int .i64 fl, .string tx, .slice gp gn.length gc]] V (StV V FS LL X)) := Lib.hid fun V hV => AR'.out V hV GN.out
  clear AP' AR' GN SM
  go_wp2_with (first | refine wpList_gload rfl _ rfl g2 0 rfl _ SW.out _ Tryd.underlying26 rfl (sizeStl _ _) ?_ | refine wpList_gload rfl _ rfl g3 0 rfl _ X7.out _ Tryd.underlying31 rfl SZ ?_)
  refine A1.out.mono ?_
  rintro e w8 ⟨v8, rfl, o8, hb8⟩
  obtain ⟨p8, c8, hv8, _, wat8, _⟩ := own_wat o8
  subst hv8
  have B8 := Lib.hid (thenBelow B7.out hb8); have X8 := Lib.hid (range_below X7.out hb8); have S8 := Lib.hid (S7.out.later hb8); have W8 := Lib.hid wat8
  clear o8 hb8 wat8 A1 SW X7 S7 B7
  go_wp2_with (refine wpList_galloc _ zeroSt rfl rfl ?_)
  intro g5 w9 l5 h9 hb9
  have H9 := Lib.hid h9; have HB9 := Lib.hid hb9
  clear h9 hb9
  go_wp2_with (refine wpList_gstore rfl _ _ rfl g5 rfl (scs FS (.slice p8 LL.length c8)) rfl _ _ H9.out (sizeSt _ _) (by rw [scs_size, scs_size]) (scs_one FS rfl) ?_)
  intro w10 h10 g10
  have BW := Lib.hid (HB9.out.trans (grown_below g10 HB9.out.size l5))
  have B10 := Lib.hid (thenBelow B8.out BW.out); have X10 := Lib.hid (range_below X8.out BW.out); have S10 := Lib.hid (S8.out.later BW.out); have W10 := Lib.hid (W8.out.below BW.out)
  have Y10 : Hid (Sx w10 g5 FS (.slice p8 LL.length c8)) := Lib.hid h10
  have SW := Lib.hid (S10.out.whole)
  clear h10 g10 H9 HB9 BW B8 X8 S8 W8
  go_wp2_with (first | refine wpList_gload rfl _ rfl g2 0 rfl _ SW.out _ Tryd.underlying26 rfl (sizeStl _ _) ?_ | refine wpList_gload rfl _ rfl g3 0 rfl _ X10.out _ Tryd.underlying31 rfl SZ ?_)
  refine (A2.out w10 B10.out).mono ?_
  rintro e w11 ⟨p11, c11, rfl, wat11, _, hb11⟩
  have B11 := Lib.hid (thenBelow B10.out hb11); have Y11 := Lib.hid (Y10.out.later hb11); have W11 := Lib.hid (W10.out.below hb11); have V11 := Lib.hid wat11
  clear hb11 wat11 A2 SW X10 S10 B10 Y10 W10
  go_wp2_with (refine wpList_galloc _ zeroSt rfl rfl ?_)
  intro g7 w12 l7 h12 hb12
  have H12 := Lib.hid h12; have HB12 := Lib.hid hb12
  clear h12 hb12
  go_wp2_with (refine wpList_gstore rfl _ _ rfl g7 rfl (scs FS (.slice p11 LL.length c11)) rfl _ _ H12.out (sizeSt _ _) (by rw [scs_size, scs_size]) (scs_one FS rfl) ?_)
  intro w13 h13 g13
  have BW := Lib.hid (HB12.out.trans (grown_below g13 HB12.out.size l7))
  have M0 : Hid (Sx w13 g5 FS (.slice p8 LL.length c8) ∧ Sx w13 g7 FS (.slice p11 LL.length c11) ∧ WrsAt w13 p8 LL ∧ WrsAt w13 p11 LL ∧ Below W.heap.size W w13) :=
    Lib.hid ⟨Y11.out.later BW.out, h13, W11.out.below BW.out, V11.out.below BW.out, thenBelow B11.out BW.out⟩
  clear h13 g13 H12 HB12 BW B11 Y11 W11 V11
  have SAM : Hid (∀ U : World, WrsAt U p8 LL → WrsAt U p11 LL → Calls Tryd.prog 11 #[.agg (scs FS (.slice p8 LL.length c8)), .agg (scs FS (.slice p11 LL.length c11))] U (Yes U)) := Lib.hid fun U h1 h2 => sameS_is FS FS (veq_self FS) p8 p11 c8 c11 LL U h1 h2 (Nat.le_trans LN.out (by omega))
  have P5 := Lib.hid (M0.out.1.whole); have P7 := Lib.hid (M0.out.2.1.whole)
  go_wp2_with (first | refine wpList_gload rfl _ rfl g5 0 rfl _ P5.out _ Tryd.underlying26 rfl (sizeStl _ _) ?_ | refine wpList_gload rfl _ rfl g7 0 rfl _ P7.out _ Tryd.underlying26 rfl (sizeStl _ _) ?_)
  refine (SAM.out w13 M0.out.2.2.1 M0.out.2.2.2.1).mono ?_
  rintro e w14 ⟨rfl, hb14⟩
  have P5' := Lib.hid (range_below P5.out hb14); have W14 := Lib.hid (M0.out.2.2.1.below hb14); have B14 := Lib.hid (thenBelow M0.out.2.2.2.2 hb14)
  clear hb14 SAM P5 P7 M0
  by_cases hX0 : X = 0
  · subst hX0
    have CA : Hid (Calls Tryd.prog 7 #[.agg (scs FS (.slice p8 LL.length c8))] w14 (RetBool w14 true)) := Lib.hid (by rw [← CP.out rfl]; exact refCan_is FS p8 c8 LL w14 W14.out)
    go_wp2_with (refine wpList_gloadG (by rfl) _ rfl g5 0 rfl _ P5'.out _ Tryd.underlying26 rfl (sizeStl _ _) ?_)
    refine CA.out.mono ?_
    rintro e w15 ⟨rfl, hb15⟩
    have B15 := Lib.hid (thenBelow B14.out hb15)
    clear hb15 CA P5' W14 B14
    have AW := Lib.hid (awake12 w15 (HT.out.below B15.out))
    go_wp2_with fail
    refine AW.out.mono ?_
    rintro e w16 ⟨rfl, hb16⟩
    have B16 := Lib.hid (thenBelow B15.out hb16)
    clear hb16 AW
    go_wp2
    go_ret
    exact ⟨rfl, B16.out⟩
  · have hXn : (X != 0) = true := by simpa using hX0
    clear hX0
    have AW := Lib.hid (awake12 w14 (HT.out.below B14.out))
    go_wp2_with fail
    refine AW.out.mono ?_
    rintro e w16 ⟨rfl, hb16⟩
    have B16 := Lib.hid (thenBelow B14.out hb16)
    clear hb16 AW
    go_wp2
    go_ret
    exact ⟨rfl, B16.out⟩
end Go.Proofs.YtjmglgcifekhgaaDoor
