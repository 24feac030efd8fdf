/- The walk of PastEvents. -/
import Derived.Test.YtffjbgbcaijlnaaDoorDcReadD
import Derived.Test.YtffjbgbcaijlnaaDoorPastSameA
import Derived.Test.YtffjbgbcaijlnaaDoorPastAwake
import Derived.Test.YtffjbgbcaijlnaaDoorVecRows
namespace Go.Proofs.YtffjbgbcaijlnaaDoor
open Go Go.RowKit
set_option linter.unusedVariables false
set_option maxRecDepth 1000000

theorem evB_pos (e : Ev) : 0 < (evB e).length := by
  unfold evB dotB
  simp only [List.length_append]
  have : 0 < (Cod.enc e.rep.toNat).length := by rw [Cod.enc_length]; omega
  omega
theorem range_under {w a b : World} {g o : Nat} {cs : List Value} (h : a.rangeAt g o cs) (hw : w.rangeAt g o cs) (hb : Below w.heap.size a b) : b.rangeAt g o cs := fun j v hv => by
  have hlt : g < w.heap.size := World.block_lt_of_cell? w _ (hw j v hv)
  rw [World.cell?_of_block (w := a) (hb.block g hlt)]
  exact h j v hv
set_option maxHeartbeats 8000000 in
theorem pastEvents_walk (x : EvP) (p : Option Addr) (c : Nat) (l : List UInt8) (W : World) (hx : x.Ok W) (h : Came W p c l) (hT : Shapes W) :
    Calls Tryd.prog 5 #[.agg x.cells.toArray, .slice p l.length c] W (Yes W) := by
  have hr := h.reach
  have hle := h.le
  have G : Hid (Given W p c l) := Lib.hid ⟨h.lies, h.le, h.none⟩
  have HX := Lib.hid hx; have HT := Lib.hid hT
  clear h hx hT
  have SZ := Lib.hid (sizeEv x)
  obtain ⟨E, hE⟩ : ∃ E, x.e = E := ⟨_, rfl⟩
  have XE := Lib.hid hE
  have PE : Hid (∀ V : World, Below W.heap.size W V → Calls Tryd.prog 20 #[.slice none 0 0, .agg x.cells.toArray] V (RetOwn V 5 (wrB E))) := Lib.hid fun V hV => by
    have := putEvent_is none 0 [] x V ⟨Lies.nil _ _, Nat.le_refl _, fun _ => ⟨rfl, rfl⟩⟩ ⟨HX.out.1.below hV, HX.out.2⟩ (HT.out.below hV) (by simp)
    rw [hE, List.nil_append] at this
    exact this
  clear hE
  go_enter Tryd.func5, Tryd.ntmps5
  go_wp2_with (refine wpList_gbox rfl _ rfl x.cells.toArray rfl ?_)
  intro g2 w3 l2 h2 hb3
  have B3 := Lib.hid hb3
  have X3 : Hid (w3.rangeAt g2 0 x.cells) := Lib.hid (by simpa using range_of_block h2)
  clear h2 hb3
  obtain ⟨k0, k1, k2, k3, k4, k5, k6, k7⟩ := ev_cells X3.out
  have ba := below_alloc w3 (.cells x.cells.toArray 26)
  have na := heap_alloc_new w3 (.cells x.cells.toArray 26)
  have bb := below_alloc (w3.alloc (.cells x.cells.toArray 26)) (.cells #[.slice (some ⟨w3.heap.size, 0, none⟩) 1 1] 28)
  have nb := heap_alloc_new (w3.alloc (.cells x.cells.toArray 26)) (.cells #[.slice (some ⟨w3.heap.size, 0, none⟩) 1 1] 28)
  have B5 := Lib.hid (thenBelow B3.out (thenBelow ba bb))
  have X5 := Lib.hid (range_below X3.out (thenBelow ba bb))
  have hn5 : ((w3.alloc (.cells x.cells.toArray 26)).alloc (.cells #[.slice (some ⟨w3.heap.size, 0, none⟩) 1 1] 28)).heap[w3.heap.size + 1]? = some (.cells #[.slice (some ⟨w3.heap.size, 0, none⟩) 1 1] 28 (0, 0)) := by simpa [World.size_alloc] using nb
  have ha5 := (bb.block _ (Array.getElem?_eq_some_iff.1 na).1).trans na
  have EX5 : EvsAt ((w3.alloc (.cells x.cells.toArray 26)).alloc (.cells #[.slice (some ⟨w3.heap.size, 0, none⟩) 1 1] 28)) (some ⟨w3.heap.size, 0, none⟩) [x] := evs_one ⟨HX.out.1.below B5.out, HX.out.2⟩ (by simpa using range_of_block ha5)
  have FW : Hid (Calls Tryd.prog 6 #[.slice (some ⟨w3.heap.size + 1, 0, none⟩) 1 1] ((w3.alloc (.cells x.cells.toArray 26)).alloc (.cells #[.slice (some ⟨w3.heap.size, 0, none⟩) 1 1] 28)) (FewR ((w3.alloc (.cells x.cells.toArray 26)).alloc (.cells #[.slice (some ⟨w3.heap.size, 0, none⟩) 1 1] 28)) [⟨some ⟨w3.heap.size, 0, none⟩, 1, [x]⟩])) :=
    Lib.hid (fewE_is (w3.heap.size + 1) 1 [⟨some ⟨w3.heap.size, 0, none⟩, 1, [x]⟩] _ (fun i hi => by
      have hi2 : i < 1 := hi
      match i, hi2 with
      | 0, _ => exact ⟨(cell_of_row _ _ 0 _ _ _ hn5).trans rfl, EX5⟩) (by simp))
  clear ba na bb nb hn5 ha5 EX5
  have OKX : Hid (∀ V : World, Below W.heap.size W V → x.Ok V) := Lib.hid fun V hV => ⟨HX.out.1.below hV, HX.out.2⟩
  obtain ⟨x0, hx0⟩ : ∃ x0, x = x0 := ⟨_, rfl⟩
  rw [hx0] at X3 X5 SZ PE OKX XE
  have HX0 := Lib.hid hx0
  clear hx0 X3 HX
  obtain ⟨⟨r, n, t, kd, dc, fl, tx, gn⟩, gp, gc⟩ := x
  simp only [EvP.cells] at B5 FW k0 k1 k2 k3 k4 k5 k6 k7 ⊢
  simp only [Nat.zero_add] at k0 k1 k2 k3 k4 k5 k6 k7
  have X5' := X5
  clear X5
  have X5 : Hid (((w3.alloc (.cells #[.int .i64 r, .int .i64 n, .int .i64 t, .int .i64 kd, .string dc, .int .i64 fl, .string tx, .slice gp gn.length gc] 26)).alloc (.cells #[.slice (some ⟨w3.heap.size, 0, none⟩) 1 1] 28)).rangeAt g2 0 x0.cells) := by rw [← HX0.out] at X5' ⊢; exact X5'
  clear X5'
  go_wp2_with fail
  generalize (w3.alloc (.cells #[.int .i64 r, .int .i64 n, .int .i64 t, .int .i64 kd, .string dc, .int .i64 fl, .string tx, .slice gp gn.length gc] 26)).alloc (.cells #[.slice (some ⟨w3.heap.size, 0, none⟩) 1 1] 28) = w5 at X5 B5 FW ⊢
  refine FW.out.mono ?_
  rintro e w6 ⟨fw, rfl, hfw, hb6⟩
  have B6 := Lib.hid (thenBelow B5.out hb6); have X6 := Lib.hid (range_below X5.out hb6)
  clear FW hb6 X5 B5 k0 k1 k2 k3 k4 k5 k6 k7
  cases fw with
  | false =>
    have AW := Lib.hid (awake13 w6)
    clear hfw
    go_wp2_with fail
    refine AW.out.mono ?_
    rintro e w7 ⟨rfl, hb7⟩
    have B7 := Lib.hid (thenBelow B6.out hb7)
    clear hb7 AW
    go_wp2
    go_ret
    exact ⟨rfl, B7.out⟩
  | true =>
    have hgn : gn.length ≤ 130 := by
      have h1 := (hfw (by first | exact rfl | trivial) 0 (by simp)).2
      exact h1 _ (List.mem_singleton.2 rfl)
    clear hfw
    go_wp2_with (refine wpList_gload rfl _ rfl g2 0 rfl _ X6.out _ Tryd.underlying26 rfl SZ.out ?_)
    refine (PE.out w6 B6.out).mono ?_
    intro e w7 hr7
    clear PE
    obtain ⟨L, hL⟩ : ∃ L, wrB E = L := ⟨_, rfl⟩
    rw [hL] at hr7
    have nL : L.length ≤ 3000 := by rw [← hL]; exact wrB_len E
    have HL := Lib.hid hL
    clear hL
    obtain ⟨v7, rfl, ho7, hb7⟩ := hr7
    have B7 := Lib.hid (thenBelow B6.out hb7); have X7 := Lib.hid (range_below X6.out hb7)
    have O7 := Lib.hid ho7; have S7 := Lib.hid hb7.size
    obtain ⟨-, p7, c7, rfl, _, _, lies7, none7⟩ := own_lies ho7
    clear hb7 ho7 lies7 none7
    by_cases hc : chk E = 0
    · have HLE : Hid (L = evB E) := Lib.hid (by rw [← HL.out]; unfold wrB; rw [if_pos hc])
      have h0 : 0 < L.length := by rw [HLE.out]; exact evB_pos E
      have HC := Lib.hid hc
      clear hc
      have h0' : ((L.length : Int) == 0) = false := beq_eq_false_iff_ne.2 (by omega)
      have g7 := Lib.hid (G.out.below B7.out)
      go_wp2_with (at_builtin; refine wpList_bytes isU8 _ rfl _ _ rfl w6.heap.size _ _ _ rfl O7.out p l.length c l rfl g7.out.lies rfl (fun e => ⟨by rw [(g7.out.none e).1]; rfl, (g7.out.none e).2⟩) (by omega) S7.out ?_)
      intro v8 w8 ho8 hb8
      obtain ⟨M, hM⟩ : ∃ M, L ++ l = M := ⟨_, rfl⟩
      have nM : M.length = L.length + l.length := by rw [← hM, List.length_append]
      have nM1 : M.length ≤ 140737488355328 := by omega
      have nM0 : 0 < M.length := by omega
      have nl : l.length ≤ 140737488351232 := by omega
      have HM := Lib.hid hM
      rw [hM] at ho8
      clear hM nM
      obtain ⟨-, p8, c8, rfl, le8, _, lies8, none8⟩ := own_lies ho8
      have B8 : Hid (Below W.heap.size W w8) := Lib.hid (B7.out.trans (hb8.mono B6.out.size))
      have X8 : Hid (w8.rangeAt g2 0 x0.cells) := Lib.hid (range_under X7.out (X6.out) hb8)
      have S8 : w6.heap.size ≤ w8.heap.size := Nat.le_trans S7.out hb8.size
      have G8 : Hid (Given w8 p8 c8 M) := Lib.hid ⟨lies8, le8, none8⟩
      clear ho8 hb8 le8 lies8 none8 h0'
      have RA := Lib.hid (read_any p8 c8 M w8 G8.out nM0 (by omega))
      have WS6 := Lib.hid B6.out.size
      clear nM1 nM0
      go_wp2_with fail
      refine RA.out.mono ?_
      rintro e w9 ⟨B, rfl, hB, r9, b9⟩
      rw [← HM.out, HLE.out] at r9
      have B9 := Lib.hid (thenBelow B8.out b9)
      have X9 := Lib.hid (range_below X8.out b9)
      have S9 : w6.heap.size ≤ B := Nat.le_trans S8 hB
      have Z9 := Lib.hid b9.size
      have RE := Lib.hid (readEvent_live B E l w9 r9 HC.out (fun w' hg => HT.out.below (B9.out.trans (grown_below hg B9.out.size (Nat.le_trans WS6.out S9)))) (by omega))
      clear RA r9 b9 hB
      go_wp2_with fail
      refine RE.out.mono ?_
      rintro e w10 ⟨y, hy, rfl, oky, r10, g10⟩
      have bb10 : Below w6.heap.size w9 w10 := grown_below g10 (Nat.le_trans S8 Z9.out) S9
      have X10 := Lib.hid (range_under X9.out X6.out bb10)
      have B10 : Hid (Below W.heap.size W w10) := Lib.hid (B9.out.trans (bb10.mono B6.out.size))
      have R10 := Lib.hid r10; have OY10 := Lib.hid oky; have Z10 := Lib.hid bb10.size
      clear RE bb10 r10 oky g10
      have hyE : y.e = x0.e := hy.trans XE.out.symm
      have HYE := Lib.hid hyE
      clear hy hyE
      have ZE : ∀ V : World, (zeroValue 26).run Tryd.prog V = .ok (.agg (EvP.cells ⟨⟨0, 0, 0, 0, ByteArray.empty, 0, ByteArray.empty, []⟩, none, 0⟩).toArray) V := fun V => by kernel_rfl
      go_wp2_with (refine wpList_galloc _ ZE rfl rfl ?_)
      intro g7 w11 l11 h11 hb11
      have B11 := Lib.hid (thenBelow B10.out hb11); have X11 := Lib.hid (range_below X10.out hb11); have R11 := Lib.hid (R10.out.on hb11)
      have BB11 := Lib.hid hb11; have H11 := Lib.hid h11
      clear hb11 h11 ZE
      go_wp2_with (refine wpList_gstore rfl _ _ rfl g7 rfl y.cells.toArray rfl _ _ H11.out (by rw [List.size_toArray]; exact sizeEv _) (by show 8 = _; rw [List.size_toArray, EvP.cells_len]) (fun v hv => EvP.cells_one _ v (by simpa using hv)) ?_)
      intro w12 h12 g12
      have b12 := grown_below g12 BB11.out.size l11
      have BY12 := Lib.hid (BB11.out.trans b12)
      have hl6 : w6.heap.size ≤ g7 := Nat.le_trans (Nat.le_trans (Nat.le_trans S8 Z9.out) Z10.out) l11
      have b12' := grown_below g12 (Nat.le_trans (Nat.le_trans (Nat.le_trans S8 Z9.out) (Nat.le_trans Z10.out BB11.out.size)) (Nat.le_refl _)) hl6
      have X12 : Hid (w12.rangeAt g2 0 x0.cells) := Lib.hid (range_under X11.out X6.out b12')
      have R12 : Hid (Rd w12 B l) := Lib.hid (R10.out.on BY12.out)
      have B12 := Lib.hid (thenBelow B10.out BY12.out)
      have OY12 := Lib.hid (OY10.out.below BY12.out)
      have Y12 : Hid (w12.rangeAt g7 0 y.cells) := Lib.hid (by simpa using range_of_block h12)
      have OX12 := Lib.hid (OKX.out w12 B12.out)
      clear h12 g12 b12 b12' H11 R10 R11 X10 X11
      obtain ⟨ye, yp, yc⟩ := y
      obtain ⟨rfl, hxe⟩ : ye = ⟨r, n, t, kd, dc, fl, tx, gn⟩ ∧ x0 = ⟨⟨r, n, t, kd, dc, fl, tx, gn⟩, gp, gc⟩ := by
        have h1 := HYE.out
        have h2 := HX0.out
        subst h2
        exact ⟨h1, rfl⟩
      subst hxe
      clear HYE HX0
      obtain ⟨k0, k1, k2, k3, k4, k5, k6, k7⟩ := ev_cells X12.out
      obtain ⟨y0, y1, y2, y3, y4, y5, y6, y7⟩ := ev_cells (range_below Y12.out (below_alloc w12 (.cells #[.int .i64 r, .int .i64 n, .int .i64 t, .int .i64 kd, .string dc, .int .i64 fl, .string tx, .slice gp gn.length gc] 26)))
      simp only [Nat.zero_add] at k0 k1 k2 k3 k4 k5 k6 k7 y0 y1 y2 y3 y4 y5 y6 y7
      have ba := below_alloc w12 (.cells #[.int .i64 r, .int .i64 n, .int .i64 t, .int .i64 kd, .string dc, .int .i64 fl, .string tx, .slice gp gn.length gc] 26)
      have na := heap_alloc_new w12 (.cells #[.int .i64 r, .int .i64 n, .int .i64 t, .int .i64 kd, .string dc, .int .i64 fl, .string tx, .slice gp gn.length gc] 26)
      have bb := below_alloc (w12.alloc (.cells #[.int .i64 r, .int .i64 n, .int .i64 t, .int .i64 kd, .string dc, .int .i64 fl, .string tx, .slice gp gn.length gc] 26)) (.cells #[.int .i64 r, .int .i64 n, .int .i64 t, .int .i64 kd, .string dc, .int .i64 fl, .string tx, .slice yp gn.length yc] 26)
      have nb := heap_alloc_new (w12.alloc (.cells #[.int .i64 r, .int .i64 n, .int .i64 t, .int .i64 kd, .string dc, .int .i64 fl, .string tx, .slice gp gn.length gc] 26)) (.cells #[.int .i64 r, .int .i64 n, .int .i64 t, .int .i64 kd, .string dc, .int .i64 fl, .string tx, .slice yp gn.length yc] 26)
      have ha := (bb.block _ (Array.getElem?_eq_some_iff.1 na).1).trans na
      have BAB := Lib.hid (thenBelow ba bb)
      have hb' : ((w12.alloc (.cells #[.int .i64 r, .int .i64 n, .int .i64 t, .int .i64 kd, .string dc, .int .i64 fl, .string tx, .slice gp gn.length gc] 26)).alloc (.cells #[.int .i64 r, .int .i64 n, .int .i64 t, .int .i64 kd, .string dc, .int .i64 fl, .string tx, .slice yp gn.length yc] 26)).heap[w12.heap.size + 1]? = some (Obj.cells #[.int .i64 r, .int .i64 n, .int .i64 t, .int .i64 kd, .string dc, .int .i64 fl, .string tx, .slice yp gn.length yc] 26 (0, 0)) := by simpa [World.size_alloc] using nb
      have EX : EvsAt ((w12.alloc (.cells #[.int .i64 r, .int .i64 n, .int .i64 t, .int .i64 kd, .string dc, .int .i64 fl, .string tx, .slice gp gn.length gc] 26)).alloc (.cells #[.int .i64 r, .int .i64 n, .int .i64 t, .int .i64 kd, .string dc, .int .i64 fl, .string tx, .slice yp gn.length yc] 26)) (some ⟨w12.heap.size, 0, none⟩) [⟨⟨r, n, t, kd, dc, fl, tx, gn⟩, gp, gc⟩] := evs_one (OX12.out.below BAB.out) (by simpa [EvP.cells] using range_of_block ha)
      have EY : EvsAt ((w12.alloc (.cells #[.int .i64 r, .int .i64 n, .int .i64 t, .int .i64 kd, .string dc, .int .i64 fl, .string tx, .slice gp gn.length gc] 26)).alloc (.cells #[.int .i64 r, .int .i64 n, .int .i64 t, .int .i64 kd, .string dc, .int .i64 fl, .string tx, .slice yp gn.length yc] 26)) (some ⟨w12.heap.size + 1, 0, none⟩) [⟨⟨r, n, t, kd, dc, fl, tx, gn⟩, yp, yc⟩] := evs_one (OY12.out.below BAB.out) (by simpa [EvP.cells] using range_of_block hb')
      have SE := Lib.hid (sameE_is (some ⟨w12.heap.size, 0, none⟩) 1 [⟨⟨r, n, t, kd, dc, fl, tx, gn⟩, gp, gc⟩] (some ⟨w12.heap.size + 1, 0, none⟩) 1 [⟨⟨r, n, t, kd, dc, fl, tx, gn⟩, yp, yc⟩] _ EX EY (by simp) (by simp) (fun z hz => by obtain rfl := List.mem_singleton.1 hz; simp only; omega) (fun z hz => by obtain rfl := List.mem_singleton.1 hz; simp only; omega))
      have ER := Lib.hid (err_live B l w12 R12.out); have LF := Lib.hid (left_live B l w12 R12.out)
      have BAB12 := Lib.hid (thenBelow B12.out BAB.out)
      clear ba na bb nb ha hb' EX EY
      go_wp2_with fail
      refine ER.out.mono ?_
      rintro e w13 ⟨rfl, rfl⟩
      go_wp2_with fail
      refine LF.out.mono ?_
      rintro e w14 ⟨rfl, rfl⟩
      go_wp2_with fail
      refine SE.out.mono ?_
      rintro e w15 ⟨b15, rfl, hb15, b16⟩
      have ht : b15 = true := hb15.2 (by rfl)
      subst ht
      have B15 := Lib.hid (thenBelow BAB12.out b16)
      have AW := Lib.hid (awake13 w15)
      clear hb15 b16 SE ER LF k0 k1 k2 k3 k4 k5 k6 k7 y0 y1 y2 y3 y4 y5 y6 y7
      go_wp2_with fail
      refine AW.out.mono ?_
      rintro e w16 ⟨rfl, hb16⟩
      have B16 := Lib.hid (thenBelow B15.out hb16)
      clear hb16 AW
      go_wp2
      go_ret
      exact ⟨rfl, B16.out⟩
    · have HLE : Hid (L = []) := Lib.hid (by rw [← HL.out]; unfold wrB; rw [if_neg hc])
      have h0 : L.length = 0 := by rw [HLE.out]; rfl
      have hL0 : L = [] := HLE.out
      subst hL0
      have AW := Lib.hid (awake13 w7)
      clear hc HL h0
      go_wp2_with fail
      refine AW.out.mono ?_
      rintro e w8 ⟨rfl, hb8⟩
      have B8 := Lib.hid (thenBelow B7.out hb8)
      clear hb8 AW
      go_wp2
      go_ret
      exact ⟨rfl, B8.out⟩
end Go.Proofs.YtffjbgbcaijlnaaDoor
