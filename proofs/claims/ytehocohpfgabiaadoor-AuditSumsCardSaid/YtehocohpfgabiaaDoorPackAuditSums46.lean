/- The statement AuditSums, proved for every input that its row reads: part 46 of 54. -/
import Derived.Test.YtehocohpfgabiaaDoorPackAuditSums28
import Derived.Deep.CutBlock
import Derived.Deep.DeepCutAuto
/- The document's Oldest. -/
namespace Go.Proofs.YtehocohpfgabiaaDoor
open Go Go.RowKit
set_option linter.unusedVariables false
set_option maxRecDepth 1000000

theorem bst_zero (E : List EvP) (x : EvP) : bst E 0 x = x := rfl
theorem oldB_is (a b : Ev) : oldB a b = (decide (a.time < b.time) || (decide (a.time = b.time) && lessD a.rep a.n b.rep b.n)) := rfl
set_option maxHeartbeats 400000 in
theorem refOldest_is (p : Option Addr) (c : Nat) (E : List EvP) (fl : Nat → Int) (w : World) (h : EvsAt w p E) (hn : E.length ≤ 10000) :
    Calls Tryd.prog 10 #[.agg (pcs (.slice p E.length c) fl)] w (OldR w (oldD E)) := by
  have HE := Lib.hid h
  clear h
  have LS := Lib.hid (fun (r n r' n' : Int) (V : World) => less_is r n r' n' V)
  go_enter Tryd.func10, Tryd.ntmps10
  go_wp2_with (refine wpList_gbox rfl _ rfl (pcs (.slice p E.length c) fl) rfl ?_)
  intro g1 w1 l1 h1 hb1
  have P1 : Hid (Px w1 g1 (.slice p E.length c) fl) := Lib.hid h1
  have B1 := Lib.hid hb1
  clear h1 hb1
  go_wp2_with (refine wpList_galloc _ zeroDtA rfl rfl ?_)
  intro g2 w2 l2 h2 hb2
  have P2 := Lib.hid (P1.out.later hb2); have B2 := Lib.hid (thenBelow B1.out hb2)
  have D2 : Hid (w2.heap[g2]? = some (.cells (dcs 0 0) 39 (0, 0))) := Lib.hid h2
  have lW := Nat.le_trans B1.out.size l2
  have h12 : g1 < g2 := Nat.lt_of_lt_of_le P1.out.lt l2
  clear h2 hb2 P1 B1
  have k0 := P2.out.slot
  rcases Nat.eq_zero_or_pos E.length with h0 | h0
  · obtain rfl : E = [] := List.eq_nil_of_length_eq_zero h0
    have BD := Lib.hid builtDtA
    clear h0
    go_wp2_with (first | refine wpList_pbuild (by rfl) _ rfl (dcs 0 0) (by simp only [List.map_toArray, List.map_nil]; exact BD.out _) ?_ | refine wpList_gstore rfl _ _ rfl g2 rfl (dcs 0 0) rfl _ _ D2.out (sizeDtA 0 0) rfl (dcs_one 0 0) ?_)
    intro w3 h3 gr3
    have D3 := Lib.hid h3; have B3 := Lib.hid (B2.out.trans (grown_below gr3 B2.out.size lW))
    clear h3 gr3
    go_wp2
    exact bodyPost_ret (v := .tuple #[.agg (dcs 0 0), .bool false]) (results_cell_two (p := 2) (q := 3) rfl _ _ g2 _ _ (0, 0) _ rfl D3.out Tryd.underlying39 rfl (sizeDtA 0 0) (.bool false) rfl) rfl ⟨rfl, B3.out⟩
  · have hne : ¬ ((E.length : Int) = 0) := by omega
    have h0' : (0 : Int) < E.length := by omega
    have HZ := Lib.hid (oldD_pos E h0)
    obtain ⟨b, o, rfl, hlt, hq⟩ := (HE.out.below B2.out).at h0
    obtain ⟨x0, hx0⟩ : ∃ x0, E[0] = x0 := ⟨_, rfl⟩
    rw [hx0] at hq HZ
    rw [Nat.zero_mul, Nat.add_zero] at hq
    have HQ := Lib.hid hq
    clear hx0 hq
    go_wp2_with (first | refine wpList_gload (t := 48) rfl _ rfl b o rfl _ HQ.out _ Tryd.underlying48 rfl (sizeEvA x0) ?_ | refine wpList_galloc (t := 48) _ zeroEvA rfl rfl ?_)
    intro g4 w4 l4 h4 hb4
    have B4 := Lib.hid (thenBelow B2.out hb4); have D4 := Lib.hid ((hb4.block g2 (Array.getElem?_eq_some_iff.1 D2.out).1).trans D2.out); have E4 := Lib.hid h4; have P4 := Lib.hid (P2.out.later hb4)
    have h24 : g2 < g4 := Nat.lt_of_lt_of_le (Array.getElem?_eq_some_iff.1 D2.out).1 l4
    have l4W := Nat.le_trans B2.out.size l4
    clear h4 hb4 B2 D2 P2 k0 HQ
    go_wp2_with (refine wpList_gstore rfl _ _ rfl g4 rfl x0.cells.toArray rfl _ _ E4.out (by rw [List.size_toArray]; exact sizeEvA x0) rfl (fun v hv => x0.cells_one v (by simpa using hv)) ?_)
    intro w5 h5 gr5
    have B5 := Lib.hid (B4.out.trans (grown_below gr5 B4.out.size l4W)); have D5 := Lib.hid ((gr5.block g2 (Array.getElem?_eq_some_iff.1 D4.out).1 (by simp; omega)).trans D4.out); have P5 := Lib.hid (P4.out.kept gr5 (by simp; omega)); have E5 := Lib.hid h5
    have k0 := P5.out.slot
    clear h5 gr5 B4 D4 E4 P4 P5
    go_wp2
    clear k0
    go_loopw [19] (fun i wr => ∃ k : Nat, k ≤ E.length ∧ i = .int .i64 k ∧ wr.heap[g4]? = some (.cells (bst E k x0).cells.toArray 48 (0, 0)) ∧ wr.heap[g2]? = some (.cells (dcs 0 0) 39 (0, 0)) ∧ Below w.heap.size w wr) (fun i _ => E.length - (RowKit.intOf i).toNat)
    case atStart => exact ⟨0, Nat.zero_le _, rfl, E5.out, D5.out, B5.out⟩
    case round =>
      obtain ⟨k, hk, rfl, p5, p4, hb⟩ := hrel
      clear E5 D5 B5
      have P3 := Lib.hid p5; have R3 := Lib.hid p4; have B3 := Lib.hid hb
      clear p5 p4 hb
      by_cases hkl : k < E.length
      · have hkl' : (k : Int) < E.length := by omega
        have BS := Lib.hid (bst_succ E k x0 hkl)
        obtain ⟨b', o', e', hlt', hq⟩ := (HE.out.below B3.out).at hkl
        injection e' with e'
        injection e' with e1 e2 _
        subst e1; subst e2
        obtain ⟨y, hy⟩ : ∃ y, E[k] = y := ⟨_, rfl⟩
        obtain ⟨z, hz⟩ : ∃ z, bst E k x0 = z := ⟨_, rfl⟩
        rw [hy] at hq BS
        rw [hz] at BS P3
        have HQ := Lib.hid hq
        clear hy hz hq
        go_wp2_with (first | refine wpList_gload (t := 48) rfl _ rfl b (o + k * 8) rfl _ HQ.out _ Tryd.underlying48 rfl (sizeEvA y) ?_ | refine wpList_galloc (t := 48) _ zeroEvA rfl rfl ?_)
        intro g6 w6 l6 h6 hb6
        have z6 := (Array.getElem?_eq_some_iff.1 P3.out).1
        have z2 := (Array.getElem?_eq_some_iff.1 R3.out).1
        have B6 := Lib.hid (thenBelow B3.out hb6); have R6 := Lib.hid ((hb6.block g2 z2).trans R3.out); have P6 := Lib.hid ((hb6.block g4 z6).trans P3.out); have E6 := Lib.hid h6
        have h46 : g4 < g6 := Nat.lt_of_lt_of_le z6 l6
        have l6W := Nat.le_trans B3.out.size l6
        clear h6 hb6 B3 R3 P3 HQ z6 z2
        go_wp2_with (refine wpList_gstore (t := 48) rfl _ _ rfl g6 rfl y.cells.toArray rfl _ _ E6.out (by rw [List.size_toArray]; exact sizeEvA y) rfl (fun v hv => y.cells_one v (by simpa using hv)) ?_)
        intro w7 h7 gr7
        have B7 := Lib.hid (B6.out.trans (grown_below gr7 B6.out.size l6W)); have R7 := Lib.hid ((gr7.block g2 (Array.getElem?_eq_some_iff.1 R6.out).1 (by simp; omega)).trans R6.out); have P7 := Lib.hid ((gr7.block g4 (Array.getElem?_eq_some_iff.1 P6.out).1 (by simp; omega)).trans P6.out); have E7 := Lib.hid h7
        have Q7 : Hid (w7.rangeAt g6 0 (dcs y.e.rep y.e.n).toList ∧ w7.cell? ⟨g6, 2, none⟩ = some (.int .i64 y.e.time) ∧ w7.rangeAt g4 0 (dcs z.e.rep z.e.n).toList ∧ w7.cell? ⟨g4, 2, none⟩ = some (.int .i64 z.e.time)) := Lib.hid ⟨fun j u hu => by
          have h := range_of_block h7
          match j, hu with
          | 0, hu => exact h 0 u hu
          | 1, hu => exact h 1 u hu, by have h := range_of_block h7; exact h 2 _ rfl, fun j u hu => by
          have h := range_of_block P7.out
          match j, hu with
          | 0, hu => exact h 0 u hu
          | 1, hu => exact h 1 u hu, by have h := range_of_block P7.out; exact h 2 _ rfl⟩
        have YC : Hid (∀ V : World, V.heap[g6]? = some (.cells y.cells.toArray 48 (0, 0)) → V.rangeAt g6 0 y.cells) := Lib.hid fun V h => range_of_block h
        clear h7 gr7 B6 R6 P6 E6
        obtain ⟨yr, hyr⟩ : ∃ x, y.e.rep = x := ⟨_, rfl⟩
        obtain ⟨yn, hyn⟩ : ∃ x, y.e.n = x := ⟨_, rfl⟩
        obtain ⟨yt, hyt⟩ : ∃ x, y.e.time = x := ⟨_, rfl⟩
        obtain ⟨zr, hzr⟩ : ∃ x, z.e.rep = x := ⟨_, rfl⟩
        obtain ⟨zn, hzn⟩ : ∃ x, z.e.n = x := ⟨_, rfl⟩
        obtain ⟨zt, hzt⟩ : ∃ x, z.e.time = x := ⟨_, rfl⟩
        have OB := Lib.hid (oldB_is y.e z.e)
        rw [hyr, hyn, hyt, hzr, hzn, hzt] at OB
        rw [hyr, hyn, hyt, hzr, hzn, hzt] at Q7
        clear hyr hyn hyt hzr hzn hzt
        obtain ⟨q0, q1, q2, q3⟩ := Q7.out
        have Q6 := Lib.hid q0; have Q4 := Lib.hid q2
        clear q0 q2 Q7
        have YES : Hid (oldB y.e z.e = true → bst E (k + 1) x0 = y) := Lib.hid fun h => by rw [BS.out]; unfold oldP; rw [if_pos h]
        have NO : Hid (oldB y.e z.e = false → bst E (k + 1) x0 = z) := Lib.hid fun h => by rw [BS.out]; unfold oldP; rw [if_neg (by rw [h]; decide)]
        clear BS
        have LE := Lib.hid (LS.out yr yn zr zn w7)
        generalize oldB y.e z.e = B at OB YES NO
        obtain ⟨lb, hlb⟩ : ∃ lb, lessD yr yn zr zn = lb := ⟨_, rfl⟩
        rw [hlb] at OB LE
        clear hlb
        by_cases ht : yt < zt
        · have BE : Hid (bst E (k + 1) x0 = y) := Lib.hid (YES.out (by rw [OB.out, decide_eq_true ht]; rfl))
          have YC7 := Lib.hid (YC.out _ E7.out)
          clear YES NO OB LE LS Q6 Q4 E7
          go_upto_region 8 with fail
          go_wp2_with (first | refine wpList_gload (t := 48) rfl _ rfl g6 0 rfl _ YC7.out _ Tryd.underlying48 rfl (sizeEvA y) ?_ | refine wpList_gstore (t := 48) rfl _ _ rfl g4 rfl y.cells.toArray rfl _ _ P7.out (by rw [List.size_toArray]; exact sizeEvA y) rfl (fun v hv => y.cells_one v (by simpa using hv)) ?_)
          intro w8 h8 gr8
          have P8 := Lib.hid h8; have B8 := Lib.hid (B7.out.trans (grown_below gr8 B7.out.size l4W)); have R8 := Lib.hid ((gr8.block g2 (Array.getElem?_eq_some_iff.1 R7.out).1 (by simp; omega)).trans R7.out)
          clear h8 gr8 B7 R7 P7
          go_wp2
          go_roundw
          case rel => exact ⟨k + 1, by omega, by go_num, by rw [BE.out]; exact P8.out, R8.out, B8.out⟩
          case measure => simp [intOf]; omega
        · by_cases hq : yt = zt
          · subst hq
            have SZD : ∀ z1 z2 : Int, (Tryd.prog.info? 39).map (·.size) = some (dcs z1 z2).toList.length := fun z1 z2 => by kernel_rfl
            go_wp2_with (first | refine wpList_gloadG (t := 39) (by rfl) _ rfl g6 0 rfl _ Q6.out _ Tryd.underlying39 rfl (SZD yr yn) ?_ | refine wpList_gloadG (t := 39) (by rfl) _ rfl g4 0 rfl _ Q4.out _ Tryd.underlying39 rfl (SZD zr zn) ?_)
            refine LE.out.mono ?_
            rintro e w8 ⟨rfl, hb8⟩
            have B8 := Lib.hid (thenBelow B7.out hb8); have R8 := Lib.hid ((hb8.block g2 (Array.getElem?_eq_some_iff.1 R7.out).1).trans R7.out); have P8 := Lib.hid ((hb8.block g4 (Array.getElem?_eq_some_iff.1 P7.out).1).trans P7.out); have E8 := Lib.hid ((hb8.block g6 (Array.getElem?_eq_some_iff.1 E7.out).1).trans E7.out)
            clear hb8 B7 R7 P7 E7 LE LS Q6 Q4 q1 q3 SZD
            cases lb with
            | true =>
              have BE : Hid (bst E (k + 1) x0 = y) := Lib.hid (YES.out (by rw [OB.out]; simp))
              have YC8 := Lib.hid (YC.out _ E8.out)
              clear YES NO OB ht E8
              go_upto_region 8 with fail
              go_wp2_with (first | refine wpList_gload (t := 48) rfl _ rfl g6 0 rfl _ YC8.out _ Tryd.underlying48 rfl (sizeEvA y) ?_ | refine wpList_gstore (t := 48) rfl _ _ rfl g4 rfl y.cells.toArray rfl _ _ P8.out (by rw [List.size_toArray]; exact sizeEvA y) rfl (fun v hv => y.cells_one v (by simpa using hv)) ?_)
              intro w9 h9 gr9
              have P9 := Lib.hid h9; have B9 := Lib.hid (B8.out.trans (grown_below gr9 B8.out.size l4W)); have R9 := Lib.hid ((gr9.block g2 (Array.getElem?_eq_some_iff.1 R8.out).1 (by simp; omega)).trans R8.out)
              clear h9 gr9 B8 R8 P8
              go_wp2
              go_roundw
              case rel => exact ⟨k + 1, by omega, by go_num, by rw [BE.out]; exact P9.out, R9.out, B9.out⟩
              case measure => simp [intOf]; omega
            | false =>
              have BE : Hid (bst E (k + 1) x0 = z) := Lib.hid (NO.out (by rw [OB.out]; simp))
              clear YES NO OB ht
              go_wp2
              go_roundw
              case rel => exact ⟨k + 1, by omega, by go_num, by rw [BE.out]; exact P8.out, R8.out, B8.out⟩
              case measure => simp [intOf]; omega
          · have BE : Hid (bst E (k + 1) x0 = z) := Lib.hid (NO.out (by rw [OB.out]; simp [ht, hq]))
            have hq' : (yt == zt) = false := by simpa using hq
            clear YES NO OB LE LS
            go_wp2
            go_roundw
            case rel => exact ⟨k + 1, by omega, by go_num, by rw [BE.out]; exact P7.out, R7.out, B7.out⟩
            case measure => simp [intOf]; omega
      · obtain rfl : k = E.length := by omega
        have hkl' : ¬ ((E.length : Nat) : Int) < E.length := by omega
        obtain ⟨z, hz⟩ : ∃ z, bst E E.length x0 = z := ⟨_, rfl⟩
        rw [hz] at P3 HZ
        clear hz
        have R5 : Hid (wr.rangeAt g4 0 (dcs z.e.rep z.e.n).toList) := Lib.hid fun j u hu => by
          have h := range_of_block P3.out
          match j, hu with
          | 0, hu => exact h 0 u hu
          | 1, hu => exact h 1 u hu
        go_wp2_with (first | refine wpList_gload (t := 39) rfl _ rfl g4 0 rfl _ R5.out _ Tryd.underlying39 rfl (sizeDtA z.e.rep z.e.n) ?_ | refine wpList_gstore rfl _ _ rfl g2 rfl (dcs z.e.rep z.e.n) rfl _ _ R3.out (sizeDtA _ _) rfl (dcs_one _ _) ?_)
        intro w6 h6 gr6
        have B6 := Lib.hid (B3.out.trans (grown_below gr6 B3.out.size lW)); have D6 := Lib.hid h6
        clear h6 gr6
        go_wp2
        exact bodyPost_ret (v := .tuple #[.agg (dcs z.e.rep z.e.n), .bool true]) (results_cell_two (p := 2) (q := 3) rfl _ _ g2 _ _ (0, 0) _ rfl D6.out Tryd.underlying39 rfl (sizeDtA _ _) (.bool true) rfl) rfl ⟨by rw [HZ.out], B6.out⟩
end Go.Proofs.YtehocohpfgabiaaDoor
