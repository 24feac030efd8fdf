/- The statement AuditSums, proved for every input that its row reads: part 45 of 54. -/
import Derived.Test.YtehocohpfgabiaaDoorPackAuditSums28
/- The document's Sums of one replica. -/
namespace Go.Proofs.YtehocohpfgabiaaDoor
open Go Go.RowKit
set_option linter.unusedVariables false
set_option maxRecDepth 1000000

theorem num_yes (l : List Dt) (r n : Int) (i : Nat) (h : vldB r n = true) (e : r = (i : Int)) : numD (l ++ [(r, n)]) i = numD l i + 1 := by rw [numD_snoc, if_pos ⟨h, e⟩]
theorem num_no (l : List Dt) (r n : Int) (i : Nat) (h : vldB r n = false) : numD (l ++ [(r, n)]) i = numD l i := by rw [numD_snoc, if_neg (fun q => by have := q.1; simp only at this; rw [h] at this; cases this)]
theorem num_off (l : List Dt) (r n : Int) (i : Nat) (e : r ≠ (i : Int)) : numD (l ++ [(r, n)]) i = numD l i := by rw [numD_snoc, if_neg (fun q => e q.2)]
def TwoI (w : World) (x y : Int) (e : Ending) (w' : World) : Prop := e = .returned (.tuple #[.int .i64 x, .int .i64 y]) ∧ Below w.heap.size w w'
set_option maxHeartbeats 4000000 in
theorem refSums_is (F : Nat → Int) (sp : Option Addr) (sc : Nat) (L : List Wr) (ep : Option Addr) (ec : Nat) (E : List EvP) (fl : Nat → Int) (i0 : Nat) (w : World) (hL : WrsAt w sp L) (hE : EvsAt w ep E) (hn : L.length ≤ 10000) (hm : E.length ≤ 10000) :
    Calls Tryd.prog 8 #[.agg (scs F (.slice sp L.length sc)), .agg (pcs (.slice ep E.length ec) fl), .int .i64 i0] w (TwoI w (numD (dotsW L) i0 : Nat) (numD (dotsE E) i0 : Nat)) := by
  have HW := Lib.hid hL; have HE := Lib.hid hE
  clear hL hE
  have VD := Lib.hid (fun (r n : Int) (V : World) => refValid_is r n V)
  go_enter Tryd.func8, Tryd.ntmps8
  go_wp2_with (refine wpList_gbox rfl _ rfl (scs F (.slice sp L.length sc)) rfl ?_)
  intro g2 w1 l2 h2 hb1
  have S1 : Hid (Sx w1 g2 F (.slice sp L.length sc)) := Lib.hid h2
  have B1 := Lib.hid hb1
  clear h2 hb1
  go_wp2_with (refine wpList_gbox rfl _ rfl (pcs (.slice ep E.length ec) fl) rfl ?_)
  intro g3 w2 l3 h3 hb2
  have P2 : Hid (Px w2 g3 (.slice ep E.length ec) fl) := Lib.hid h3
  have S2 := Lib.hid (S1.out.later hb2); have B2 := Lib.hid (thenBelow B1.out hb2)
  clear h3 hb2 S1 B1
  have k64 := S2.out.slot
  go_wp2
  clear k64 S2
  go_loopw [8, 17] (fun n i wr => ∃ k : Nat, k ≤ L.length ∧ n = .int .i64 (numD (dotsW (L.take k)) i0 : Nat) ∧ i = .int .i64 k ∧ Px wr g3 (.slice ep E.length ec) fl ∧ Below w.heap.size w wr) (fun _ i _ => L.length - (RowKit.intOf i).toNat)
  case atStart => exact ⟨0, Nat.zero_le _, rfl, rfl, P2.out, B2.out⟩
  case round =>
    obtain ⟨k, hk, rfl, rfl, pp, hb⟩ := hrel
    have PR := Lib.hid pp; have BR := Lib.hid hb
    clear pp hb P2 B2
    by_cases hkl : k < L.length
    · have hkl' : (k : Int) < L.length := by omega
      have TK := Lib.hid (dotsW_take L k hkl)
      have LE : Hid (numD (dotsW (L.take k)) i0 ≤ 10000) := Lib.hid (Nat.le_trans (numD_le _ _) (by rw [dotsW_len, List.length_take]; omega))
      obtain ⟨b, o, rfl, hlt, hq⟩ := (HW.out.below BR.out).at hkl
      obtain ⟨y, hy⟩ : ∃ y, L[k] = y := ⟨_, rfl⟩
      rw [hy] at hq TK
      obtain ⟨c0, c1, c2, c3, c4, c5⟩ := wr_cells hq
      clear hq hy
      obtain ⟨yr, yn, yt, yd, yf, ytx⟩ := y
      simp only at c0 c1 c2 c3 c4 c5 TK
      have ba := below_alloc wr (.cells #[.int .i64 yr, .int .i64 yn, .int .i64 yt, .string yd, .int .i64 yf, .string ytx] 44)
      have na := heap_alloc_new wr (.cells #[.int .i64 yr, .int .i64 yn, .int .i64 yt, .string yd, .int .i64 yf, .string ytx] 44)
      have R4 : (wr.alloc (.cells #[.int .i64 yr, .int .i64 yn, .int .i64 yt, .string yd, .int .i64 yf, .string ytx] 44)).rangeAt wr.heap.size 0 [.int .i64 yr, .int .i64 yn] := fun j u hu => by
        have h := range_of_block na
        match j, hu with
        | 0, hu => exact h 0 u hu
        | 1, hu => exact h 1 u hu
      have PA := Lib.hid (PR.out.later ba); have BA := Lib.hid (thenBelow BR.out ba); have DA := Lib.hid R4
      have SZD : (Tryd.prog.info? 39).map (·.size) = some [Value.int .i64 yr, .int .i64 yn].length := by kernel_rfl
      clear ba na R4 PR
      go_wp2_with (refine wpList_gload rfl _ rfl wr.heap.size 0 rfl _ DA.out _ Tryd.underlying39 rfl SZD ?_)
      refine (VD.out yr yn _).mono ?_
      rintro e w6 ⟨rfl, hb6⟩
      have P6 := Lib.hid (PA.out.later hb6); have B6 := Lib.hid (thenBelow BA.out hb6)
      have d0 : w6.cell? ⟨wr.heap.size, 0, none⟩ = some (.int .i64 yr) := range_below DA.out hb6 0 _ rfl
      clear hb6 PA BA DA SZD c0 c1 c2 c3 c4 c5
      generalize wr.heap.size = G at d0 ⊢
      obtain ⟨a, ha⟩ : ∃ a, numD (dotsW (L.take k)) i0 = a := ⟨_, rfl⟩
      have LEa : a ≤ 10000 := by rw [← ha]; exact LE.out
      cases hv : vldB yr yn with
      | false =>
        have NX : Hid (numD (dotsW (L.take (k + 1))) i0 = numD (dotsW (L.take k)) i0) := Lib.hid (by rw [TK.out]; exact num_no _ _ _ _ hv)
        clear d0 ha LEa LE TK hv
        go_wp2
        go_roundw
        case rel => exact ⟨k + 1, by omega, by rw [NX.out], by go_num, P6.out, B6.out⟩
        case measure => simp [intOf]; omega
      | true =>
        by_cases he : yr = (i0 : Int)
        · have NX : Hid (numD (dotsW (L.take (k + 1))) i0 = a + 1) := Lib.hid (by rw [TK.out, num_yes _ _ _ _ hv he, ha])
          subst he
          rw [ha]
          clear ha LE TK hv
          go_wp2
          go_roundw
          case rel => exact ⟨k + 1, by omega, by rw [NX.out]; go_num, by go_num, P6.out, B6.out⟩
          case measure => simp [intOf]; omega
        · have NX : Hid (numD (dotsW (L.take (k + 1))) i0 = numD (dotsW (L.take k)) i0) := Lib.hid (by rw [TK.out]; exact num_off _ _ _ _ he)
          clear ha LEa LE TK hv
          go_wp2
          go_roundw
          case rel => exact ⟨k + 1, by omega, by rw [NX.out], by go_num, P6.out, B6.out⟩
          case measure => simp [intOf]; omega
    · obtain rfl : k = L.length := by omega
      have hkl' : ¬ ((L.length : Nat) : Int) < L.length := by omega
      have k0 := PR.out.slot
      rw [List.take_length]
      obtain ⟨N, hN⟩ : ∃ N, numD (dotsW L) i0 = N := ⟨_, rfl⟩
      rw [hN]
      have HN := Lib.hid hN
      clear hN
      have BX := Lib.hid BR.out
      clear BR PR hk hkl hkl'
      go_wp2
      clear k0
      go_loopw [11, 37] (fun n i wr => ∃ k : Nat, k ≤ E.length ∧ n = .int .i64 (numD (dotsE (E.take k)) i0 : Nat) ∧ i = .int .i64 k ∧ Below w.heap.size w wr) (fun _ i _ => E.length - (RowKit.intOf i).toNat)
      case atStart => exact ⟨0, Nat.zero_le _, rfl, rfl, BX.out⟩
      case round =>
        obtain ⟨k, hk, rfl, rfl, hb⟩ := hrel
        have BR := Lib.hid hb
        clear hb BX
        by_cases hkl : k < E.length
        · have hkl' : (k : Int) < E.length := by omega
          have TK := Lib.hid (dotsE_take E k hkl)
          have LE : Hid (numD (dotsE (E.take k)) i0 ≤ 10000) := Lib.hid (Nat.le_trans (numD_le _ _) (by rw [dotsE_len, List.length_take]; omega))
          obtain ⟨b, o, rfl, hlt, hq⟩ := (HE.out.below BR.out).at hkl
          obtain ⟨y, hy⟩ : ∃ y, E[k] = y := ⟨_, rfl⟩
          rw [hy] at hq TK
          obtain ⟨c0, c1, c2, c3, c4, c5, c6, c7⟩ := ev_cells hq
          clear hq hy
          obtain ⟨⟨yr, yn, yt, yk, yd, yf, ytx, yg⟩, yp, yc⟩ := y
          simp only at c0 c1 c2 c3 c4 c5 c6 c7 TK
          have ba := below_alloc wr (.cells #[.int .i64 yr, .int .i64 yn, .int .i64 yt, .int .i64 yk, .string yd, .int .i64 yf, .string ytx, .slice yp yg.length yc] 48)
          have na := heap_alloc_new wr (.cells #[.int .i64 yr, .int .i64 yn, .int .i64 yt, .int .i64 yk, .string yd, .int .i64 yf, .string ytx, .slice yp yg.length yc] 48)
          have R4 : (wr.alloc (.cells #[.int .i64 yr, .int .i64 yn, .int .i64 yt, .int .i64 yk, .string yd, .int .i64 yf, .string ytx, .slice yp yg.length yc] 48)).rangeAt wr.heap.size 0 [.int .i64 yr, .int .i64 yn] := fun j u hu => by
            have h := range_of_block na
            match j, hu with
            | 0, hu => exact h 0 u hu
            | 1, hu => exact h 1 u hu
          have BA := Lib.hid (thenBelow BR.out ba); have DA := Lib.hid R4
          have SZD : (Tryd.prog.info? 39).map (·.size) = some [Value.int .i64 yr, .int .i64 yn].length := by kernel_rfl
          clear ba na R4
          go_wp2_with (refine wpList_gload rfl _ rfl wr.heap.size 0 rfl _ DA.out _ Tryd.underlying39 rfl SZD ?_)
          refine (VD.out yr yn _).mono ?_
          rintro e w6 ⟨rfl, hb6⟩
          have B6 := Lib.hid (thenBelow BA.out hb6)
          have d0 : w6.cell? ⟨wr.heap.size, 0, none⟩ = some (.int .i64 yr) := range_below DA.out hb6 0 _ rfl
          clear hb6 BA DA SZD c0 c1 c2 c3 c4 c5 c6 c7
          generalize wr.heap.size = G at d0 ⊢
          obtain ⟨a, ha⟩ : ∃ a, numD (dotsE (E.take k)) i0 = a := ⟨_, rfl⟩
          have LEa : a ≤ 10000 := by rw [← ha]; exact LE.out
          cases hv : vldB yr yn with
          | false =>
            have NX : Hid (numD (dotsE (E.take (k + 1))) i0 = numD (dotsE (E.take k)) i0) := Lib.hid (by rw [TK.out]; exact num_no _ _ _ _ hv)
            clear d0 ha LEa LE TK hv
            go_wp2
            go_roundw
            case rel => exact ⟨k + 1, by omega, by rw [NX.out], by go_num, B6.out⟩
            case measure => simp [intOf]; omega
          | true =>
            by_cases he : yr = (i0 : Int)
            · have NX : Hid (numD (dotsE (E.take (k + 1))) i0 = a + 1) := Lib.hid (by rw [TK.out, num_yes _ _ _ _ hv he, ha])
              subst he
              rw [ha]
              clear ha LE TK hv
              go_wp2
              go_roundw
              case rel => exact ⟨k + 1, by omega, by rw [NX.out]; go_num, by go_num, B6.out⟩
              case measure => simp [intOf]; omega
            · have NX : Hid (numD (dotsE (E.take (k + 1))) i0 = numD (dotsE (E.take k)) i0) := Lib.hid (by rw [TK.out]; exact num_off _ _ _ _ he)
              clear ha LEa LE TK hv
              go_wp2
              go_roundw
              case rel => exact ⟨k + 1, by omega, by rw [NX.out], by go_num, B6.out⟩
              case measure => simp [intOf]; omega
        · obtain rfl : k = E.length := by omega
          have hkl' : ¬ ((E.length : Nat) : Int) < E.length := by omega
          rw [List.take_length]
          obtain ⟨M, hM⟩ : ∃ M, numD (dotsE E) i0 = M := ⟨_, rfl⟩
          rw [hM]
          have HM := Lib.hid hM
          clear hM
          go_wp2
          exact bodyPost_ret (results_tmp2 rfl _ _ _) rfl ⟨by rw [HN.out, HM.out]; rfl, BR.out⟩
end Go.Proofs.YtehocohpfgabiaaDoor
