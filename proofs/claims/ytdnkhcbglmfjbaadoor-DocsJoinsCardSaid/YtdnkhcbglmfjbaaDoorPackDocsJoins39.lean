/- The statement DocsJoins, proved for every input that its row reads: part 39 of 54. -/
import Derived.Test.YtdnkhcbglmfjbaaDoorPackDocsJoins35
import Derived.Test.YtdnkhcbglmfjbaaDoorPackDocsJoins37
import Derived.Test.YtdnkhcbglmfjbaaDoorPackDocsJoins38
/- rotateCmpFunc: two neighbouring pieces of a row changed about. -/
namespace Go.Proofs.YtdnkhcbglmfjbaaDoor
open Go Go.RowKit
set_option linter.unusedVariables false
set_option maxRecDepth 1000000

set_option maxHeartbeats 1000000 in
theorem rotW_is (B g c N : Nat) (P X Y S : List Wr) (a m b : Nat) (fv : Value) (w : World) (hN : (P ++ (X ++ (Y ++ S))).length = N) (h : RowW w B g c (P ++ (X ++ (Y ++ S)))) (ha : a = P.length) (hm : m = P.length + X.length) (hb : b = P.length + X.length + Y.length) (hX : 0 < X.length) (hY : 0 < Y.length) (hbig : N ≤ 1000000) :
    Calls Tryd.prog 69 #[.slice (some ⟨g, 0, none⟩) N c, .int .i64 (a : Int), .int .i64 (m : Int), .int .i64 (b : Int), fv] w (SwW w B g c (P ++ (Y ++ (X ++ S)))) := by
  obtain ⟨i0, hi0⟩ : ∃ i, X.length = i := ⟨_, rfl⟩
  obtain ⟨j0, hj0⟩ : ∃ i, Y.length = i := ⟨_, rfl⟩
  obtain ⟨TT, hTT⟩ : ∃ T, P ++ (Y ++ (X ++ S)) = T := ⟨_, rfl⟩
  have m1 : (m : Int) - (a : Int) = (i0 : Int) := by omega
  have m2 : (b : Int) - (m : Int) = (j0 : Int) := by omega
  have lm : m + j0 ≤ N := by rw [← hN, hm, ← hj0]; simp; omega
  have START : Hid (∃ P' X' Y' S', X'.length = i0 ∧ Y'.length = j0 ∧ P'.length + i0 = m ∧ (P' ++ (X' ++ (Y' ++ S'))).length = N ∧ RowW w B g c (P' ++ (X' ++ (Y' ++ S'))) ∧ P' ++ (Y' ++ (X' ++ S')) = TT) := Lib.hid ⟨P, X, Y, S, hi0, hj0, by omega, hN, h, hTT⟩
  have hi1 : 0 < i0 := by omega
  have hj1 : 0 < j0 := by omega
  have hm0 : i0 ≤ m := by omega
  rw [hTT]
  have ba : b ≤ 1000000 := by omega
  have aa : a ≤ 1000000 := by omega
  clear h ha hm hb hX hY hi0 hj0 hTT hN
  go_enter Tryd.func69, Tryd.ntmps69
  go_wp2
  go_loopw [10, 11] (fun u v wr => ∃ i j : Nat, u = .int .i64 i ∧ v = .int .i64 j ∧ 0 < i ∧ 0 < j ∧ i ≤ m ∧ m + j ≤ N ∧ i + j ≤ i0 + j0 ∧ Hid (∃ P' X' Y' S', X'.length = i ∧ Y'.length = j ∧ P'.length + i = m ∧ (P' ++ (X' ++ (Y' ++ S'))).length = N ∧ RowW wr B g c (P' ++ (X' ++ (Y' ++ S'))) ∧ P' ++ (Y' ++ (X' ++ S')) = TT) ∧ w.grownBy wr (some g)) (fun u v _ => (RowKit.intOf u).toNat + (RowKit.intOf v).toNat)
  case atStart => exact ⟨i0, j0, rfl, rfl, hi1, hj1, hm0, lm, Nat.le_refl _, START, grRW _ _⟩
  case round =>
    obtain ⟨i, j, rfl, rfl, hi, hj, him, hmj, hij, ST, hg⟩ := hrel
    have GR := Lib.hid hg
    clear hg START m1 m2
    have e1 : (m : Int) - (i : Int) = ((m - i : Nat) : Int) := by omega
    rcases Nat.lt_trichotomy i j with h1 | h1 | h1
    · have n1 : ¬ (i : Int) = (j : Int) := by omega
      have n2 : ¬ (i : Int) > (j : Int) := by omega
      have e2 : (m : Int) + (j : Int) - (i : Int) = ((m + j - i : Nat) : Int) := by omega
      have e3 : (j : Int) - (i : Int) = ((j - i : Nat) : Int) := by omega
      have CC : Hid (∃ P' X' Y' S', X'.length = i ∧ Y'.length = j - i ∧ P'.length + i = m ∧ (P' ++ (X' ++ (Y' ++ S'))).length = N ∧ P' ++ (Y' ++ (X' ++ S')) = TT ∧ Calls Tryd.prog 74 #[.slice (some ⟨g, 0, none⟩) N c, .int .i64 ((m - i : Nat) : Int), .int .i64 ((m + j - i : Nat) : Int), .int .i64 (i : Int), fv] wr (SwW wr B g c (P' ++ (X' ++ (Y' ++ S'))))) := Lib.hid (by
        obtain ⟨P', X', Y', S', l1, l2, l3, l4, hr, ht⟩ := ST.out
        have sp : Y' = Y'.take (j - i) ++ Y'.drop (j - i) := (List.take_append_drop _ _).symm
        have lt1 : (Y'.take (j - i)).length = j - i := by rw [List.length_take]; omega
        have ld1 : (Y'.drop (j - i)).length = i := by rw [List.length_drop]; omega
        generalize Y'.take (j - i) = Y1 at sp lt1
        generalize Y'.drop (j - i) = Y2 at sp ld1
        subst sp
        refine ⟨P', Y2, Y1, X' ++ S', ld1, lt1, l3, by rw [← l4]; simp; omega, by rw [← ht]; simp only [List.append_assoc], ?_⟩
        have hc := swapRW_is B g c N P' X' Y1 Y2 S' (m - i) (m + j - i) i fv wr (by rw [← l4]; simp only [List.append_assoc]) (by simpa only [List.append_assoc] using hr) (by omega) (by omega) l1.symm (by omega) hbig
        exact hc)
      clear ST
      obtain ⟨P', X', Y', S', l1, l2, l3, l4, ht, hc⟩ := CC.out
      have HC := Lib.hid hc
      clear hc CC
      go_wp2_with fail
      refine HC.out.mono ?_
      rintro e w2 ⟨rfl, hr, hg⟩
      have SS : Hid (∃ P' X' Y' S', X'.length = i ∧ Y'.length = j - i ∧ P'.length + i = m ∧ (P' ++ (X' ++ (Y' ++ S'))).length = N ∧ RowW w2 B g c (P' ++ (X' ++ (Y' ++ S'))) ∧ P' ++ (Y' ++ (X' ++ S')) = TT) := Lib.hid ⟨P', X', Y', S', l1, l2, l3, l4, hr, ht⟩
      have G2 := Lib.hid (grTW GR.out hg)
      clear hr hg HC ht l1 l2 l3 l4 GR
      dsimp only
      go_wp2
      go_roundw
      case rel => exact ⟨i, j - i, rfl, rfl, hi, by omega, him, by omega, by omega, SS, G2.out⟩
      case measure => simp [intOf]; omega
    · subst h1
      have CC : Hid (Calls Tryd.prog 74 #[.slice (some ⟨g, 0, none⟩) N c, .int .i64 ((m - i : Nat) : Int), .int .i64 (m : Int), .int .i64 (i : Int), fv] wr (SwW wr B g c TT)) := Lib.hid (by
        obtain ⟨P', X', Y', S', l1, l2, l3, l4, hr, ht⟩ := ST.out
        have hc := swapRW_is B g c N P' X' [] Y' S' (m - i) m i fv wr (by rw [← l4]; rfl) hr (by omega) (by simp; omega) l1.symm (by omega) hbig
        rw [List.nil_append, ht] at hc
        exact hc)
      clear ST
      go_wp2_with fail
      refine CC.out.mono ?_
      rintro e w2 ⟨rfl, hr, hg⟩
      have R2 := Lib.hid hr; have G2 := Lib.hid (grTW GR.out hg)
      clear hr hg CC GR
      dsimp only
      go_wp2
      exact bodyPost_end (results_none rfl _ _ _) rfl ⟨rfl, R2.out, G2.out⟩
    · have n1 : ¬ (i : Int) = (j : Int) := by omega
      have n2 : (i : Int) > (j : Int) := by omega
      have e3 : (i : Int) - (j : Int) = ((i - j : Nat) : Int) := by omega
      have CC : Hid (∃ P' X' Y' S', X'.length = i - j ∧ Y'.length = j ∧ P'.length + (i - j) = m ∧ (P' ++ (X' ++ (Y' ++ S'))).length = N ∧ P' ++ (Y' ++ (X' ++ S')) = TT ∧ Calls Tryd.prog 74 #[.slice (some ⟨g, 0, none⟩) N c, .int .i64 ((m - i : Nat) : Int), .int .i64 (m : Int), .int .i64 (j : Int), fv] wr (SwW wr B g c (P' ++ (X' ++ (Y' ++ S'))))) := Lib.hid (by
        obtain ⟨P', X', Y', S', l1, l2, l3, l4, hr, ht⟩ := ST.out
        have sp : X' = X'.take j ++ X'.drop j := (List.take_append_drop _ _).symm
        have lt1 : (X'.take j).length = j := by rw [List.length_take]; omega
        have ld1 : (X'.drop j).length = i - j := by rw [List.length_drop]; omega
        generalize X'.take j = X1 at sp lt1
        generalize X'.drop j = X2 at sp ld1
        subst sp
        refine ⟨P' ++ Y', X2, X1, S', ld1, lt1, by rw [List.length_append]; omega, by rw [← l4]; simp; omega, by rw [← ht]; simp only [List.append_assoc], ?_⟩
        have hc := swapRW_is B g c N P' X1 X2 Y' S' (m - i) m j fv wr (by rw [← l4]; simp only [List.append_assoc]) (by simpa only [List.append_assoc] using hr) (by omega) (by omega) lt1.symm (by omega) hbig
        simpa only [List.append_assoc] using hc)
      clear ST
      obtain ⟨P', X', Y', S', l1, l2, l3, l4, ht, hc⟩ := CC.out
      have HC := Lib.hid hc
      clear hc CC
      go_wp2_with fail
      refine HC.out.mono ?_
      rintro e w2 ⟨rfl, hr, hg⟩
      have SS : Hid (∃ P' X' Y' S', X'.length = i - j ∧ Y'.length = j ∧ P'.length + (i - j) = m ∧ (P' ++ (X' ++ (Y' ++ S'))).length = N ∧ RowW w2 B g c (P' ++ (X' ++ (Y' ++ S'))) ∧ P' ++ (Y' ++ (X' ++ S')) = TT) := Lib.hid ⟨P', X', Y', S', l1, l2, l3, l4, hr, ht⟩
      have G2 := Lib.hid (grTW GR.out hg)
      clear hr hg HC ht l1 l2 l3 l4 GR
      dsimp only
      go_wp2
      go_roundw
      case rel => exact ⟨i - j, j, rfl, rfl, by omega, hj, by omega, hmj, by omega, SS, G2.out⟩
      case measure => simp [intOf]; omega
end Go.Proofs.YtdnkhcbglmfjbaaDoor
/- The example that each law of layer 12 ends with. -/
namespace Go.Proofs.YtdnkhcbglmfjbaaDoor
open Go Go.RowKit
set_option linter.unusedVariables false
set_option maxRecDepth 1000000

def exE1 : Ev := ⟨0, 1, 1, 1, ⟨#[97]⟩, 1, ⟨#[120]⟩, []⟩
def exE2 : Ev := ⟨0, 2, 2, 2, ⟨#[97]⟩, 0, ByteArray.empty, [(0, 1)]⟩
def exW : Wr := ⟨0, 1, 1, ⟨#[97]⟩, 1, ⟨#[120]⟩⟩
def exF1 : Nat → Int := withF (fun _ => 0) 0 1
def exF2 : Nat → Int := withF exF1 0 2
theorem exHead1 : headB exE1 = true := (head_iff exE1).2 ⟨by decide, by decide, by decide +kernel, goB_iff.2 ⟨by decide, fun i h => absurd h (by simp [exE1]), fun i h => absurd h (by simp [exE1])⟩⟩
theorem exHead2 : headB exE2 = true := (head_iff exE2).2 ⟨by decide, by decide, by decide +kernel, goB_iff.2 ⟨by decide, fun i h => by
  have : i = 0 := by simpa [exE2] using h
  subst this
  show vl (0, 1) = true ∧ ((0, 1) : Dt) ≠ (0, 2)
  exact ⟨by decide, by decide⟩, fun i h => absurd h (by simp [exE2])⟩⟩
theorem exChk1 : chk exE1 = 0 := by rw [chk_put exHead1 rfl]; decide +kernel
theorem exChk2 : chk exE2 = 0 := chk_drop exHead2 rfl rfl rfl
theorem exSkip1 : apSkip (fun _ => 0) exE1 = false := by unfold apSkip; rw [exChk1]; decide
theorem exSkip2 : apSkip exF1 exE2 = false := by unfold apSkip; rw [exChk2]; decide
theorem exSeen1 : apSeen (fun _ => 0) exE1 = exF1 := by unfold apSeen; rw [exSkip1]; rfl
theorem exSeen2 : apSeen exF1 exE2 = exF2 := by unfold apSeen; rw [exSkip2]; rfl
theorem exLive1 : apLive (fun _ => 0) [] exE1 = [exW] := by unfold apLive; rw [exSkip1]; rfl
theorem exLive2 : apLive exF1 [exW] exE2 = [] := by unfold apLive; rw [exSkip2]; rfl
theorem exOf : ofW [exW] ⟨#[97]⟩ (-1) = [exW] := by
  have : notOf ⟨#[97]⟩ (-1) exW = false := by decide +kernel
  unfold ofW
  rw [List.filter_cons_of_pos (by rw [this]; rfl)]; rfl
theorem exLast : latestOf [exW] 1 = ⟨#[120]⟩ := by decide +kernel
theorem exF2_0 : exF2 0 = 2 := by decide +kernel
theorem builtE1 (w : World) : (Instr.build 38 #[(0, .agg #[.int .i64 0, .int .i64 1]), (1, .int .i64 1), (2, .int .i64 1), (3, .string ⟨#[97]⟩), (4, .int .i64 1), (5, .string ⟨#[120]⟩)]).run Tryd.prog w = .ok (.agg (EvP.cells ⟨exE1, none, 0⟩).toArray) w := run_build w _ _ _ (by kernel_rfl)
theorem builtE2 (q : Option Addr) (w : World) : (Instr.build 38 #[(0, .agg #[.int .i64 0, .int .i64 2]), (1, .int .i64 2), (2, .int .i64 2), (3, .string ⟨#[97]⟩), (6, .slice q 1 1)]).run Tryd.prog w = .ok (.agg (EvP.cells ⟨exE2, q, 1⟩).toArray) w := run_build w _ _ _ (by kernel_rfl)
set_option maxHeartbeats 8000000 in
theorem awake12 (w : World) (hT : Shapes w) : Calls Tryd.prog 6 #[] w (Yes w) := by
  have HT := Lib.hid hT
  clear hT
  have b1 := below_alloc w (.cells #[.int .i64 0, .int .i64 1] 32)
  have n1 := heap_alloc_new w (.cells #[.int .i64 0, .int .i64 1] 32)
  have A1 := Lib.hid (apply_is (fun _ => 0) none 0 [] ⟨exE1, none, 0⟩ (w.alloc (.cells #[.int .i64 0, .int .i64 1] 32)) ⟨fun h => absurd rfl h, fun _ => rfl⟩ (fun a ha => by cases ha) (by simp) ⟨DRow.nil _ _, fun _ => rfl⟩ (HT.out.below b1) (by decide))
  have B1 := Lib.hid b1; have N1 := Lib.hid n1
  clear b1 n1
  simp only [exSeen1, exLive1, exChk1] at A1
  have A1 : Hid (Calls Tryd.prog 14 #[.agg (scs (fun _ => 0) (.slice none 0 0)), .agg (EvP.cells ⟨exE1, none, 0⟩).toArray] (w.alloc (.cells #[.int .i64 0, .int .i64 1] 32)) (StR (w.alloc (.cells #[.int .i64 0, .int .i64 1] 32)) exF1 [exW] 0)) := A1
  go_enter Tryd.func6, Tryd.ntmps6
  go_wp2_with (first | refine wpList_pbuild (by rfl) _ rfl (scs (fun _ => 0) (.slice none 0 0)) (by simp only [List.map_toArray, List.map_cons, List.map_nil]; exact builtSt0 _) ?_ | refine wpList_pbuild (by rfl) _ rfl (EvP.cells ⟨exE1, none, 0⟩).toArray (by simp only [List.map_toArray, List.map_cons, List.map_nil]; exact builtE1 _) ?_)
  refine A1.out.mono ?_
  rintro e w2 ⟨v2, rfl, o2, hb2⟩
  obtain ⟨p2, c2, hv2, _, wat2, off2⟩ := own_wat o2
  subst hv2
  have B2 := Lib.hid (thenBelow B1.out hb2)
  have N2 := Lib.hid ((hb2.block _ (Array.getElem?_eq_some_iff.1 N1.out).1).trans N1.out)
  have WT := Lib.hid (fun (V : World) (hV : Below w2.heap.size w2 V) => wat2.below hV)
  have OF := Lib.hid off2
  clear o2 hb2 wat2 off2 A1 B1 N1
  go_wp2_with (refine wpList_galloc _ zeroSt rfl rfl ?_)
  intro g2 w3 l2 h2 hb3
  have B3 := Lib.hid (thenBelow B2.out hb3)
  have N3 := Lib.hid ((hb3.block _ (Array.getElem?_eq_some_iff.1 N2.out).1).trans N2.out)
  have ln2 : w.heap.size < g2 := Nat.lt_of_lt_of_le (Array.getElem?_eq_some_iff.1 N2.out).1 l2
  have HB3 := Lib.hid hb3; have H3 := Lib.hid h2
  clear h2 hb3 N2
  go_wp2_with (refine wpList_gstore rfl _ _ rfl g2 rfl (scs exF1 (.slice p2 [exW].length c2)) rfl _ _ H3.out (sizeSt _ _) (by rw [scs_size, scs_size]) (scs_one exF1 rfl) ?_)
  intro w4 h4 g4'
  have BW4 := Lib.hid (HB3.out.trans (grown_below g4' HB3.out.size l2))
  have B4 := Lib.hid (thenBelow B2.out BW4.out)
  have N4 := Lib.hid ((g4'.block _ (Array.getElem?_eq_some_iff.1 N3.out).1 (by simp; omega)).trans N3.out)
  have S4 : Hid (Sx w4 g2 exF1 (.slice p2 [exW].length c2)) := Lib.hid h4
  clear h4 g4' H3 N3 HB3
  have SW := Lib.hid (S4.out.whole)
  have RD := Lib.hid (docRead_is exF1 p2 c2 [exW] ⟨#[97]⟩ exW [] w4 (WT.out w4 BW4.out) OF.out (by decide) exOf)
  go_wp2_with (refine wpList_gload rfl _ rfl g2 0 rfl _ SW.out _ Tryd.underlying26 rfl (sizeStl _ _) ?_)
  refine RD.out.mono ?_
  rintro e w5 ⟨rfl, hb5⟩
  have S5 := Lib.hid (S4.out.later hb5); have B5 := Lib.hid (thenBelow B4.out hb5); have BW5 := Lib.hid (thenBelow BW4.out hb5)
  have N5 := Lib.hid ((hb5.block _ (Array.getElem?_eq_some_iff.1 N4.out).1).trans N4.out)
  clear hb5 RD SW S4 N4
  obtain ⟨td, htd⟩ : ∃ t : Nat → ByteArray, (fun i : Nat => latestOf [exW] (i + 1 : Nat)) = t := ⟨_, rfl⟩
  have HTD : Hid (td 0 = ⟨#[120]⟩) := Lib.hid (by rw [← htd]; exact exLast)
  rw [htd]
  clear htd
  go_wp2_with (refine wpList_galloc _ zeroDoc rfl rfl ?_)
  intro g4 w6 l4 h6 hb6
  have S6 := Lib.hid (S5.out.later hb6); have B6 := Lib.hid (thenBelow B5.out hb6); have BW6 := Lib.hid (thenBelow BW5.out hb6)
  have N6 := Lib.hid ((hb6.block _ (Array.getElem?_eq_some_iff.1 N5.out).1).trans N5.out)
  have n24 : g2 < g4 := Nat.lt_of_lt_of_le S5.out.lt l4
  have lw4 : w.heap.size < g4 := Nat.lt_of_lt_of_le (Array.getElem?_eq_some_iff.1 N5.out).1 l4
  have l4' : w2.heap.size ≤ g4 := Nat.le_trans BW5.out.size l4
  have H6 := Lib.hid h6
  clear h6 hb6 S5 N5
  go_wp2_with (refine wpList_gstore rfl _ _ rfl g4 rfl (dcv exW.doc td) rfl _ _ H6.out (sizeDoc _ _) rfl (dcv_one _ _) ?_)
  intro w7 h7 g7'
  have BW7 := Lib.hid (BW6.out.trans (grown_below g7' BW6.out.size l4'))
  have B7 := Lib.hid (thenBelow B2.out BW7.out)
  have S7 := Lib.hid (S6.out.kept g7' (by simp; omega))
  have N7 := Lib.hid ((g7'.block _ (Array.getElem?_eq_some_iff.1 N6.out).1 (by simp; omega)).trans N6.out)
  have D7 := Lib.hid h7
  clear h7 g7' H6 S6 N6
  have ba := below_alloc w7 (.cells #[.int .i64 0, .int .i64 1] 32)
  have na := heap_alloc_new w7 (.cells #[.int .i64 0, .int .i64 1] 32)
  have A2 := Lib.hid (apply_is exF1 p2 c2 [exW] ⟨exE2, some ⟨w7.heap.size, 0, none⟩, 1⟩ (w7.alloc (.cells #[.int .i64 0, .int .i64 1] 32)) (WT.out _ (thenBelow BW7.out ba)) OF.out (by decide) ⟨fun _ => ⟨w7.heap.size, 0, rfl, range_of_block na⟩, fun e => by cases e⟩ (HT.out.below (thenBelow B7.out ba)) (show ([(0, 1)] : List Dt).length ≤ 1000 by decide))
  simp only [exSeen2, exLive2, exChk2] at A2
  have S8 := Lib.hid (S7.out.later ba)
  have D8 := Lib.hid ((ba.block _ (Array.getElem?_eq_some_iff.1 D7.out).1).trans D7.out)
  have B8 := Lib.hid (thenBelow B7.out ba)
  have k0 := (cell_of_row w7 w.heap.size 0 _ _ _ N7.out).trans (show _ = some (Value.int .i64 0) from rfl)
  have k1 := (cell_of_row w7 w.heap.size 1 _ _ _ N7.out).trans (show _ = some (Value.int .i64 1) from rfl)
  have SW := Lib.hid (S7.out.whole)
  clear ba na
  go_wp2_with (first | refine wpList_gload rfl _ rfl g2 0 rfl _ SW.out _ Tryd.underlying26 rfl (sizeStl _ _) ?_ | refine wpList_pbuild (by rfl) _ rfl (EvP.cells ⟨exE2, some ⟨w7.heap.size, 0, none⟩, 1⟩).toArray (by simp only [List.map_toArray, List.map_cons, List.map_nil]; exact builtE2 _ _) ?_)
  refine A2.out.mono ?_
  rintro e w9 ⟨v9, rfl, o9, hb9⟩
  obtain ⟨p9, c9, hv9, _⟩ := own_wat o9
  subst hv9
  have B9 := Lib.hid (thenBelow B8.out hb9)
  have D9 := Lib.hid ((hb9.block _ (Array.getElem?_eq_some_iff.1 D8.out).1).trans D8.out)
  clear hb9 o9 A2 SW k0 k1 D8
  go_wp2_with (refine wpList_galloc _ zeroSt rfl rfl ?_)
  intro g6 w10 l6 h10 hb10
  have B10 := Lib.hid (thenBelow B9.out hb10)
  have D10 := Lib.hid ((hb10.block _ (Array.getElem?_eq_some_iff.1 D9.out).1).trans D9.out)
  have n46 : g4 < g6 := Nat.lt_of_lt_of_le (Array.getElem?_eq_some_iff.1 D9.out).1 l6
  have l6' : w.heap.size ≤ g6 := Nat.le_trans B9.out.size l6
  have H10 := Lib.hid h10
  clear h10 hb10 D9
  go_wp2_with (refine wpList_gstore rfl _ _ rfl g6 rfl (scs exF2 (.slice p9 ([] : List Wr).length c9)) rfl _ _ H10.out (sizeSt _ _) (by rw [scs_size, scs_size]) (scs_one exF2 rfl) ?_)
  intro w11 h11 g11
  have B11 := Lib.hid (B10.out.trans (grown_below g11 B10.out.size l6'))
  have D11 := Lib.hid ((g11.block _ (Array.getElem?_eq_some_iff.1 D10.out).1 (by simp; omega)).trans D10.out)
  have S11 : Hid (Sx w11 g6 exF2 (.slice p9 ([] : List Wr).length c9)) := Lib.hid h11
  have kd := (cell_of_row w11 g4 1 _ _ _ D11.out).trans (show _ = some (Value.string (td 0)) from rfl)
  rw [HTD.out] at kd
  have ks := S11.out.slot
  have kv := S11.out.vec 0 (.int .i64 (exF2 0)) (by rw [Array.getElem?_toList]; exact vf_get exF2 0 (by omega))
  rw [exF2_0] at kv
  simp only [List.length_nil, Nat.add_zero] at ks kv
  clear h11 g11
  go_wp2
  go_ret
  exact ⟨rfl, B11.out⟩
end Go.Proofs.YtdnkhcbglmfjbaaDoor
