/- The statement WireBack, proved for every input that its row reads: part 39 of 54. -/
import Derived.Test.YtpngmjfnpdjjcaaDoorPackWireBack38
import Derived.Test.YtpngmjfnpdjjcaaDoorPackWireBack31
import Derived.Test.YtpngmjfnpdjjcaaDoorPackWireBack36
/- docs: a write that was written is read. -/
namespace Go.Proofs.YtpngmjfnpdjjcaaDoor
open Go Go.RowKit
set_option linter.unusedVariables false
set_option maxRecDepth 1000000

theorem zeroWrC (w : World) : (zeroValue 55).run Tryd.prog w = .ok (.agg (Wr.cells ⟨0, 0, 0, ByteArray.empty, 0, ByteArray.empty⟩).toArray) w := by kernel_rfl
set_option maxHeartbeats 8000000 in
theorem readWrite_live (B : Nat) (y : Wr) (l : List UInt8) (w : World) (h : Rd w B (wtB y ++ l)) (hy : chk (putE y) = 0) (hl : l.length ≤ 145000000000000) :
    Calls Tryd.prog 55 #[.pointer (some ⟨B, 0, none⟩)] w (GotW w B (.agg y.cells.toArray) l) := by
  have FN := fine_of hy
  have HB := Lib.hid h.lt'
  have hB := h.lt'
  clear hy
  obtain ⟨fdot, ftime, fdoc, fmany, fgone, fkind, ffield, ftext⟩ := FN
  obtain ⟨r, n, t, d, fl, tx⟩ := y
  simp only [putE] at fdot ftime fdoc ffield ftext
  clear fmany fgone fkind
  obtain ⟨t', rfl⟩ : ∃ t' : Nat, t = (t' : Int) := ⟨t.toNat, by omega⟩
  obtain ⟨f', rfl⟩ : ∃ f' : Nat, fl = (f' : Int) := ⟨fl.toNat, by omega⟩
  have e1 := enc_len t'; have e3 := enc_len d.data.toList.length; have e4 := enc_len f'; have e5 := enc_len tx.data.toList.length
  have hd : d.data.toList.length = d.size := Array.length_toList
  have htx : tx.data.toList.length = tx.size := Array.length_toList
  have hdl : d.data.toList.length ≤ 12 := by omega
  have htl : tx.data.toList.length ≤ 160 := by omega
  obtain ⟨T7, q7⟩ : ∃ X, Cod.enc tx.data.toList.length ++ (tx.data.toList ++ l) = X := ⟨_, rfl⟩
  obtain ⟨T6, q6⟩ : ∃ X, Cod.enc f' ++ T7 = X := ⟨_, rfl⟩
  obtain ⟨T5, q5⟩ : ∃ X, Cod.enc d.data.toList.length ++ (d.data.toList ++ T6) = X := ⟨_, rfl⟩
  obtain ⟨T3, q3⟩ : ∃ X, Cod.enc t' ++ T5 = X := ⟨_, rfl⟩
  have hR : wtB ⟨r, n, (t' : Int), d, (f' : Int), tx⟩ ++ l = dotB (r, n) ++ T3 := by
    rw [← q3, ← q5, ← q6, ← q7]
    unfold wtB
    simp only [Int.toNat_natCast, List.append_assoc, hd, htx]
  rw [hR] at h
  have n7 : T7.length ≤ l.length + 400 := by rw [← q7, List.length_append, List.length_append]; omega
  have n6 : T6.length ≤ l.length + 410 := by rw [← q6, List.length_append]; omega
  have n5 : T5.length ≤ l.length + 440 := by rw [← q5, List.length_append, List.length_append]; omega
  have n3 : T3.length ≤ l.length + 460 := by rw [← q3, List.length_append]; omega
  have Q7 := Lib.hid q7; have Q6 := Lib.hid q6; have Q5 := Lib.hid q5; have Q3 := Lib.hid q3
  clear q7 q6 q5 q3 hR hd htx
  have H := Lib.hid h
  clear h
  go_enter Tryd.func55, Tryd.ntmps55
  go_wp2_with (refine wpList_galloc _ zeroWrC rfl rfl ?_)
  intro g1 w1 lg1 hg1 hb1
  have K1 := Lib.hid hg1
  have N1 := Lib.hid (readDot_live B r n T3 _ (H.out.on hb1) fdot (by omega))
  have G1 := Lib.hid (grown_less (R := some B) hb1)
  clear hb1 hg1
  go_wp2_with fail
  refine N1.out.mono ?_
  rintro e w2 ⟨rfl, hr, hg⟩
  rw [← Q3.out] at hr
  have G2 := Lib.hid (grown_trans G1.out hg)
  have K2 := Lib.hid (grown_step G1.out hg HB.out lg1 K1.out)
  have N2 := Lib.hid (numIn_live B t' 1099511627776 T5 w2 hr (by omega) (by omega) (by simp only [List.length_append]; omega))
  clear hr hg N1 K1
  go_wp2_with fail
  refine N2.out.mono ?_
  rintro e w4 ⟨rfl, hr, hg⟩
  rw [← Q5.out] at hr
  have G4 := Lib.hid (grown_trans G2.out hg)
  have K4 := Lib.hid (grown_step G2.out hg HB.out lg1 K2.out)
  have N4 := Lib.hid (textIn_live B 12 d.data.toList T6 w4 hr (by omega) (by omega) (by simp only [List.length_append]; omega))
  clear hr hg N2 K2
  rw [str_back d] at N4
  go_wp2_with fail
  refine N4.out.mono ?_
  rintro e w5 ⟨rfl, hr, hg⟩
  rw [← Q6.out] at hr
  have G5 := Lib.hid (grown_trans G4.out hg)
  have K5 := Lib.hid (grown_step G4.out hg HB.out lg1 K4.out)
  have N5 := Lib.hid (numIn_live B f' 4 T7 w5 hr (by omega) (by omega) (by simp only [List.length_append]; omega))
  clear hr hg N4 K4
  go_wp2_with fail
  refine N5.out.mono ?_
  rintro e w6 ⟨rfl, hr, hg⟩
  rw [← Q7.out] at hr
  have G6 := Lib.hid (grown_trans G5.out hg)
  have K6 := Lib.hid (grown_step G5.out hg HB.out lg1 K5.out)
  have N6 := Lib.hid (textIn_live B 160 tx.data.toList l w6 hr (by omega) (by omega) (by simp only [List.length_append]; omega))
  clear hr hg N5 K5
  rw [str_back tx] at N6
  go_wp2_with fail
  refine N6.out.mono ?_
  rintro e w7 ⟨rfl, hr, hg⟩
  have G7 := Lib.hid (grown_trans G6.out hg)
  have K7 := Lib.hid (grown_step G6.out hg HB.out lg1 K6.out)
  have R7 := Lib.hid hr
  clear hr hg N6 K6
  go_wp2_with (first | refine wpList_pbuild (by rfl) _ rfl (Wr.cells ⟨r, n, (t' : Int), d, (f' : Int), tx⟩).toArray (by simp only [List.map_toArray, List.map_cons, List.map_nil]; exact builtWro r n (t' : Int) d (f' : Int) tx _) ?_ | refine wpList_gstore rfl _ _ rfl g1 rfl (Wr.cells ⟨r, n, (t' : Int), d, (f' : Int), tx⟩).toArray rfl _ _ K7.out (by kernel_rfl) (by rfl) (fun v hv => Wr.cells_one _ v (by simpa using hv)) ?_)
  intro w8 h8 g8
  have H8 := Lib.hid h8
  have b8 := grown_below g8 G7.out.size lg1
  have R8 := Lib.hid (R7.out.under' HB.out b8)
  have G8 : Hid (w.grownBy w8 (some B)) := Lib.hid ⟨g8.os.trans G7.out.os, g8.tape.trans G7.out.tape, g8.output.trans G7.out.output, Nat.le_trans G7.out.size g8.size, fun i hi hne => (g8.block i (Nat.lt_of_lt_of_le hi G7.out.size) (by simp; omega)).trans (G7.out.block i hi hne)⟩
  clear h8 g8 b8
  go_wp2
  exact bodyPost_ret (v := .agg (Wr.cells ⟨r, n, (t' : Int), d, (f' : Int), tx⟩).toArray) (results_cell_row rfl _ w8 g1 _ _ (0, 0) _ rfl H8.out Tryd.underlying55 rfl (by kernel_rfl)) rfl ⟨rfl, R8.out, G8.out⟩
end Go.Proofs.YtpngmjfnpdjjcaaDoor
/- docs: a write of any bytes, as the program reads it. -/
namespace Go.Proofs.YtpngmjfnpdjjcaaDoor
open Go Go.RowKit
set_option linter.unusedVariables false
set_option maxRecDepth 1000000

namespace Cod
/-- what reading a dot comes to -/
def dotS (s : S) : Dt × S := ((((numS 63 s).1 : Int), ((numS 1073741824 (numS 63 s).2).1 : Int)), (numS 1073741824 (numS 63 s).2).2)
def timeS (s : S) : Nat × S := numS 1099511627776 (dotS s).2
def docS (s : S) : ByteArray × S := textS 12 (timeS s).2
def fldS (s : S) : Nat × S := numS 4 (docS s).2
def txtS (s : S) : ByteArray × S := textS 160 (fldS s).2
/-- what reading a write comes to -/
def wrS (s : S) : Wr × S := (⟨(dotS s).1.1, (dotS s).1.2, (timeS s).1, (docS s).1, (fldS s).1, (txtS s).1⟩, (txtS s).2)
/-- and so many -/
def wrsS : Nat → S → List Wr × S
  | 0, s => ([], s)
  | n + 1, s => ((wrsS n s).1 ++ [(wrS (wrsS n s).2).1], (wrS (wrsS n s).2).2)
theorem wrsS_length (n : Nat) (s : S) : (wrsS n s).1.length = n := by
  induction n with
  | zero => rfl
  | succ n ih => simp [wrsS, ih]
theorem numS_keep {most : Int} {s : S} (h : (numS most s).2.2 = 0) (hm : 0 ≤ most) : s.2 = 0 := by
  by_cases e : s.2 = 0
  · exact e
  · rw [numS_err e hm] at h; exact h
theorem textS_keep {most : Int} {s : S} (h : (textS most s).2.2 = 0) (hm : 0 ≤ most) : s.2 = 0 := by
  by_cases e : s.2 = 0
  · exact e
  · rw [textS_err e hm] at h; exact h
theorem dotS_eq (s : S) : (dotS s).2 = (numS 1073741824 (numS 63 s).2).2 := by simp only [dotS]
theorem wrS_eq (s : S) : (wrS s).2 = (txtS s).2 := by simp only [wrS]
theorem dotS_err {s : S} (h : s.2 ≠ 0) : (dotS s).2 = s := by
  have h1 : (numS 63 s).2 = s := congrArg Prod.snd (numS_err h (by decide))
  rw [dotS_eq, h1]
  exact congrArg Prod.snd (numS_err h (by decide))
theorem wrS_err {s : S} (h : s.2 ≠ 0) : (wrS s).2 = s := by
  have h1 : (timeS s).2 = s := by unfold timeS; rw [dotS_err h]; exact congrArg Prod.snd (numS_err h (by decide))
  have h2 : (docS s).2 = s := by unfold docS; rw [h1]; exact congrArg Prod.snd (textS_err h (by decide))
  have h3 : (fldS s).2 = s := by unfold fldS; rw [h2]; exact congrArg Prod.snd (numS_err h (by decide))
  rw [wrS_eq]
  unfold txtS; rw [h3]; exact congrArg Prod.snd (textS_err h (by decide))
theorem wrS_keep {s : S} (h : (wrS s).2.2 = 0) : s.2 = 0 := by
  by_cases e : s.2 = 0
  · exact e
  · rw [wrS_err e] at h; exact h
theorem wrS_dot {s : S} (h : (wrS s).2.2 = 0) : (dotS s).2.2 = 0 := by
  rw [wrS_eq] at h
  unfold txtS at h
  have h2 := textS_keep h (by decide)
  unfold fldS at h2
  have h3 := numS_keep h2 (by decide)
  unfold docS at h3
  have h4 := textS_keep h3 (by decide)
  unfold timeS at h4
  exact numS_keep h4 (by decide)
theorem dotS_len (s : S) : (dotS s).2.1.length ≤ s.1.length := by
  rw [dotS_eq]
  exact Nat.le_trans (numS_len _ _) (numS_len _ _)
theorem timeS_len (s : S) : (timeS s).2.1.length ≤ s.1.length := by
  unfold timeS
  exact Nat.le_trans (numS_len _ _) (dotS_len s)
theorem docS_len (s : S) : (docS s).2.1.length ≤ s.1.length := by
  unfold docS
  exact Nat.le_trans (textS_len _ _) (timeS_len s)
theorem fldS_len (s : S) : (fldS s).2.1.length ≤ s.1.length := by
  unfold fldS
  exact Nat.le_trans (numS_len _ _) (docS_len s)
theorem wrS_len (s : S) : (wrS s).2.1.length ≤ s.1.length := by
  rw [wrS_eq]
  unfold txtS
  exact Nat.le_trans (textS_len _ _) (fldS_len s)
theorem wrsS_len (n : Nat) (s : S) : (wrsS n s).2.1.length ≤ s.1.length := by
  induction n with
  | zero => exact Nat.le_refl _
  | succ n ih =>
    have e : (wrsS (n + 1) s).2 = (wrS (wrsS n s).2).2 := by simp only [wrsS]
    rw [e]
    exact Nat.le_trans (wrS_len _) ih
theorem wrsS_step (n : Nat) (s : S) : (wrsS (n + 1) s).2 = (wrS (wrsS n s).2).2 ∧ (wrsS (n + 1) s).1 = (wrsS n s).1 ++ [(wrS (wrsS n s).2).1] := by simp only [wrsS, and_self]
theorem wrsS_keep (n : Nat) (s : S) (h : (wrsS (n + 1) s).2.2 = 0) : (wrsS n s).2.2 = 0 := by
  rw [(wrsS_step n s).1] at h
  exact wrS_keep h
theorem wrsS_stuck {j : Nat} {s : S} (h : (wrsS j s).2.2 ≠ 0) : ∀ d, (wrsS (j + d) s).2 = (wrsS j s).2 := by
  intro d
  induction d with
  | zero => rfl
  | succ d ih =>
    have e : (wrsS (j + (d + 1)) s).2 = (wrS (wrsS (j + d) s).2).2 := by rw [← Nat.add_assoc]; simp only [wrsS]
    rw [e, ih, wrS_err h]
end Cod
/-- what the program makes of a dot: none with an error -/
def dotP (s : Cod.S) : Dt := if (Cod.dotS s).2.2 = 0 then (Cod.dotS s).1 else (0, 0)
def wrP (s : Cod.S) : Wr := ⟨(dotP s).1, (dotP s).2, (Cod.timeS s).1, (Cod.docS s).1, (Cod.fldS s).1, (Cod.txtS s).1⟩
theorem wrP_ok {s : Cod.S} (h : (Cod.wrS s).2.2 = 0) : wrP s = (Cod.wrS s).1 := by
  unfold wrP dotP
  rw [if_pos (Cod.wrS_dot h)]
  simp only [Cod.wrS]
theorem zeroDtC (w : World) : (zeroValue 53).run Tryd.prog w = .ok (.agg (dcs 0 0)) w := by kernel_rfl
theorem builtDtC (a b : Int) (w : World) : (Instr.build 53 #[(0, .int .i64 a), (1, .int .i64 b)]).run Tryd.prog w = .ok (.agg (dcs a b)) w := run_build w _ _ _ (by kernel_rfl)
theorem builtDt0C (w : World) : (Instr.build 53 #[]).run Tryd.prog w = .ok (.agg (dcs 0 0)) w := run_build w _ _ _ (by kernel_rfl)
theorem dcs_one (a b : Int) : ∀ u ∈ (dcs a b).toList, u.oneCell' = true := by intro u hu; simp [dcs] at hu; rcases hu with rfl | rfl <;> rfl
theorem rda_keep {w w' : World} {B T : Nat} {s : Cod.S} (h : RdA w B s) (hT : B < T) (hb : Below T w w') : RdA w' B s := h.under hT hb
set_option maxHeartbeats 4000000 in
theorem readDot_any (B : Nat) (s : Cod.S) (w : World) (h : RdA w B s) (hl : s.1.length ≤ 1000000) :
    Calls Tryd.prog 72 #[.pointer (some ⟨B, 0, none⟩)] w (GotA w B (.agg (dcs (dotP s).1 (dotP s).2)) (Cod.dotS s).2) := by
  have HB := Lib.hid h.lt
  have H := Lib.hid h
  have hB := h.lt
  clear h
  have n1 := Cod.numS_len 63 s
  obtain ⟨N1v, hN1⟩ : ∃ X, Cod.numS 63 s = X := ⟨_, rfl⟩
  rw [hN1] at n1
  obtain ⟨N2v, hN2⟩ : ∃ X, Cod.numS 1073741824 N1v.2 = X := ⟨_, rfl⟩
  have hD : Cod.dotS s = (((N1v.1 : Int), (N2v.1 : Int)), N2v.2) := by unfold Cod.dotS; rw [hN1, hN2]
  have PD : Hid (dotP s = if N2v.2.2 = 0 then ((N1v.1 : Int), (N2v.1 : Int)) else (0, 0)) := Lib.hid (by unfold dotP; rw [hD])
  rw [hD]
  have HN1 := Lib.hid hN1; have HN2 := Lib.hid hN2
  clear hN1 hN2 hD
  obtain ⟨a1, t1⟩ := N1v
  obtain ⟨a2, t2⟩ := N2v
  simp only at PD n1 HN2 ⊢
  obtain ⟨DP, hDP⟩ : ∃ X, dotP s = X := ⟨_, rfl⟩
  rw [hDP] at PD ⊢
  clear hDP
  go_enter Tryd.func72, Tryd.ntmps72
  go_wp2_with (refine wpList_galloc _ zeroDtC rfl rfl ?_)
  intro g1 w1 lg1 h1 hb1
  have K1 := Lib.hid h1
  have G1 := Lib.hid (grown_less (R := some B) hb1)
  have C1 := Lib.hid (num_all B 63 s w1 (H.out.below hb1) (by omega) (by omega))
  rw [HN1.out] at C1
  clear hb1 h1
  go_wp2_with fail
  refine C1.out.mono ?_
  rintro e w2 ⟨rfl, hr, hg⟩
  have G2 := Lib.hid (grown_trans G1.out hg)
  have K2 := Lib.hid (grown_step G1.out hg HB.out lg1 K1.out)
  have C2 := Lib.hid (num_all B 1073741824 t1 w2 hr (by omega) (by omega))
  rw [HN2.out] at C2
  clear hr hg C1 K1
  go_wp2_with fail
  refine C2.out.mono ?_
  rintro e w3 ⟨rfl, hr, hg⟩
  have G3 := Lib.hid (grown_trans G2.out hg)
  have K3 := Lib.hid (grown_step G2.out hg HB.out lg1 K2.out)
  have R3 := Lib.hid hr
  clear hr hg C2 K2
  go_wp2_with (first | refine wpList_pbuild (by rfl) _ rfl (dcs (a1 : Int) (a2 : Int)) (by simp only [List.map_toArray, List.map_cons, List.map_nil]; exact builtDtC _ _ _) ?_ | refine wpList_galloc _ zeroDtC rfl rfl ?_)
  intro g3 w4 lg3 h4 hb4
  have G4 := Lib.hid (grown_on G3.out (hb4.mono G3.out.size))
  have K4 := Lib.hid ((hb4.block _ (Array.getElem?_eq_some_iff.1 K3.out).1).trans K3.out)
  have R4 := Lib.hid (R3.out.below hb4)
  have hne : g1 ≠ g3 := by have := (Array.getElem?_eq_some_iff.1 K3.out).1; omega
  have hlw : w.heap.size ≤ g3 := Nat.le_trans G3.out.size lg3
  have H4 := Lib.hid h4
  clear h4 hb4 R3 K3
  go_wp2_with (refine wpList_gstore rfl _ _ rfl g3 rfl (dcs (a1 : Int) (a2 : Int)) rfl _ _ H4.out (sizeDt _ _) rfl (dcs_one _ _) ?_)
  intro w5 h5 g5
  have b5 := grown_below g5 G4.out.size hlw
  have R5 := Lib.hid (R4.out.under HB.out b5)
  have G5 := Lib.hid (grown_onE G4.out g5 hlw)
  have K5 := Lib.hid ((g5.block _ (Array.getElem?_eq_some_iff.1 K4.out).1 (by simpa using hne)).trans K4.out)
  have V5 : Hid (w5.rangeAt g3 0 [.int .i64 (a1 : Int), .int .i64 (a2 : Int)]) := Lib.hid (range_of_block h5)
  have E5 := Lib.hid (err_any B t2 w5 R5.out)
  have SZD : (Tryd.prog.info? 53).map (·.size) = some [Value.int .i64 (a1 : Int), .int .i64 (a2 : Int)].length := by kernel_rfl
  clear h5 g5 b5 H4 K4 R4
  go_wp2_with fail
  refine E5.out.mono ?_
  rintro e w6 ⟨rfl, rfl⟩
  clear E5
  by_cases he : t2.2 = 0
  · have HE : Hid (DP = ((a1 : Int), (a2 : Int))) := Lib.hid (by rw [PD.out, if_pos he])
    rw [he]
    clear he PD
    go_wp2_with (first | refine wpList_gload rfl _ rfl g3 0 rfl _ V5.out _ Tryd.underlying53 rfl SZD ?_ | refine wpList_gstore rfl _ _ rfl g1 rfl (dcs (a1 : Int) (a2 : Int)) rfl _ _ K5.out (sizeDt _ _) rfl (dcs_one _ _) ?_)
    intro w7 h7 g7
    have b7 := grown_below g7 G5.out.size lg1
    have R7 := Lib.hid (R5.out.under HB.out b7)
    have G7 := Lib.hid (grown_onE G5.out g7 lg1)
    have H7 := Lib.hid h7
    clear h7 g7 b7
    go_wp2
    exact bodyPost_ret (v := .agg (dcs (a1 : Int) (a2 : Int))) (results_cell_row rfl _ w7 g1 _ _ (0, 0) _ rfl H7.out Tryd.underlying53 rfl (sizeDt _ _)) rfl ⟨by rw [HE.out], R7.out, G7.out⟩
  · have HE : Hid (DP = (0, 0)) := Lib.hid (by rw [PD.out, if_neg he])
    have hn : (((t2.2 : Nat) : Int) != 0) = true := by simpa using he
    clear he PD
    go_wp2_with (first | refine wpList_pbuild (by rfl) _ rfl (dcs 0 0) (by simp only [List.map_toArray, List.map_nil]; exact builtDt0C _) ?_ | refine wpList_gstore rfl _ _ rfl g1 rfl (dcs 0 0) rfl _ _ K5.out (sizeDt _ _) rfl (dcs_one _ _) ?_)
    intro w7 h7 g7
    have b7 := grown_below g7 G5.out.size lg1
    have R7 := Lib.hid (R5.out.under HB.out b7)
    have G7 := Lib.hid (grown_onE G5.out g7 lg1)
    have H7 := Lib.hid h7
    clear h7 g7 b7
    go_wp2
    exact bodyPost_ret (v := .agg (dcs 0 0)) (results_cell_row rfl _ w7 g1 _ _ (0, 0) _ rfl H7.out Tryd.underlying53 rfl (sizeDt _ _)) rfl ⟨by rw [HE.out], R7.out, G7.out⟩
set_option maxHeartbeats 4000000 in
theorem readWrite_any (B : Nat) (s : Cod.S) (w : World) (h : RdA w B s) (hl : s.1.length ≤ 1000000) :
    Calls Tryd.prog 55 #[.pointer (some ⟨B, 0, none⟩)] w (GotA w B (.agg (wrP s).cells.toArray) (Cod.wrS s).2) := by
  have HB := Lib.hid h.lt
  have H := Lib.hid h
  have hB := h.lt
  clear h
  have n1 := Cod.dotS_len s; have n2 := Cod.timeS_len s; have n3 := Cod.docS_len s; have n4 := Cod.fldS_len s
  have C1 : Hid (∀ V : World, RdA V B s → Calls Tryd.prog 72 #[.pointer (some ⟨B, 0, none⟩)] V (GotA V B (.agg (dcs (dotP s).1 (dotP s).2)) (Cod.dotS s).2)) := Lib.hid fun V hV => readDot_any B s V hV hl
  have C2 : Hid (∀ V : World, RdA V B (Cod.dotS s).2 → Calls Tryd.prog 31 #[.pointer (some ⟨B, 0, none⟩), .int .i64 1099511627776] V (GotA V B (.int .i64 (Cod.timeS s).1) (Cod.timeS s).2)) := Lib.hid fun V hV => by unfold Cod.timeS; exact num_all B _ _ V hV (by omega) (by omega)
  have C3 : Hid (∀ V : World, RdA V B (Cod.timeS s).2 → Calls Tryd.prog 73 #[.pointer (some ⟨B, 0, none⟩), .int .i64 12] V (GotA V B (.string (Cod.docS s).1) (Cod.docS s).2)) := Lib.hid fun V hV => by unfold Cod.docS; exact text_all B _ _ V hV (by omega) (by omega)
  have C4 : Hid (∀ V : World, RdA V B (Cod.docS s).2 → Calls Tryd.prog 31 #[.pointer (some ⟨B, 0, none⟩), .int .i64 4] V (GotA V B (.int .i64 (Cod.fldS s).1) (Cod.fldS s).2)) := Lib.hid fun V hV => by unfold Cod.fldS; exact num_all B _ _ V hV (by omega) (by omega)
  have C5 : Hid (∀ V : World, RdA V B (Cod.fldS s).2 → Calls Tryd.prog 73 #[.pointer (some ⟨B, 0, none⟩), .int .i64 160] V (GotA V B (.string (Cod.txtS s).1) (Cod.txtS s).2)) := Lib.hid fun V hV => by unfold Cod.txtS; exact text_all B _ _ V hV (by omega) (by omega)
  rw [Cod.wrS_eq]
  unfold wrP
  clear n1 n2 n3 n4
  generalize dotP s = DP at *
  generalize Cod.dotS s = D1 at *
  generalize Cod.timeS s = D2 at *
  generalize Cod.docS s = D3 at *
  generalize Cod.fldS s = D4 at *
  generalize Cod.txtS s = D5 at *
  obtain ⟨r, n⟩ := DP
  obtain ⟨t, t2⟩ := D2
  obtain ⟨d, t3⟩ := D3
  obtain ⟨f, t4⟩ := D4
  obtain ⟨x, t5⟩ := D5
  simp only at C1 C2 C3 C4 C5 ⊢
  go_enter Tryd.func55, Tryd.ntmps55
  go_wp2_with (refine wpList_galloc _ zeroWrC rfl rfl ?_)
  intro g1 w1 lg1 hg1 hb1
  have K1 := Lib.hid hg1
  have R1 := Lib.hid (H.out.below hb1)
  have G1 := Lib.hid (grown_less (R := some B) hb1)
  clear hb1 hg1
  go_wp2_with fail
  refine (C1.out w1 R1.out).mono ?_
  rintro e w2 ⟨rfl, hr, hg⟩
  have G2 := Lib.hid (grown_trans G1.out hg)
  have K2 := Lib.hid (grown_step G1.out hg HB.out lg1 K1.out)
  have R2 := Lib.hid hr
  clear hr hg C1 K1 R1
  go_wp2_with fail
  refine (C2.out w2 R2.out).mono ?_
  rintro e w3 ⟨rfl, hr, hg⟩
  have G3 := Lib.hid (grown_trans G2.out hg)
  have K3 := Lib.hid (grown_step G2.out hg HB.out lg1 K2.out)
  have R3 := Lib.hid hr
  clear hr hg C2 K2 R2
  go_wp2_with fail
  refine (C3.out w3 R3.out).mono ?_
  rintro e w4 ⟨rfl, hr, hg⟩
  have G4 := Lib.hid (grown_trans G3.out hg)
  have K4 := Lib.hid (grown_step G3.out hg HB.out lg1 K3.out)
  have R4 := Lib.hid hr
  clear hr hg C3 K3 R3
  go_wp2_with fail
  refine (C4.out w4 R4.out).mono ?_
  rintro e w5 ⟨rfl, hr, hg⟩
  have G5 := Lib.hid (grown_trans G4.out hg)
  have K5 := Lib.hid (grown_step G4.out hg HB.out lg1 K4.out)
  have R5 := Lib.hid hr
  clear hr hg C4 K4 R4
  go_wp2_with fail
  refine (C5.out w5 R5.out).mono ?_
  rintro e w6 ⟨rfl, hr, hg⟩
  have G6 := Lib.hid (grown_trans G5.out hg)
  have K6 := Lib.hid (grown_step G5.out hg HB.out lg1 K5.out)
  have R6 := Lib.hid hr
  clear hr hg C5 K5 R5
  go_wp2_with (first | refine wpList_pbuild (by rfl) _ rfl (Wr.cells ⟨r, n, (t : Int), d, (f : Int), x⟩).toArray (by simp only [List.map_toArray, List.map_cons, List.map_nil]; exact builtWro r n (t : Int) d (f : Int) x _) ?_ | refine wpList_gstore rfl _ _ rfl g1 rfl (Wr.cells ⟨r, n, (t : Int), d, (f : Int), x⟩).toArray rfl _ _ K6.out (by kernel_rfl) (by rfl) (fun v hv => Wr.cells_one _ v (by simpa using hv)) ?_)
  intro w8 h8 g8
  have H8 := Lib.hid h8
  have b8 := grown_below g8 G6.out.size lg1
  have R8 := Lib.hid (R6.out.under HB.out b8)
  have G8 := Lib.hid (grown_onE G6.out g8 lg1)
  clear h8 g8 b8
  go_wp2
  exact bodyPost_ret (v := .agg (Wr.cells ⟨r, n, (t : Int), d, (f : Int), x⟩).toArray) (results_cell_row rfl _ w8 g1 _ _ (0, 0) _ rfl H8.out Tryd.underlying55 rfl (by kernel_rfl)) rfl ⟨rfl, R8.out, G8.out⟩
end Go.Proofs.YtpngmjfnpdjjcaaDoor
