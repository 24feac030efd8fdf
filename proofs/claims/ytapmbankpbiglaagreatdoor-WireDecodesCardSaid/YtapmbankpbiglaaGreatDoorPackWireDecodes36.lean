/- The statement WireDecodes, proved for every input that its row reads: part 36 of 54. -/
import Derived.Test.YtapmbankpbiglaaGreatDoorPackWireDecodes21
import Derived.Test.YtapmbankpbiglaaGreatDoorPackWireDecodes33
import Derived.Test.YtapmbankpbiglaaGreatDoorPackWireDecodes35
/- docs: a write that was written is read. -/
namespace Go.Proofs.YtapmbankpbiglaaGreatDoor
open Go Go.RowKit
set_option linter.unusedVariables false
set_option maxRecDepth 1000000

theorem zeroWrC (w : World) : (zeroValue 83).run Tryz.prog w = .ok (.agg (Wr.cells ⟨0, 0, 0, ByteArray.empty, 0, ByteArray.empty⟩).toArray) w := by kernel_rfl
set_option maxHeartbeats 8000000 in
theorem readWrite_live (B : Nat) (y : Wr) (l : List UInt8) (w : World) (h : Rd w B (wtB y ++ l)) (hy : chk (putE y) = 0) (hl : l.length ≤ 145000000000000) :
    Calls Tryz.prog 56 #[.pointer (some ⟨B, 0, none⟩)] w (GotW w B (.agg y.cells.toArray) l) := by
  have FN := fine_of hy
  have HB := Lib.hid h.lt'
  have hB := h.lt'
  clear hy
  obtain ⟨fdot, ftime, fdoc, fmany, fgone, fkind, ffield, ftext⟩ := FN
  obtain ⟨r, n, t, d, fl, tx⟩ := y
  simp only [putE] at fdot ftime fdoc ffield ftext
  clear fmany fgone fkind
  obtain ⟨t', rfl⟩ : ∃ t' : Nat, t = (t' : Int) := ⟨t.toNat, by omega⟩
  obtain ⟨f', rfl⟩ : ∃ f' : Nat, fl = (f' : Int) := ⟨fl.toNat, by omega⟩
  have e1 := enc_len t'; have e3 := enc_len d.data.toList.length; have e4 := enc_len f'; have e5 := enc_len tx.data.toList.length
  have hd : d.data.toList.length = d.size := Array.length_toList
  have htx : tx.data.toList.length = tx.size := Array.length_toList
  have hdl : d.data.toList.length ≤ 12 := by omega
  have htl : tx.data.toList.length ≤ 160 := by omega
  obtain ⟨T7, q7⟩ : ∃ X, Cod.enc tx.data.toList.length ++ (tx.data.toList ++ l) = X := ⟨_, rfl⟩
  obtain ⟨T6, q6⟩ : ∃ X, Cod.enc f' ++ T7 = X := ⟨_, rfl⟩
  obtain ⟨T5, q5⟩ : ∃ X, Cod.enc d.data.toList.length ++ (d.data.toList ++ T6) = X := ⟨_, rfl⟩
  obtain ⟨T3, q3⟩ : ∃ X, Cod.enc t' ++ T5 = X := ⟨_, rfl⟩
  have hR : wtB ⟨r, n, (t' : Int), d, (f' : Int), tx⟩ ++ l = dotB (r, n) ++ T3 := by
    rw [← q3, ← q5, ← q6, ← q7]
    unfold wtB
    simp only [Int.toNat_natCast, List.append_assoc, hd, htx]
  rw [hR] at h
  have n7 : T7.length ≤ l.length + 400 := by rw [← q7, List.length_append, List.length_append]; omega
  have n6 : T6.length ≤ l.length + 410 := by rw [← q6, List.length_append]; omega
  have n5 : T5.length ≤ l.length + 440 := by rw [← q5, List.length_append, List.length_append]; omega
  have n3 : T3.length ≤ l.length + 460 := by rw [← q3, List.length_append]; omega
  have Q7 := Lib.hid q7; have Q6 := Lib.hid q6; have Q5 := Lib.hid q5; have Q3 := Lib.hid q3
  clear q7 q6 q5 q3 hR hd htx
  have H := Lib.hid h
  clear h
  go_enter Tryz.func56, Tryz.ntmps56
  go_wp2_with (refine wpList_galloc _ zeroWrC rfl rfl ?_)
  intro g1 w1 lg1 hg1 hb1
  have K1 := Lib.hid hg1
  have N1 := Lib.hid (readDot_live B r n T3 _ (H.out.on hb1) fdot (by omega))
  have G1 := Lib.hid (grown_less (R := some B) hb1)
  clear hb1 hg1
  go_wp2_with fail
  refine N1.out.mono ?_
  rintro e w2 ⟨rfl, hr, hg⟩
  rw [← Q3.out] at hr
  have G2 := Lib.hid (grown_trans G1.out hg)
  have K2 := Lib.hid (grown_step G1.out hg HB.out lg1 K1.out)
  have N2 := Lib.hid (numIn_live B t' 1099511627776 T5 w2 hr (by omega) (by omega) (by simp only [List.length_append]; omega))
  clear hr hg N1 K1
  go_wp2_with fail
  refine N2.out.mono ?_
  rintro e w4 ⟨rfl, hr, hg⟩
  rw [← Q5.out] at hr
  have G4 := Lib.hid (grown_trans G2.out hg)
  have K4 := Lib.hid (grown_step G2.out hg HB.out lg1 K2.out)
  have N4 := Lib.hid (textIn_live B 12 d.data.toList T6 w4 hr (by omega) (by omega) (by simp only [List.length_append]; omega))
  clear hr hg N2 K2
  rw [str_back d] at N4
  go_wp2_with fail
  refine N4.out.mono ?_
  rintro e w5 ⟨rfl, hr, hg⟩
  rw [← Q6.out] at hr
  have G5 := Lib.hid (grown_trans G4.out hg)
  have K5 := Lib.hid (grown_step G4.out hg HB.out lg1 K4.out)
  have N5 := Lib.hid (numIn_live B f' 4 T7 w5 hr (by omega) (by omega) (by simp only [List.length_append]; omega))
  clear hr hg N4 K4
  go_wp2_with fail
  refine N5.out.mono ?_
  rintro e w6 ⟨rfl, hr, hg⟩
  rw [← Q7.out] at hr
  have G6 := Lib.hid (grown_trans G5.out hg)
  have K6 := Lib.hid (grown_step G5.out hg HB.out lg1 K5.out)
  have N6 := Lib.hid (textIn_live B 160 tx.data.toList l w6 hr (by omega) (by omega) (by simp only [List.length_append]; omega))
  clear hr hg N5 K5
  rw [str_back tx] at N6
  go_wp2_with fail
  refine N6.out.mono ?_
  rintro e w7 ⟨rfl, hr, hg⟩
  have G7 := Lib.hid (grown_trans G6.out hg)
  have K7 := Lib.hid (grown_step G6.out hg HB.out lg1 K6.out)
  have R7 := Lib.hid hr
  clear hr hg N6 K6
  go_wp2_with (first | refine wpList_pbuild (by rfl) _ rfl (Wr.cells ⟨r, n, (t' : Int), d, (f' : Int), tx⟩).toArray (by simp only [List.map_toArray, List.map_cons, List.map_nil]; exact builtWro r n (t' : Int) d (f' : Int) tx _) ?_ | refine wpList_gstore rfl _ _ rfl g1 rfl (Wr.cells ⟨r, n, (t' : Int), d, (f' : Int), tx⟩).toArray rfl _ _ K7.out (by kernel_rfl) (by rfl) (fun v hv => Wr.cells_one _ v (by simpa using hv)) ?_)
  intro w8 h8 g8
  have H8 := Lib.hid h8
  have b8 := grown_below g8 G7.out.size lg1
  have R8 := Lib.hid (R7.out.under' HB.out b8)
  have G8 : Hid (w.grownBy w8 (some B)) := Lib.hid ⟨g8.os.trans G7.out.os, g8.tape.trans G7.out.tape, g8.output.trans G7.out.output, Nat.le_trans G7.out.size g8.size, fun i hi hne => (g8.block i (Nat.lt_of_lt_of_le hi G7.out.size) (by simp; omega)).trans (G7.out.block i hi hne)⟩
  clear h8 g8 b8
  go_wp2
  exact bodyPost_ret (v := .agg (Wr.cells ⟨r, n, (t' : Int), d, (f' : Int), tx⟩).toArray) (results_cell_row rfl _ w8 g1 _ _ (0, 0) _ rfl H8.out Tryz.underlying83 rfl (by kernel_rfl)) rfl ⟨rfl, R8.out, G8.out⟩
end Go.Proofs.YtapmbankpbiglaaGreatDoor
/- docs: a write of any bytes, as the program reads it. -/
namespace Go.Proofs.YtapmbankpbiglaaGreatDoor
open Go Go.RowKit
set_option linter.unusedVariables false
set_option maxRecDepth 1000000

namespace Cod
/-- what reading a dot comes to -/
def dotS (s : S) : Dt × S := ((((numS 63 s).1 : Int), ((numS 1073741824 (numS 63 s).2).1 : Int)), (numS 1073741824 (numS 63 s).2).2)
def timeS (s : S) : Nat × S := numS 1099511627776 (dotS s).2
def docS (s : S) : ByteArray × S := textS 12 (timeS s).2
def fldS (s : S) : Nat × S := numS 4 (docS s).2
def txtS (s : S) : ByteArray × S := textS 160 (fldS s).2
/-- what reading a write comes to -/
def wrS (s : S) : Wr × S := (⟨(dotS s).1.1, (dotS s).1.2, (timeS s).1, (docS s).1, (fldS s).1, (txtS s).1⟩, (txtS s).2)
/-- and so many -/
def wrsS : Nat → S → List Wr × S
  | 0, s => ([], s)
  | n + 1, s => ((wrsS n s).1 ++ [(wrS (wrsS n s).2).1], (wrS (wrsS n s).2).2)
theorem wrsS_length (n : Nat) (s : S) : (wrsS n s).1.length = n := by
  induction n with
  | zero => rfl
  | succ n ih => simp [wrsS, ih]
theorem numS_keep {most : Int} {s : S} (h : (numS most s).2.2 = 0) (hm : 0 ≤ most) : s.2 = 0 := by
  by_cases e : s.2 = 0
  · exact e
  · rw [numS_err e hm] at h; exact h
theorem textS_keep {most : Int} {s : S} (h : (textS most s).2.2 = 0) (hm : 0 ≤ most) : s.2 = 0 := by
  by_cases e : s.2 = 0
  · exact e
  · rw [textS_err e hm] at h; exact h
theorem dotS_eq (s : S) : (dotS s).2 = (numS 1073741824 (numS 63 s).2).2 := by simp only [dotS]
theorem wrS_eq (s : S) : (wrS s).2 = (txtS s).2 := by simp only [wrS]
theorem dotS_err {s : S} (h : s.2 ≠ 0) : (dotS s).2 = s := by
  have h1 : (numS 63 s).2 = s := congrArg Prod.snd (numS_err h (by decide))
  rw [dotS_eq, h1]
  exact congrArg Prod.snd (numS_err h (by decide))
theorem wrS_err {s : S} (h : s.2 ≠ 0) : (wrS s).2 = s := by
  have h1 : (timeS s).2 = s := by unfold timeS; rw [dotS_err h]; exact congrArg Prod.snd (numS_err h (by decide))
  have h2 : (docS s).2 = s := by unfold docS; rw [h1]; exact congrArg Prod.snd (textS_err h (by decide))
  have h3 : (fldS s).2 = s := by unfold fldS; rw [h2]; exact congrArg Prod.snd (numS_err h (by decide))
  rw [wrS_eq]
  unfold txtS; rw [h3]; exact congrArg Prod.snd (textS_err h (by decide))
theorem wrS_keep {s : S} (h : (wrS s).2.2 = 0) : s.2 = 0 := by
  by_cases e : s.2 = 0
  · exact e
  · rw [wrS_err e] at h; exact h
theorem wrS_dot {s : S} (h : (wrS s).2.2 = 0) : (dotS s).2.2 = 0 := by
  rw [wrS_eq] at h
  unfold txtS at h
  have h2 := textS_keep h (by decide)
  unfold fldS at h2
  have h3 := numS_keep h2 (by decide)
  unfold docS at h3
  have h4 := textS_keep h3 (by decide)
  unfold timeS at h4
  exact numS_keep h4 (by decide)
theorem dotS_len (s : S) : (dotS s).2.1.length ≤ s.1.length := by
  rw [dotS_eq]
  exact Nat.le_trans (numS_len _ _) (numS_len _ _)
theorem timeS_len (s : S) : (timeS s).2.1.length ≤ s.1.length := by
  unfold timeS
  exact Nat.le_trans (numS_len _ _) (dotS_len s)
theorem docS_len (s : S) : (docS s).2.1.length ≤ s.1.length := by
  unfold docS
  exact Nat.le_trans (textS_len _ _) (timeS_len s)
theorem fldS_len (s : S) : (fldS s).2.1.length ≤ s.1.length := by
  unfold fldS
  exact Nat.le_trans (numS_len _ _) (docS_len s)
theorem wrS_len (s : S) : (wrS s).2.1.length ≤ s.1.length := by
  rw [wrS_eq]
  unfold txtS
  exact Nat.le_trans (textS_len _ _) (fldS_len s)
theorem wrsS_len (n : Nat) (s : S) : (wrsS n s).2.1.length ≤ s.1.length := by
  induction n with
  | zero => exact Nat.le_refl _
  | succ n ih =>
    have e : (wrsS (n + 1) s).2 = (wrS (wrsS n s).2).2 := by simp only [wrsS]
    rw [e]
    exact Nat.le_trans (wrS_len _) ih
theorem wrsS_step (n : Nat) (s : S) : (wrsS (n + 1) s).2 = (wrS (wrsS n s).2).2 ∧ (wrsS (n + 1) s).1 = (wrsS n s).1 ++ [(wrS (wrsS n s).2).1] := by simp only [wrsS, and_self]
theorem wrsS_keep (n : Nat) (s : S) (h : (wrsS (n + 1) s).2.2 = 0) : (wrsS n s).2.2 = 0 := by
  rw [(wrsS_step n s).1] at h
  exact wrS_keep h
theorem wrsS_stuck {j : Nat} {s : S} (h : (wrsS j s).2.2 ≠ 0) : ∀ d, (wrsS (j + d) s).2 = (wrsS j s).2 := by
  intro d
  induction d with
  | zero => rfl
  | succ d ih =>
    have e : (wrsS (j + (d + 1)) s).2 = (wrS (wrsS (j + d) s).2).2 := by rw [← Nat.add_assoc]; simp only [wrsS]
    rw [e, ih, wrS_err h]
end Cod
/-- what the program makes of a dot: none with an error -/
def dotP (s : Cod.S) : Dt := if (Cod.dotS s).2.2 = 0 then (Cod.dotS s).1 else (0, 0)
def wrP (s : Cod.S) : Wr := ⟨(dotP s).1, (dotP s).2, (Cod.timeS s).1, (Cod.docS s).1, (Cod.fldS s).1, (Cod.txtS s).1⟩
theorem wrP_ok {s : Cod.S} (h : (Cod.wrS s).2.2 = 0) : wrP s = (Cod.wrS s).1 := by
  unfold wrP dotP
  rw [if_pos (Cod.wrS_dot h)]
  simp only [Cod.wrS]
theorem zeroDtC (w : World) : (zeroValue 76).run Tryz.prog w = .ok (.agg (dcs 0 0)) w := by kernel_rfl
theorem builtDtC (a b : Int) (w : World) : (Instr.build 76 #[(0, .int .i64 a), (1, .int .i64 b)]).run Tryz.prog w = .ok (.agg (dcs a b)) w := run_build w _ _ _ (by kernel_rfl)
theorem builtDt0C (w : World) : (Instr.build 76 #[]).run Tryz.prog w = .ok (.agg (dcs 0 0)) w := run_build w _ _ _ (by kernel_rfl)
theorem dcs_one (a b : Int) : ∀ u ∈ (dcs a b).toList, u.oneCell' = true := by intro u hu; simp [dcs] at hu; rcases hu with rfl | rfl <;> rfl
theorem rda_keep {w w' : World} {B T : Nat} {s : Cod.S} (h : RdA w B s) (hT : B < T) (hb : Below T w w') : RdA w' B s := h.under hT hb
set_option maxHeartbeats 4000000 in
theorem readDot_any (B : Nat) (s : Cod.S) (w : World) (h : RdA w B s) (hl : s.1.length ≤ 1000000) :
    Calls Tryz.prog 79 #[.pointer (some ⟨B, 0, none⟩)] w (GotA w B (.agg (dcs (dotP s).1 (dotP s).2)) (Cod.dotS s).2) := by
  have HB := Lib.hid h.lt
  have H := Lib.hid h
  have hB := h.lt
  clear h
  have n1 := Cod.numS_len 63 s
  obtain ⟨N1v, hN1⟩ : ∃ X, Cod.numS 63 s = X := ⟨_, rfl⟩
  rw [hN1] at n1
  obtain ⟨N2v, hN2⟩ : ∃ X, Cod.numS 1073741824 N1v.2 = X := ⟨_, rfl⟩
  have hD : Cod.dotS s = (((N1v.1 : Int), (N2v.1 : Int)), N2v.2) := by unfold Cod.dotS; rw [hN1, hN2]
  have PD : Hid (dotP s = if N2v.2.2 = 0 then ((N1v.1 : Int), (N2v.1 : Int)) else (0, 0)) := Lib.hid (by unfold dotP; rw [hD])
  rw [hD]
  have HN1 := Lib.hid hN1; have HN2 := Lib.hid hN2
  clear hN1 hN2 hD
  obtain ⟨a1, t1⟩ := N1v
  obtain ⟨a2, t2⟩ := N2v
  simp only at PD n1 HN2 ⊢
  obtain ⟨DP, hDP⟩ : ∃ X, dotP s = X := ⟨_, rfl⟩
  rw [hDP] at PD ⊢
  clear hDP
  go_enter Tryz.func79, Tryz.ntmps79
  go_wp2_with (refine wpList_galloc _ zeroDtC rfl rfl ?_)
  intro g1 w1 lg1 h1 hb1
  have K1 := Lib.hid h1
  have G1 := Lib.hid (grown_less (R := some B) hb1)
  have C1 := Lib.hid (num_all B 63 s w1 (H.out.below hb1) (by omega) (by omega))
  rw [HN1.out] at C1
  clear hb1 h1
  go_wp2_with fail
  refine C1.out.mono ?_
  rintro e w2 ⟨rfl, hr, hg⟩
  have G2 := Lib.hid (grown_trans G1.out hg)
  have K2 := Lib.hid (grown_step G1.out hg HB.out lg1 K1.out)
  have C2 := Lib.hid (num_all B 1073741824 t1 w2 hr (by omega) (by omega))
  rw [HN2.out] at C2
  clear hr hg C1 K1
  go_wp2_with fail
  refine C2.out.mono ?_
  rintro e w3 ⟨rfl, hr, hg⟩
  have G3 := Lib.hid (grown_trans G2.out hg)
  have K3 := Lib.hid (grown_step G2.out hg HB.out lg1 K2.out)
  have R3 := Lib.hid hr
  clear hr hg C2 K2
  go_wp2_with (first | refine wpList_pbuild (by rfl) _ rfl (dcs (a1 : Int) (a2 : Int)) (by simp only [List.map_toArray, List.map_cons, List.map_nil]; exact builtDtC _ _ _) ?_ | refine wpList_galloc _ zeroDtC rfl rfl ?_)
  intro g3 w4 lg3 h4 hb4
  have G4 := Lib.hid (grown_on G3.out (hb4.mono G3.out.size))
  have K4 := Lib.hid ((hb4.block _ (Array.getElem?_eq_some_iff.1 K3.out).1).trans K3.out)
  have R4 := Lib.hid (R3.out.below hb4)
  have hne : g1 ≠ g3 := by have := (Array.getElem?_eq_some_iff.1 K3.out).1; omega
  have hlw : w.heap.size ≤ g3 := Nat.le_trans G3.out.size lg3
  have H4 := Lib.hid h4
  clear h4 hb4 R3 K3
  go_wp2_with (refine wpList_gstore rfl _ _ rfl g3 rfl (dcs (a1 : Int) (a2 : Int)) rfl _ _ H4.out (sizeDt _ _) rfl (dcs_one _ _) ?_)
  intro w5 h5 g5
  have b5 := grown_below g5 G4.out.size hlw
  have R5 := Lib.hid (R4.out.under HB.out b5)
  have G5 := Lib.hid (grown_onE G4.out g5 hlw)
  have K5 := Lib.hid ((g5.block _ (Array.getElem?_eq_some_iff.1 K4.out).1 (by simpa using hne)).trans K4.out)
  have V5 : Hid (w5.rangeAt g3 0 [.int .i64 (a1 : Int), .int .i64 (a2 : Int)]) := Lib.hid (range_of_block h5)
  have E5 := Lib.hid (err_any B t2 w5 R5.out)
  have SZD : (Tryz.prog.info? 76).map (·.size) = some [Value.int .i64 (a1 : Int), .int .i64 (a2 : Int)].length := by kernel_rfl
  clear h5 g5 b5 H4 K4 R4
  go_wp2_with fail
  refine E5.out.mono ?_
  rintro e w6 ⟨rfl, rfl⟩
  clear E5
  by_cases he : t2.2 = 0
  · have HE : Hid (DP = ((a1 : Int), (a2 : Int))) := Lib.hid (by rw [PD.out, if_pos he])
    rw [he]
    clear he PD
    go_wp2_with (first | refine wpList_gload rfl _ rfl g3 0 rfl _ V5.out _ Tryz.underlying76 rfl SZD ?_ | refine wpList_gstore rfl _ _ rfl g1 rfl (dcs (a1 : Int) (a2 : Int)) rfl _ _ K5.out (sizeDt _ _) rfl (dcs_one _ _) ?_)
    intro w7 h7 g7
    have b7 := grown_below g7 G5.out.size lg1
    have R7 := Lib.hid (R5.out.under HB.out b7)
    have G7 := Lib.hid (grown_onE G5.out g7 lg1)
    have H7 := Lib.hid h7
    clear h7 g7 b7
    go_wp2
    exact bodyPost_ret (v := .agg (dcs (a1 : Int) (a2 : Int))) (results_cell_row rfl _ w7 g1 _ _ (0, 0) _ rfl H7.out Tryz.underlying76 rfl (sizeDt _ _)) rfl ⟨by rw [HE.out], R7.out, G7.out⟩
  · have HE : Hid (DP = (0, 0)) := Lib.hid (by rw [PD.out, if_neg he])
    have hn : (((t2.2 : Nat) : Int) != 0) = true := by simpa using he
    clear he PD
    go_wp2_with (first | refine wpList_pbuild (by rfl) _ rfl (dcs 0 0) (by simp only [List.map_toArray, List.map_nil]; exact builtDt0C _) ?_ | refine wpList_gstore rfl _ _ rfl g1 rfl (dcs 0 0) rfl _ _ K5.out (sizeDt _ _) rfl (dcs_one _ _) ?_)
    intro w7 h7 g7
    have b7 := grown_below g7 G5.out.size lg1
    have R7 := Lib.hid (R5.out.under HB.out b7)
    have G7 := Lib.hid (grown_onE G5.out g7 lg1)
    have H7 := Lib.hid h7
    clear h7 g7 b7
    go_wp2
    exact bodyPost_ret (v := .agg (dcs 0 0)) (results_cell_row rfl _ w7 g1 _ _ (0, 0) _ rfl H7.out Tryz.underlying76 rfl (sizeDt _ _)) rfl ⟨by rw [HE.out], R7.out, G7.out⟩
set_option maxHeartbeats 4000000 in
theorem readWrite_any (B : Nat) (s : Cod.S) (w : World) (h : RdA w B s) (hl : s.1.length ≤ 1000000) :
    Calls Tryz.prog 56 #[.pointer (some ⟨B, 0, none⟩)] w (GotA w B (.agg (wrP s).cells.toArray) (Cod.wrS s).2) := by
  have HB := Lib.hid h.lt
  have H := Lib.hid h
  have hB := h.lt
  clear h
  have n1 := Cod.dotS_len s; have n2 := Cod.timeS_len s; have n3 := Cod.docS_len s; have n4 := Cod.fldS_len s
  have C1 : Hid (∀ V : World, RdA V B s → Calls Tryz.prog 79 #[.pointer (some ⟨B, 0, none⟩)] V (GotA V B (.agg (dcs (dotP s).1 (dotP s).2)) (Cod.dotS s).2)) := Lib.hid fun V hV => readDot_any B s V hV hl
  have C2 : Hid (∀ V : World, RdA V B (Cod.dotS s).2 → Calls Tryz.prog 30 #[.pointer (some ⟨B, 0, none⟩), .int .i64 1099511627776] V (GotA V B (.int .i64 (Cod.timeS s).1) (Cod.timeS s).2)) := Lib.hid fun V hV => by unfold Cod.timeS; exact num_all B _ _ V hV (by omega) (by omega)
  have C3 : Hid (∀ V : World, RdA V B (Cod.timeS s).2 → Calls Tryz.prog 80 #[.pointer (some ⟨B, 0, none⟩), .int .i64 12] V (GotA V B (.string (Cod.docS s).1) (Cod.docS s).2)) := Lib.hid fun V hV => by unfold Cod.docS; exact text_all B _ _ V hV (by omega) (by omega)
  have C4 : Hid (∀ V : World, RdA V B (Cod.docS s).2 → Calls Tryz.prog 30 #[.pointer (some ⟨B, 0, none⟩), .int .i64 4] V (GotA V B (.int .i64 (Cod.fldS s).1) (Cod.fldS s).2)) := Lib.hid fun V hV => by unfold Cod.fldS; exact num_all B _ _ V hV (by omega) (by omega)
  have C5 : Hid (∀ V : World, RdA V B (Cod.fldS s).2 → Calls Tryz.prog 80 #[.pointer (some ⟨B, 0, none⟩), .int .i64 160] V (GotA V B (.string (Cod.txtS s).1) (Cod.txtS s).2)) := Lib.hid fun V hV => by unfold Cod.txtS; exact text_all B _ _ V hV (by omega) (by omega)
  rw [Cod.wrS_eq]
  unfold wrP
  clear n1 n2 n3 n4
  generalize dotP s = DP at *
  generalize Cod.dotS s = D1 at *
  generalize Cod.timeS s = D2 at *
  generalize Cod.docS s = D3 at *
  generalize Cod.fldS s = D4 at *
  generalize Cod.txtS s = D5 at *
  obtain ⟨r, n⟩ := DP
  obtain ⟨t, t2⟩ := D2
  obtain ⟨d, t3⟩ := D3
  obtain ⟨f, t4⟩ := D4
  obtain ⟨x, t5⟩ := D5
  simp only at C1 C2 C3 C4 C5 ⊢
  go_enter Tryz.func56, Tryz.ntmps56
  go_wp2_with (refine wpList_galloc _ zeroWrC rfl rfl ?_)
  intro g1 w1 lg1 hg1 hb1
  have K1 := Lib.hid hg1
  have R1 := Lib.hid (H.out.below hb1)
  have G1 := Lib.hid (grown_less (R := some B) hb1)
  clear hb1 hg1
  go_wp2_with fail
  refine (C1.out w1 R1.out).mono ?_
  rintro e w2 ⟨rfl, hr, hg⟩
  have G2 := Lib.hid (grown_trans G1.out hg)
  have K2 := Lib.hid (grown_step G1.out hg HB.out lg1 K1.out)
  have R2 := Lib.hid hr
  clear hr hg C1 K1 R1
  go_wp2_with fail
  refine (C2.out w2 R2.out).mono ?_
  rintro e w3 ⟨rfl, hr, hg⟩
  have G3 := Lib.hid (grown_trans G2.out hg)
  have K3 := Lib.hid (grown_step G2.out hg HB.out lg1 K2.out)
  have R3 := Lib.hid hr
  clear hr hg C2 K2 R2
  go_wp2_with fail
  refine (C3.out w3 R3.out).mono ?_
  rintro e w4 ⟨rfl, hr, hg⟩
  have G4 := Lib.hid (grown_trans G3.out hg)
  have K4 := Lib.hid (grown_step G3.out hg HB.out lg1 K3.out)
  have R4 := Lib.hid hr
  clear hr hg C3 K3 R3
  go_wp2_with fail
  refine (C4.out w4 R4.out).mono ?_
  rintro e w5 ⟨rfl, hr, hg⟩
  have G5 := Lib.hid (grown_trans G4.out hg)
  have K5 := Lib.hid (grown_step G4.out hg HB.out lg1 K4.out)
  have R5 := Lib.hid hr
  clear hr hg C4 K4 R4
  go_wp2_with fail
  refine (C5.out w5 R5.out).mono ?_
  rintro e w6 ⟨rfl, hr, hg⟩
  have G6 := Lib.hid (grown_trans G5.out hg)
  have K6 := Lib.hid (grown_step G5.out hg HB.out lg1 K5.out)
  have R6 := Lib.hid hr
  clear hr hg C5 K5 R5
  go_wp2_with (first | refine wpList_pbuild (by rfl) _ rfl (Wr.cells ⟨r, n, (t : Int), d, (f : Int), x⟩).toArray (by simp only [List.map_toArray, List.map_cons, List.map_nil]; exact builtWro r n (t : Int) d (f : Int) x _) ?_ | refine wpList_gstore rfl _ _ rfl g1 rfl (Wr.cells ⟨r, n, (t : Int), d, (f : Int), x⟩).toArray rfl _ _ K6.out (by kernel_rfl) (by rfl) (fun v hv => Wr.cells_one _ v (by simpa using hv)) ?_)
  intro w8 h8 g8
  have H8 := Lib.hid h8
  have b8 := grown_below g8 G6.out.size lg1
  have R8 := Lib.hid (R6.out.under HB.out b8)
  have G8 := Lib.hid (grown_onE G6.out g8 lg1)
  clear h8 g8 b8
  go_wp2
  exact bodyPost_ret (v := .agg (Wr.cells ⟨r, n, (t : Int), d, (f : Int), x⟩).toArray) (results_cell_row rfl _ w8 g1 _ _ (0, 0) _ rfl H8.out Tryz.underlying83 rfl (by kernel_rfl)) rfl ⟨rfl, R8.out, G8.out⟩
end Go.Proofs.YtapmbankpbiglaaGreatDoor
/- An event of any bytes: what reading one comes to, and so many (plain). -/
namespace Go.Proofs.YtapmbankpbiglaaGreatDoor
open Go Go.RowKit
set_option linter.unusedVariables false
set_option maxRecDepth 1000000

namespace Cod
def kinS (K : Int) (s : S) : Nat × S := numS K (timeS s).2
def edcS (K : Int) (s : S) : ByteArray × S := textS 12 (kinS K s).2
def efdS (K : Int) (s : S) : Nat × S := numS 4 (edcS K s).2
def etxS (K : Int) (s : S) : ByteArray × S := textS 160 (efdS K s).2
def ecnS (K : Int) (s : S) : Nat × S := numS 120 (etxS K s).2
/-- so many dots -/
def dotsS : Nat → S → List Dt × S
  | 0, s => ([], s)
  | n + 1, s => ((dotsS n s).1 ++ [(dotS (dotsS n s).2).1], (dotS (dotsS n s).2).2)
theorem dotsS_step (n : Nat) (s : S) : (dotsS (n + 1) s).2 = (dotS (dotsS n s).2).2 ∧ (dotsS (n + 1) s).1 = (dotsS n s).1 ++ [(dotS (dotsS n s).2).1] := by simp only [dotsS, and_self]
/-- what reading an event comes to -/
def evS (K : Int) (s : S) : Ev × S :=
  (⟨(dotS s).1.1, (dotS s).1.2, (timeS s).1, (kinS K s).1, (edcS K s).1, (efdS K s).1, (etxS K s).1, (dotsS (ecnS K s).1 (ecnS K s).2).1⟩, (dotsS (ecnS K s).1 (ecnS K s).2).2)
theorem evS_snd (K : Int) (s : S) : (evS K s).2 = (dotsS (ecnS K s).1 (ecnS K s).2).2 := by simp only [evS]
theorem numS_stuck {most : Int} {s : S} (h : s.2 ≠ 0) (hm : 0 ≤ most) : (numS most s).2 = s := congrArg Prod.snd (numS_err h hm)
theorem textS_stuck {most : Int} {s : S} (h : s.2 ≠ 0) (hm : 0 ≤ most) : (textS most s).2 = s := congrArg Prod.snd (textS_err h hm)
theorem dotsS_stuck {s : S} (h : s.2 ≠ 0) (n : Nat) : (dotsS n s).2 = s := by
  induction n with
  | zero => rfl
  | succ n ih => rw [(dotsS_step n s).1, ih, dotS_err h]
theorem dotS_keep {s : S} (h : (dotS s).2.2 = 0) : s.2 = 0 := by
  by_cases e : s.2 = 0
  · exact e
  · rw [dotS_err e] at h; exact h
theorem dotsS_keep (n : Nat) (s : S) (h : (dotsS (n + 1) s).2.2 = 0) : (dotsS n s).2.2 = 0 := by
  rw [(dotsS_step n s).1] at h
  exact dotS_keep h
theorem dotsS_len (n : Nat) (s : S) : (dotsS n s).2.1.length ≤ s.1.length := by
  induction n with
  | zero => exact Nat.le_refl _
  | succ n ih => rw [(dotsS_step n s).1]; exact Nat.le_trans (dotS_len _) ih
theorem dotsS_length (n : Nat) (s : S) : (dotsS n s).1.length = n := by
  induction n with
  | zero => rfl
  | succ n ih => rw [(dotsS_step n s).2, List.length_append, ih]; rfl
theorem kinS_len (K : Int) (s : S) : (kinS K s).2.1.length ≤ s.1.length := by
  unfold kinS
  exact Nat.le_trans (numS_len _ _) (timeS_len s)
theorem edcS_len (K : Int) (s : S) : (edcS K s).2.1.length ≤ s.1.length := by
  unfold edcS
  exact Nat.le_trans (textS_len _ _) (kinS_len K s)
theorem efdS_len (K : Int) (s : S) : (efdS K s).2.1.length ≤ s.1.length := by
  unfold efdS
  exact Nat.le_trans (numS_len _ _) (edcS_len K s)
theorem etxS_len (K : Int) (s : S) : (etxS K s).2.1.length ≤ s.1.length := by
  unfold etxS
  exact Nat.le_trans (textS_len _ _) (efdS_len K s)
theorem ecnS_len (K : Int) (s : S) : (ecnS K s).2.1.length ≤ s.1.length := by
  unfold ecnS
  exact Nat.le_trans (numS_len _ _) (etxS_len K s)
theorem evS_len (K : Int) (s : S) : (evS K s).2.1.length ≤ s.1.length := by rw [evS_snd]; exact Nat.le_trans (dotsS_len _ _) (ecnS_len K s)
/-- once the kind is wrong, all is -/
theorem evS_kin {K : Int} {s : S} (h : (kinS K s).2.2 ≠ 0) : (evS K s).2 = (kinS K s).2 := by
  have h1 : (edcS K s).2 = (kinS K s).2 := by unfold edcS; exact textS_stuck h (by decide)
  have h2 : (efdS K s).2 = (kinS K s).2 := by unfold efdS; rw [h1]; exact numS_stuck h (by decide)
  have h3 : (etxS K s).2 = (kinS K s).2 := by unfold etxS; rw [h2]; exact textS_stuck h (by decide)
  have h4 : (ecnS K s).2 = (kinS K s).2 := by unfold ecnS; rw [h3]; exact numS_stuck h (by decide)
  rw [evS_snd, h4]
  exact dotsS_stuck h _
theorem evS_ecn {K : Int} {s : S} (h : (ecnS K s).2.2 ≠ 0) : (evS K s).2 = (ecnS K s).2 := by rw [evS_snd]; exact dotsS_stuck h _
theorem evS_err {K : Int} (hK : 0 ≤ K) {s : S} (h : s.2 ≠ 0) : (evS K s).2 = s := by
  have h1 : (timeS s).2 = s := by unfold timeS; rw [dotS_err h]; exact numS_stuck h (by decide)
  have h2 : (kinS K s).2 = s := by unfold kinS; rw [h1]; exact numS_stuck h hK
  rw [evS_kin (by rw [h2]; exact h), h2]
theorem evS_keep {K : Int} (hK : 0 ≤ K) {s : S} (h : (evS K s).2.2 = 0) : s.2 = 0 := by
  by_cases e : s.2 = 0
  · exact e
  · rw [evS_err hK e] at h; exact h
theorem evS_dot {K : Int} (hK : 0 ≤ K) {s : S} (h : (evS K s).2.2 = 0) : (dotS s).2.2 = 0 := by
  by_cases e : (dotS s).2.2 = 0
  · exact e
  · exfalso
    have h1 : (timeS s).2 = (dotS s).2 := by unfold timeS; exact numS_stuck e (by decide)
    have h2 : (kinS K s).2 = (dotS s).2 := by unfold kinS; rw [h1]; exact numS_stuck e hK
    rw [evS_kin (by rw [h2]; exact e), h2] at h
    exact e h
end Cod
/-- an event, and what is behind it; none: there is none -/
noncomputable def evO (K : Int) (s : Cod.S) : Option (Ev × Cod.S) := if (Cod.evS K s).2.2 = 0 ∧ chk (Cod.evS K s).1 = 0 then some (Cod.evS K s) else none
/-- how a call's outcome stands to that -/
def Outc {α : Type} (O : Option (α × Cod.S)) (a : α) (st : Cod.S) : Prop := (O = some (a, st) ∧ st.2 = 0) ∨ (O = none ∧ st.2 ≠ 0)
theorem failS_ne {c : Nat} (hc : c ≠ 0) (s : Cod.S) : (Cod.failS c s).2 ≠ 0 := by
  unfold Cod.failS
  split
  · exact hc
  · assumption
theorem evS_fst (K : Int) (s : Cod.S) : (Cod.evS K s).1 = ⟨(Cod.dotS s).1.1, (Cod.dotS s).1.2, (Cod.timeS s).1, (Cod.kinS K s).1, (Cod.edcS K s).1, (Cod.efdS K s).1, (Cod.etxS K s).1, (Cod.dotsS (Cod.ecnS K s).1 (Cod.ecnS K s).2).1⟩ := by rw [Cod.evS]
theorem evO_of {K : Int} {s : Cod.S} {d : Ev} {t : Cod.S} (e1 : (Cod.evS K s).1 = d) (e2 : (Cod.evS K s).2 = t) (h1 : t.2 = 0) (h3 : chk d = 0) : evO K s = some (d, t) := by
  unfold evO
  generalize Cod.evS K s = q at e1 e2 ⊢
  obtain ⟨a, b⟩ := q
  simp only at e1 e2
  subst e1; subst e2
  exact if_pos ⟨h1, h3⟩
theorem evO_not {K : Int} {s : Cod.S} {d : Ev} {t : Cod.S} (e1 : (Cod.evS K s).1 = d) (e2 : (Cod.evS K s).2 = t) (h : t.2 ≠ 0 ∨ chk d ≠ 0) : evO K s = none := by
  unfold evO
  generalize Cod.evS K s = q at e1 e2 ⊢
  obtain ⟨a, b⟩ := q
  simp only at e1 e2
  subst e1; subst e2
  exact if_neg fun q => h.elim (fun h => h q.1) (fun h => h q.2)
theorem evS_fst' (K : Int) (s : Cod.S) (gs : List Dt) (h2 : gs = (Cod.dotsS (Cod.ecnS K s).1 (Cod.ecnS K s).2).1) : (Cod.evS K s).1 = ⟨(Cod.dotS s).1.1, (Cod.dotS s).1.2, (Cod.timeS s).1, (Cod.kinS K s).1, (Cod.edcS K s).1, (Cod.efdS K s).1, (Cod.etxS K s).1, gs⟩ := by rw [evS_fst, h2]
theorem evO_yesR (K : Int) (s : Cod.S) (gs : List Dt) (h1 : (Cod.dotsS (Cod.ecnS K s).1 (Cod.ecnS K s).2).2.2 = 0) (h2 : gs = (Cod.dotsS (Cod.ecnS K s).1 (Cod.ecnS K s).2).1) (h3 : chk ⟨(Cod.dotS s).1.1, (Cod.dotS s).1.2, (Cod.timeS s).1, (Cod.kinS K s).1, (Cod.edcS K s).1, (Cod.efdS K s).1, (Cod.etxS K s).1, gs⟩ = 0) : evO K s = some (⟨(Cod.dotS s).1.1, (Cod.dotS s).1.2, (Cod.timeS s).1, (Cod.kinS K s).1, (Cod.edcS K s).1, (Cod.efdS K s).1, (Cod.etxS K s).1, gs⟩, (Cod.dotsS (Cod.ecnS K s).1 (Cod.ecnS K s).2).2) := evO_of (evS_fst' K s gs h2) (Cod.evS_snd K s) h1 h3
theorem evO_noR (K : Int) (s : Cod.S) (gs : List Dt) (h2 : gs = (Cod.dotsS (Cod.ecnS K s).1 (Cod.ecnS K s).2).1) (h3 : chk ⟨(Cod.dotS s).1.1, (Cod.dotS s).1.2, (Cod.timeS s).1, (Cod.kinS K s).1, (Cod.edcS K s).1, (Cod.efdS K s).1, (Cod.etxS K s).1, gs⟩ ≠ 0) : evO K s = none := evO_not (evS_fst' K s gs h2) rfl (.inr h3)
theorem evO_no2 (K : Int) (s : Cod.S) (h1 : (Cod.dotsS (Cod.ecnS K s).1 (Cod.ecnS K s).2).2.2 ≠ 0) : evO K s = none := evO_not rfl (Cod.evS_snd K s) (.inl h1)
theorem dotP_ok {K : Int} (hK : 0 ≤ K) {s : Cod.S} (h1 : (Cod.dotsS (Cod.ecnS K s).1 (Cod.ecnS K s).2).2.2 = 0) : dotP s = (Cod.dotS s).1 := by unfold dotP; exact if_pos (Cod.evS_dot hK (by rw [Cod.evS_snd]; exact h1))
theorem evO_yes (K : Int) (hK : 0 ≤ K) (s : Cod.S) (gs : List Dt) (h1 : (Cod.dotsS (Cod.ecnS K s).1 (Cod.ecnS K s).2).2.2 = 0) (h2 : gs = (Cod.dotsS (Cod.ecnS K s).1 (Cod.ecnS K s).2).1) (h3 : chk ⟨(dotP s).1, (dotP s).2, (Cod.timeS s).1, (Cod.kinS K s).1, (Cod.edcS K s).1, (Cod.efdS K s).1, (Cod.etxS K s).1, gs⟩ = 0) : evO K s = some (⟨(dotP s).1, (dotP s).2, (Cod.timeS s).1, (Cod.kinS K s).1, (Cod.edcS K s).1, (Cod.efdS K s).1, (Cod.etxS K s).1, gs⟩, (Cod.dotsS (Cod.ecnS K s).1 (Cod.ecnS K s).2).2) := by
  have hd := dotP_ok hK h1
  rw [hd] at h3 ⊢
  exact evO_yesR K s gs h1 h2 h3
theorem evO_no (K : Int) (hK : 0 ≤ K) (s : Cod.S) (gs : List Dt) (h1 : (Cod.dotsS (Cod.ecnS K s).1 (Cod.ecnS K s).2).2.2 = 0) (h2 : gs = (Cod.dotsS (Cod.ecnS K s).1 (Cod.ecnS K s).2).1) (h3 : chk ⟨(dotP s).1, (dotP s).2, (Cod.timeS s).1, (Cod.kinS K s).1, (Cod.edcS K s).1, (Cod.efdS K s).1, (Cod.etxS K s).1, gs⟩ ≠ 0) : evO K s = none := by
  have hd := dotP_ok hK h1
  rw [hd] at h3
  exact evO_noR K s gs h2 h3
theorem numS_two (s : Cod.S) : Cod.numS 9223372036854775807 s = Cod.numS 2 s ∨ (2 < (Cod.numS 9223372036854775807 s).1 ∧ (Cod.numS 2 s).2.2 ≠ 0) ∨ ((Cod.numS 9223372036854775807 s).2.2 ≠ 0 ∧ (Cod.numS 2 s).2.2 ≠ 0) := by
  have hr := failS_ne (c := 5) (by decide) (Cod.anyS s).2
  unfold Cod.numS
  generalize Cod.anyS s = a at hr
  by_cases h1 : 9223372036854775808 ≤ a.1
  · rw [if_pos (.inl h1), if_pos (.inl h1)]
    exact .inl rfl
  · rw [if_neg (by omega)]
    by_cases h2 : (2 : Int) < (a.1 : Int)
    · rw [if_pos (.inr h2)]
      exact .inr (.inl ⟨by omega, hr⟩)
    · rw [if_neg (by omega)]
      exact .inl rfl
theorem evO_kin {K : Int} {s : Cod.S} (h : (Cod.kinS K s).2.2 ≠ 0) : evO K s = none := by
  unfold evO
  exact if_neg (fun q => h (by rw [← Cod.evS_kin h]; exact q.1))
theorem evO_big {K : Int} {s : Cod.S} (h : 2 < (Cod.kinS K s).1) : evO K s = none := by
  unfold evO
  refine if_neg ?_
  rintro ⟨_, hc⟩
  have h1 := (fine_of hc).kind
  have hk : (Cod.evS K s).1.kind = ((Cod.kinS K s).1 : Int) := by simp only [Cod.evS]
  rw [hk] at h1
  omega
theorem evO_pair {K J : Int} {s : Cod.S} (h : Cod.numS K (Cod.timeS s).2 = Cod.numS J (Cod.timeS s).2 ∨ (2 < (Cod.numS K (Cod.timeS s).2).1 ∧ (Cod.numS J (Cod.timeS s).2).2.2 ≠ 0) ∨ ((Cod.numS K (Cod.timeS s).2).2.2 ≠ 0 ∧ (Cod.numS J (Cod.timeS s).2).2.2 ≠ 0)) : evO K s = evO J s := by
  rcases h with h | ⟨h1, h2⟩ | ⟨h1, h2⟩
  · have hk : Cod.kinS K s = Cod.kinS J s := by unfold Cod.kinS; exact h
    have he : Cod.evS K s = Cod.evS J s := by unfold Cod.evS Cod.ecnS Cod.etxS Cod.efdS Cod.edcS; rw [hk]
    unfold evO
    rw [he]
  · exact (evO_big (by unfold Cod.kinS; exact h1)).trans (evO_kin (by unfold Cod.kinS; exact h2)).symm
  · exact (evO_kin (by unfold Cod.kinS; exact h1)).trans (evO_kin (by unfold Cod.kinS; exact h2)).symm
/-- a limit on the kind or none: it comes to the same events -/
theorem evO_kind (s : Cod.S) : evO 9223372036854775807 s = evO 2 s := evO_pair (numS_two _)
/-- so many events -/
noncomputable def evsO (K : Int) : Nat → Cod.S → Option (List Ev × Cod.S)
  | 0, s => if s.2 = 0 then some ([], s) else none
  | n + 1, s => (evO K s).bind fun q => (evsO K n q.2).map fun r => (q.1 :: r.1, r.2)
theorem evsO_zero (K : Int) (s : Cod.S) : evsO K 0 s = if s.2 = 0 then some ([], s) else none := by rw [evsO]
theorem evsO_succ (K : Int) (n : Nat) (s : Cod.S) : evsO K (n + 1) s = (evO K s).bind fun q => (evsO K n q.2).map fun r => (q.1 :: r.1, r.2) := by rw [evsO]
theorem evsO_congr {K J : Int} (h : ∀ s, evO K s = evO J s) (n : Nat) : ∀ s, evsO K n s = evsO J n s := by
  induction n with
  | zero => intro s; rw [evsO_zero, evsO_zero]
  | succ n ih =>
    intro s
    rw [evsO_succ, evsO_succ, h s, funext ih]
theorem evsO_kind (n : Nat) (s : Cod.S) : evsO 9223372036854775807 n s = evsO 2 n s := evsO_congr evO_kind n s
/-- events, how many ahead -/
noncomputable def lstO (K most : Int) (s : Cod.S) : Option (List Ev × Cod.S) := evsO K (Cod.numS most s).1 (Cod.numS most s).2
theorem evsO_none {K : Int} {n : Nat} {s : Cod.S} (h : evO K s = none) : evsO K (n + 1) s = none := by rw [evsO_succ, h]; rfl
theorem evsO_some {K : Int} {n : Nat} {s t : Cod.S} {e : Ev} (h : evO K s = some (e, t)) : evsO K (n + 1) s = (evsO K n t).map fun q => (e :: q.1, q.2) := by
  rw [evsO_succ, h]; rfl
theorem evO_err {K : Int} (hK : 0 ≤ K) {s : Cod.S} (h : s.2 ≠ 0) : evO K s = none := by
  unfold evO
  exact if_neg (fun q => h (Cod.evS_keep hK q.1))
theorem evO_ok {K : Int} {s t : Cod.S} {e : Ev} (h : evO K s = some (e, t)) : t.2 = 0 ∧ chk e = 0 ∧ t.1.length ≤ s.1.length := by
  unfold evO at h
  split at h
  · rename_i q
    simp only [Option.some.injEq] at h
    rw [h] at q
    refine ⟨q.1, q.2, ?_⟩
    have := Cod.evS_len K s
    rw [h] at this
    exact this
  · cases h
theorem evsO_len {K : Int} {n : Nat} : ∀ {s t : Cod.S} {es : List Ev}, evsO K n s = some (es, t) → es.length = n ∧ t.2 = 0 := by
  induction n with
  | zero =>
    intro s t es h
    rw [evsO_zero] at h
    split at h
    · simp only [Option.some.injEq, Prod.mk.injEq] at h
      obtain ⟨rfl, rfl⟩ := h
      exact ⟨rfl, by assumption⟩
    · cases h
  | succ n ih =>
    intro s t es h
    cases q : evO K s with
    | none => rw [evsO_none q] at h; cases h
    | some a =>
      obtain ⟨e, u⟩ := a
      rw [evsO_some q] at h
      cases r : evsO K n u with
      | none => rw [r] at h; cases h
      | some b =>
        obtain ⟨fs, v⟩ := b
        rw [r] at h
        simp only [Option.map_some, Option.some.injEq, Prod.mk.injEq] at h
        obtain ⟨rfl, rfl⟩ := h
        have := ih r
        exact ⟨by rw [List.length_cons, this.1], this.2⟩
theorem evsO_err {K : Int} (hK : 0 ≤ K) {n : Nat} {s : Cod.S} (h : s.2 ≠ 0) : evsO K n s = none := by
  cases n with
  | zero => rw [evsO_zero]; exact if_neg h
  | succ n => exact evsO_none (evO_err hK h)
theorem evsO_fine {K : Int} {n : Nat} : ∀ {s t : Cod.S} {es : List Ev}, evsO K n s = some (es, t) → ∀ e ∈ es, chk e = 0 := by
  induction n with
  | zero =>
    intro s t es h
    rw [evsO_zero] at h
    split at h
    · simp only [Option.some.injEq, Prod.mk.injEq] at h
      obtain ⟨rfl, rfl⟩ := h
      intro e he; cases he
    · cases h
  | succ n ih =>
    intro s t es h
    cases q : evO K s with
    | none => rw [evsO_none q] at h; cases h
    | some a =>
      obtain ⟨e, u⟩ := a
      rw [evsO_some q] at h
      cases r : evsO K n u with
      | none => rw [r] at h; cases h
      | some b =>
        obtain ⟨fs, v⟩ := b
        rw [r] at h
        simp only [Option.map_some, Option.some.injEq, Prod.mk.injEq] at h
        obtain ⟨rfl, rfl⟩ := h
        intro x hx
        rcases List.mem_cons.1 hx with rfl | hx
        · exact (evO_ok q).2.1
        · exact ih r x hx
end Go.Proofs.YtapmbankpbiglaaGreatDoor
