/- The statement WireTold, proved for every input that its row reads: part 40 of 54. -/
import Derived.Test.YtgcbeeokddaihaaDoorPackWireTold39
import Derived.Test.YtgcbeeokddaihaaDoorPackWireTold32
/- docs: a write that was written is read. -/
namespace Go.Proofs.YtgcbeeokddaihaaDoor
open Go Go.RowKit
set_option linter.unusedVariables false
set_option maxRecDepth 1000000

theorem zeroWrC (w : World) : (zeroValue 57).run Tryd.prog w = .ok (.agg (Wr.cells ⟨0, 0, 0, ByteArray.empty, 0, ByteArray.empty⟩).toArray) w := by kernel_rfl
set_option maxHeartbeats 8000000 in
theorem readWrite_live (B : Nat) (y : Wr) (l : List UInt8) (w : World) (h : Rd w B (wtB y ++ l)) (hy : chk (putE y) = 0) (hl : l.length ≤ 145000000000000) :
    Calls Tryd.prog 56 #[.pointer (some ⟨B, 0, none⟩)] w (GotW w B (.agg y.cells.toArray) l) := by
  have FN := fine_of hy
  have HB := Lib.hid h.lt'
  have hB := h.lt'
  clear hy
  obtain ⟨fdot, ftime, fdoc, fmany, fgone, fkind, ffield, ftext⟩ := FN
  obtain ⟨r, n, t, d, fl, tx⟩ := y
  simp only [putE] at fdot ftime fdoc ffield ftext
  clear fmany fgone fkind
  obtain ⟨t', rfl⟩ : ∃ t' : Nat, t = (t' : Int) := ⟨t.toNat, by omega⟩
  obtain ⟨f', rfl⟩ : ∃ f' : Nat, fl = (f' : Int) := ⟨fl.toNat, by omega⟩
  have e1 := enc_len t'; have e3 := enc_len d.data.toList.length; have e4 := enc_len f'; have e5 := enc_len tx.data.toList.length
  have hd : d.data.toList.length = d.size := Array.length_toList
  have htx : tx.data.toList.length = tx.size := Array.length_toList
  have hdl : d.data.toList.length ≤ 12 := by omega
  have htl : tx.data.toList.length ≤ 160 := by omega
  obtain ⟨T7, q7⟩ : ∃ X, Cod.enc tx.data.toList.length ++ (tx.data.toList ++ l) = X := ⟨_, rfl⟩
  obtain ⟨T6, q6⟩ : ∃ X, Cod.enc f' ++ T7 = X := ⟨_, rfl⟩
  obtain ⟨T5, q5⟩ : ∃ X, Cod.enc d.data.toList.length ++ (d.data.toList ++ T6) = X := ⟨_, rfl⟩
  obtain ⟨T3, q3⟩ : ∃ X, Cod.enc t' ++ T5 = X := ⟨_, rfl⟩
  have hR : wtB ⟨r, n, (t' : Int), d, (f' : Int), tx⟩ ++ l = dotB (r, n) ++ T3 := by
    rw [← q3, ← q5, ← q6, ← q7]
    unfold wtB
    simp only [Int.toNat_natCast, List.append_assoc, hd, htx]
  rw [hR] at h
  have n7 : T7.length ≤ l.length + 400 := by rw [← q7, List.length_append, List.length_append]; omega
  have n6 : T6.length ≤ l.length + 410 := by rw [← q6, List.length_append]; omega
  have n5 : T5.length ≤ l.length + 440 := by rw [← q5, List.length_append, List.length_append]; omega
  have n3 : T3.length ≤ l.length + 460 := by rw [← q3, List.length_append]; omega
  have Q7 := Lib.hid q7; have Q6 := Lib.hid q6; have Q5 := Lib.hid q5; have Q3 := Lib.hid q3
  clear q7 q6 q5 q3 hR hd htx
  have H := Lib.hid h
  clear h
  go_enter Tryd.func56, Tryd.ntmps56
  go_wp2_with (refine wpList_galloc _ zeroWrC rfl rfl ?_)
  intro g1 w1 lg1 hg1 hb1
  have K1 := Lib.hid hg1
  have N1 := Lib.hid (readDot_live B r n T3 _ (H.out.on hb1) fdot (by omega))
  have G1 := Lib.hid (grown_less (R := some B) hb1)
  clear hb1 hg1
  go_wp2_with fail
  refine N1.out.mono ?_
  rintro e w2 ⟨rfl, hr, hg⟩
  rw [← Q3.out] at hr
  have G2 := Lib.hid (grown_trans G1.out hg)
  have K2 := Lib.hid (grown_step G1.out hg HB.out lg1 K1.out)
  have N2 := Lib.hid (numIn_live B t' 1099511627776 T5 w2 hr (by omega) (by omega) (by simp only [List.length_append]; omega))
  clear hr hg N1 K1
  go_wp2_with fail
  refine N2.out.mono ?_
  rintro e w4 ⟨rfl, hr, hg⟩
  rw [← Q5.out] at hr
  have G4 := Lib.hid (grown_trans G2.out hg)
  have K4 := Lib.hid (grown_step G2.out hg HB.out lg1 K2.out)
  have N4 := Lib.hid (textIn_live B 12 d.data.toList T6 w4 hr (by omega) (by omega) (by simp only [List.length_append]; omega))
  clear hr hg N2 K2
  rw [str_back d] at N4
  go_wp2_with fail
  refine N4.out.mono ?_
  rintro e w5 ⟨rfl, hr, hg⟩
  rw [← Q6.out] at hr
  have G5 := Lib.hid (grown_trans G4.out hg)
  have K5 := Lib.hid (grown_step G4.out hg HB.out lg1 K4.out)
  have N5 := Lib.hid (numIn_live B f' 4 T7 w5 hr (by omega) (by omega) (by simp only [List.length_append]; omega))
  clear hr hg N4 K4
  go_wp2_with fail
  refine N5.out.mono ?_
  rintro e w6 ⟨rfl, hr, hg⟩
  rw [← Q7.out] at hr
  have G6 := Lib.hid (grown_trans G5.out hg)
  have K6 := Lib.hid (grown_step G5.out hg HB.out lg1 K5.out)
  have N6 := Lib.hid (textIn_live B 160 tx.data.toList l w6 hr (by omega) (by omega) (by simp only [List.length_append]; omega))
  clear hr hg N5 K5
  rw [str_back tx] at N6
  go_wp2_with fail
  refine N6.out.mono ?_
  rintro e w7 ⟨rfl, hr, hg⟩
  have G7 := Lib.hid (grown_trans G6.out hg)
  have K7 := Lib.hid (grown_step G6.out hg HB.out lg1 K6.out)
  have R7 := Lib.hid hr
  clear hr hg N6 K6
  go_wp2_with (first | refine wpList_pbuild (by rfl) _ rfl (Wr.cells ⟨r, n, (t' : Int), d, (f' : Int), tx⟩).toArray (by simp only [List.map_toArray, List.map_cons, List.map_nil]; exact builtWro r n (t' : Int) d (f' : Int) tx _) ?_ | refine wpList_gstore rfl _ _ rfl g1 rfl (Wr.cells ⟨r, n, (t' : Int), d, (f' : Int), tx⟩).toArray rfl _ _ K7.out (by kernel_rfl) (by rfl) (fun v hv => Wr.cells_one _ v (by simpa using hv)) ?_)
  intro w8 h8 g8
  have H8 := Lib.hid h8
  have b8 := grown_below g8 G7.out.size lg1
  have R8 := Lib.hid (R7.out.under' HB.out b8)
  have G8 : Hid (w.grownBy w8 (some B)) := Lib.hid ⟨g8.os.trans G7.out.os, g8.tape.trans G7.out.tape, g8.output.trans G7.out.output, Nat.le_trans G7.out.size g8.size, fun i hi hne => (g8.block i (Nat.lt_of_lt_of_le hi G7.out.size) (by simp; omega)).trans (G7.out.block i hi hne)⟩
  clear h8 g8 b8
  go_wp2
  exact bodyPost_ret (v := .agg (Wr.cells ⟨r, n, (t' : Int), d, (f' : Int), tx⟩).toArray) (results_cell_row rfl _ w8 g1 _ _ (0, 0) _ rfl H8.out Tryd.underlying57 rfl (by kernel_rfl)) rfl ⟨rfl, R8.out, G8.out⟩
end Go.Proofs.YtgcbeeokddaihaaDoor
