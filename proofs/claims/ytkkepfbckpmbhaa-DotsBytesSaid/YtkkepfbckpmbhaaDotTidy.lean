/- Tidy at the example. -/
import Derived.Test.YtkkepfbckpmbhaaDotCtx
namespace Go.Proofs.Ytkkepfbckpmbhaa
open Go Go.RowKit
set_option linter.unusedVariables false

def Tidied (w : World) (e : Ending) (w' : World) : Prop :=
  ∃ F q cap, e = .returned (.agg (ccs F (.slice (some ⟨q, 0, none⟩) 1 cap))) ∧ F 0 = 4 ∧ w'.cell? ⟨q, 0, none⟩ = some (.int .i64 0) ∧ w'.cell? ⟨q, 1, none⟩ = some (.int .i64 6) ∧ Below w.heap.size w w'
theorem zeroD (w : World) : (zeroValue 23).run Try.prog w = .ok (.agg (dcs 0 0)) w := by kernel_rfl
theorem sizeD (r n : Int) : (Try.prog.info? 23).map (·.size) = some (dcs r n).size := by kernel_rfl
theorem sizeDl (r n : Int) : (Try.prog.info? 23).map (·.size) = some (dcs r n).toList.length := by kernel_rfl
theorem dcs_one (r n : Int) : ∀ v ∈ (dcs r n).toList, v.oneCell' = true := by
  intro v hv
  simp [dcs] at hv
  rcases hv with rfl | rfl <;> rfl
theorem six_range {w : World} {b : Nat} {x y z : Int} (h : Six w b x y z) : w.rangeAt b 0 (dcs 0 x).toList ∧ w.rangeAt b 2 (dcs 0 y).toList ∧ w.rangeAt b 4 (dcs 0 z).toList := by
  refine ⟨fun j v hv => ?_, fun j v hv => ?_, fun j v hv => ?_⟩
  · match j, hv with
    | 0, hv => rw [show 0 + 0 = 0 from rfl, h.c0]; simpa [dcs] using hv
    | 1, hv => rw [show 0 + 1 = 1 from rfl, h.c1]; simpa [dcs] using hv
    | j + 2, hv => simp [dcs] at hv
  · match j, hv with
    | 0, hv => rw [show 2 + 0 = 2 from rfl, h.c2]; simpa [dcs] using hv
    | 1, hv => rw [show 2 + 1 = 3 from rfl, h.c3]; simpa [dcs] using hv
    | j + 2, hv => simp [dcs] at hv
  · match j, hv with
    | 0, hv => rw [show 4 + 0 = 4 from rfl, h.c4]; simpa [dcs] using hv
    | 1, hv => rw [show 4 + 1 = 5 from rfl, h.c5]; simpa [dcs] using hv
    | j + 2, hv => simp [dcs] at hv

/-- what the loop has made of the context behind i rounds -/
def Stage (w : World) (g k : Nat) (i : Int) : Prop :=
  (i = 0 ∧ ∃ F, Cx w g F (.slice none 0 0) ∧ F 0 = 2) ∨ (i = 1 ∧ ∃ F, Cx w g F (.slice none 0 0) ∧ F 0 = 3) ∨ (i = 2 ∧ ∃ F, Cx w g F (.slice none 0 0) ∧ F 0 = 4) ∨
  (i = 3 ∧ ∃ F q cap, Cx w g F (.slice (some ⟨q, 0, none⟩) 1 cap) ∧ F 0 = 4 ∧ (q ≠ g ∧ q ≠ k) ∧ w.cell? ⟨q, 0, none⟩ = some (.int .i64 0) ∧ w.cell? ⟨q, 1, none⟩ = some (.int .i64 6))

set_option maxHeartbeats 8000000 in
set_option maxRecDepth 100000 in
theorem tidy_ex (f : Nat → Int) (b cap : Nat) (w : World) (h : Six w b 4 3 6) (hf : f 0 = 2) :
    Calls Try.prog 37 #[.agg (ccs f (.slice (some ⟨b, 0, none⟩) 3 cap))] w (Tidied w) := by
  have H := Lib.hid h
  have hcl : Hid (clampF f 0 = 2) := by show min (max (f 0) 0) 1073741824 = 2; rw [hf]; decide
  clear h hf
  go_enter Try.func37, Try.ntmps37
  go_wp2_with (refine wpList_gbox rfl _ rfl (ccs f (.slice (some ⟨b, 0, none⟩) 3 cap)) rfl ?_)
  intro g1 w1 l1 h1 hb1
  have C1 : Hid (Cx w1 g1 f (.slice (some ⟨b, 0, none⟩) 3 cap)) := h1
  have B1 := Lib.hid hb1; have H1 := Lib.hid (H.out.later hb1)
  clear h1 hb1
  go_wp2_with (refine wpList_galloc _ zeroC rfl rfl ?_)
  intro g2 w2 l2 h2 hb2
  have C2 := Lib.hid (C1.out.later hb2); have D2 : Hid (Cx w2 g2 (fun _ => 0) (.slice none 0 0)) := h2
  have B2 := Lib.hid (thenBelow B1.out hb2); have H2 := Lib.hid (H1.out.later hb2)
  have h12 : g1 < g2 := Nat.lt_of_lt_of_le C1.out.lt l2
  have lw2 := Nat.le_trans B1.out.size l2
  clear h2 hb2
  have IB := Lib.hid (inBounds_is f w2)
  go_wp2_with (first | refine wpList_vmid vecI rfl _ rfl g1 0 rfl _ C2.out.range ?_)
  refine IB.out.mono ?_
  rintro e w3 ⟨rfl, hb3⟩
  have B3 := Lib.hid (thenBelow B2.out hb3); have H3 := Lib.hid (H2.out.later hb3); have C3 := Lib.hid (C2.out.later hb3); have D3 := Lib.hid (D2.out.later hb3)
  clear hb3 IB
  generalize clampF f = F at hcl ⊢
  go_wp2_with (first | refine Great.wpList_readTo rfl _ rfl (.agg (ccs F (.slice none 0 0))) (by unfold execOp; simp only [List.map_toArray, List.map_cons, List.map_nil, Sem.run_bind]; rw [show (Act.eval _ _ : Value) = Value.agg (vf F) from rfl, builtC F]; rfl) ?_ | refine wpList_galloc _ zeroC rfl rfl ?_)
  intro g3 w4 l4 h4 hb4
  have B4 := Lib.hid (thenBelow B3.out hb4); have H4 := Lib.hid (H3.out.later hb4); have C4 := Lib.hid (C3.out.later hb4); have D4 := Lib.hid (D3.out.later hb4)
  have h13 : g1 < g3 := Nat.lt_of_lt_of_le C3.out.lt l4
  have h23 : g2 < g3 := Nat.lt_of_lt_of_le D3.out.lt l4
  have hb3' : b < g3 := Nat.lt_of_lt_of_le H3.out.lt l4
  have lw3 := Nat.le_trans B3.out.size l4
  clear hb4
  go_wp2_with (refine wpList_gstore rfl _ _ rfl g3 rfl (ccs F (.slice none 0 0)) rfl _ _ h4 (sizeC F _) (by rw [ccs_size, ccs_size]) (ccs_one F none 0 0) ?_)
  intro w5 h5 g5
  have E5 : Hid (Cx w5 g3 F (.slice none 0 0)) := h5
  have B5 := Lib.hid (B4.out.trans (grown_below g5 B4.out.size lw3)); have H5 := Lib.hid (H4.out.kept g5 (by simp; omega)); have C5 := Lib.hid (C4.out.kept g5 (by simp; omega)); have D5 := Lib.hid (D4.out.kept g5 (by simp; omega))
  clear h5 g5 h4
  have hsl := C5.out.slot
  have CL := Lib.hid (clone3 b cap w5 H5.out)
  go_wp2_with fail
  refine CL.out.mono ?_
  rintro e w6 ⟨gq, cq, rfl, hcq, lq, hsix, hb6⟩
  have B6 := Lib.hid (thenBelow B5.out hb6); have S6 := Lib.hid hsix; have D6 := Lib.hid (D5.out.later hb6); have E6 := Lib.hid (E5.out.later hb6)
  have h3q : g3 < gq := Nat.lt_of_lt_of_le E5.out.lt lq
  have h2q : g2 < gq := Nat.lt_of_lt_of_le D5.out.lt lq
  have lwq := Nat.le_trans B5.out.size lq
  have SO := Lib.hid (sort3 gq cq w6 hsix)
  clear hb6 CL hsix hsl
  go_wp2_with fail
  refine SO.out.mono ?_
  rintro e w7 ⟨rfl, hsix, hg7⟩
  have B7 := Lib.hid (B6.out.trans (grown_below hg7 B6.out.size lwq)); have D7 := Lib.hid (D6.out.kept hg7 (by simp; omega)); have E7 := Lib.hid (E6.out.kept hg7 (by simp; omega))
  have CO := Lib.hid (compact3 gq cq w7 hsix)
  clear hg7 SO hsix
  go_wp2_with fail
  refine CO.out.mono ?_
  rintro e w8 ⟨rfl, hsix, hb8⟩
  have B8 := Lib.hid (thenBelow B7.out hb8); have D8 := Lib.hid (D7.out.later hb8); have E8 := Lib.hid (E7.out.later hb8); have S8 := Lib.hid hsix
  clear hb8 CO hsix
  go_wp2
  go_loopw [19] (fun i wr => ∃ z : Int, i = .int .i64 z ∧ Stage wr g3 g2 z ∧ Six wr gq 3 4 6 ∧ Cx wr g2 (fun _ => 0) (.slice none 0 0) ∧ Below w.heap.size w wr) (fun i _ => 3 - (intOf i).toNat)
  case atStart => exact ⟨0, rfl, .inl ⟨rfl, F, E8.out, hcl.out⟩, S8.out, D8.out, B8.out⟩
  case round =>
    obtain ⟨z, rfl, hst, hsx, hdx, hb⟩ := hrel
    have S := Lib.hid hsx; have D := Lib.hid hdx; have B := Lib.hid hb
    have V3 := valid_is 0 3; have V4 := valid_is 0 4; have V6 := valid_is 0 6
    rw [show vldB 0 3 = true by decide] at V3; rw [show vldB 0 4 = true by decide] at V4; rw [show vldB 0 6 = true by decide] at V6
    have V3 := Lib.hid V3; have V4 := Lib.hid V4; have V6 := Lib.hid V6
    have SR := six_range hsx
    have SR0 := Lib.hid SR.1; have SR2 := Lib.hid SR.2.1; have SR4 := Lib.hid SR.2.2
    clear hsx hdx hb SR
    rcases hst with ⟨rfl, F1, hE, hF⟩ | ⟨rfl, F1, hE, hF⟩ | ⟨rfl, F1, hE, hF⟩ | ⟨rfl, F1, q, c1, hE, hF, hq, hq0, hq1⟩
    · have E := Lib.hid hE
      have HA := has_is F1 0 3
      rw [show hasB F1 0 3 = false by simp [hasB, hF]] at HA
      have HA := Lib.hid HA
      have HF := Lib.hid hF
      clear hE hF
      go_wp2_with (first | refine wpList_gload rfl _ rfl gq 0 rfl _ SR0.out _ Try.underlying23 rfl (sizeDl 0 3) ?_ | refine wpList_galloc _ zeroD rfl rfl ?_)
      intro g6 w9 l9 h9 hb9
      have B9 := Lib.hid (thenBelow B.out hb9); have S9 := Lib.hid (S.out.later hb9); have D9 := Lib.hid (D.out.later hb9); have E9 := Lib.hid (E.out.later hb9)
      have h36 : g3 < g6 := Nat.lt_of_lt_of_le E.out.lt l9
      have h26 : g2 < g6 := Nat.lt_of_lt_of_le D.out.lt l9
      have hq6 : gq < g6 := Nat.lt_of_lt_of_le S.out.lt l9
      have lw6 := Nat.le_trans B.out.size l9
      clear hb9
      go_wp2_with (refine wpList_gstore rfl _ _ rfl g6 rfl (dcs 0 3) rfl _ _ h9 (sizeD 0 3) rfl (dcs_one 0 3) ?_)
      intro wa ha ga
      have BA := Lib.hid (B9.out.trans (grown_below ga B9.out.size lw6)); have SA := Lib.hid (S9.out.kept ga (by simp; omega)); have DA := Lib.hid (D9.out.kept ga (by simp; omega)); have EA := Lib.hid (E9.out.kept ga (by simp; omega))
      have RA := Lib.hid (range_of_block ha)
      clear ha ga h9
      go_wp2_with (first | refine wpList_gload rfl _ rfl g6 0 rfl _ RA.out _ Try.underlying23 rfl (sizeDl 0 3) ?_)
      refine (V3.out _).mono ?_
      rintro e wb ⟨rfl, hbb⟩
      have BB := Lib.hid (thenBelow BA.out hbb); have SB := Lib.hid (SA.out.later hbb); have DB := Lib.hid (DA.out.later hbb); have EB := Lib.hid (EA.out.later hbb); have RB := Lib.hid (range_below RA.out hbb)
      clear hbb
      go_wp2_with (first | refine wpList_vmidG vecI (by rfl) _ rfl g3 0 rfl _ EB.out.range ?_ | refine wpList_gloadG (by rfl) _ rfl g6 0 rfl _ RB.out _ Try.underlying23 rfl (sizeDl 0 3) ?_)
      refine (HA.out _).mono ?_
      rintro e wc ⟨rfl, hbc⟩
      have BC := Lib.hid (thenBelow BB.out hbc); have SC := Lib.hid (SB.out.later hbc); have DC := Lib.hid (DB.out.later hbc); have EC := Lib.hid (EB.out.later hbc); have RC := Lib.hid (range_below RB.out hbc)
      clear hbc
      have c0 : wc.cell? ⟨g6, 0, none⟩ = some (.int .i64 0) := RC.out 0 _ rfl
      have c1 : wc.cell? ⟨g6, 1, none⟩ = some (.int .i64 3) := RC.out 1 _ rfl
      have c2 := EC.out.cell 0 (by omega)
      rw [HF.out] at c2
      have hw3 : IntKind.i64.wrap 3 = 3 := by decide
      go_wp2
      go_quiet (fail)
      have hb2 : Below wc.heap.size wc (wc.drewN nq) := ⟨rfl, rfl, rfl, Nat.le_refl _, fun _ _ => rfl⟩
      have BD := Lib.hid (thenBelow BC.out hb2); have SD := Lib.hid (SC.out.later hb2); have DD := Lib.hid (DC.out.later hb2); have ED := Lib.hid (EC.out.later hb2); have RD := Lib.hid (range_below RC.out hb2)
      generalize wc.drewN nq = wd at hb2 BD SD DD ED RD ⊢
      clear hb2 c0 c1 c2
      have c0 : wd.cell? ⟨g6, 0, none⟩ = some (.int .i64 0) := RD.out 0 _ rfl
      have c1 : wd.cell? ⟨g6, 1, none⟩ = some (.int .i64 3) := RD.out 1 _ rfl
      have c2 := ED.out.cell 0 (by omega)
      rw [HF.out] at c2
      have f2 := ED.out.free 0
      have hG := Lib.hid (grown_cell wd g3 0 (.int .i64 3))
      have EE := Lib.hid (ED.out.set 0 (by omega) 3)
      have BE := Lib.hid (BD.out.trans (grown_below hG.out BD.out.size lw3)); have SE := Lib.hid (SD.out.kept hG.out (by simp; omega)); have DE := Lib.hid (DD.out.kept hG.out (by simp; omega))
      have ST : Hid (Stage (wd.setCell ⟨g3, 0, none⟩ (.int .i64 3)) g3 g2 1) := .inr (.inl ⟨rfl, _, EE.out, by simp [vset]⟩)
      go_wp2
      go_roundw
      case rel => exact ⟨1, rfl, ST.out, SE.out, DE.out, BE.out⟩
      case measure => simp [intOf]
    · have E := Lib.hid hE
      have HA := has_is F1 0 4
      rw [show hasB F1 0 4 = false by simp [hasB, hF]] at HA
      have HA := Lib.hid HA
      have HF := Lib.hid hF
      clear hE hF
      go_wp2_with (first | refine wpList_gload rfl _ rfl gq 2 rfl _ SR2.out _ Try.underlying23 rfl (sizeDl 0 4) ?_ | refine wpList_galloc _ zeroD rfl rfl ?_)
      intro g6 w9 l9 h9 hb9
      have B9 := Lib.hid (thenBelow B.out hb9); have S9 := Lib.hid (S.out.later hb9); have D9 := Lib.hid (D.out.later hb9); have E9 := Lib.hid (E.out.later hb9)
      have h36 : g3 < g6 := Nat.lt_of_lt_of_le E.out.lt l9
      have h26 : g2 < g6 := Nat.lt_of_lt_of_le D.out.lt l9
      have hq6 : gq < g6 := Nat.lt_of_lt_of_le S.out.lt l9
      have lw6 := Nat.le_trans B.out.size l9
      clear hb9
      go_wp2_with (refine wpList_gstore rfl _ _ rfl g6 rfl (dcs 0 4) rfl _ _ h9 (sizeD 0 4) rfl (dcs_one 0 4) ?_)
      intro wa ha ga
      have BA := Lib.hid (B9.out.trans (grown_below ga B9.out.size lw6)); have SA := Lib.hid (S9.out.kept ga (by simp; omega)); have DA := Lib.hid (D9.out.kept ga (by simp; omega)); have EA := Lib.hid (E9.out.kept ga (by simp; omega))
      have RA := Lib.hid (range_of_block ha)
      clear ha ga h9
      go_wp2_with (first | refine wpList_gload rfl _ rfl g6 0 rfl _ RA.out _ Try.underlying23 rfl (sizeDl 0 4) ?_)
      refine (V4.out _).mono ?_
      rintro e wb ⟨rfl, hbb⟩
      have BB := Lib.hid (thenBelow BA.out hbb); have SB := Lib.hid (SA.out.later hbb); have DB := Lib.hid (DA.out.later hbb); have EB := Lib.hid (EA.out.later hbb); have RB := Lib.hid (range_below RA.out hbb)
      clear hbb
      go_wp2_with (first | refine wpList_vmidG vecI (by rfl) _ rfl g3 0 rfl _ EB.out.range ?_ | refine wpList_gloadG (by rfl) _ rfl g6 0 rfl _ RB.out _ Try.underlying23 rfl (sizeDl 0 4) ?_)
      refine (HA.out _).mono ?_
      rintro e wc ⟨rfl, hbc⟩
      have BC := Lib.hid (thenBelow BB.out hbc); have SC := Lib.hid (SB.out.later hbc); have DC := Lib.hid (DB.out.later hbc); have EC := Lib.hid (EB.out.later hbc); have RC := Lib.hid (range_below RB.out hbc)
      clear hbc
      have c0 : wc.cell? ⟨g6, 0, none⟩ = some (.int .i64 0) := RC.out 0 _ rfl
      have c1 : wc.cell? ⟨g6, 1, none⟩ = some (.int .i64 4) := RC.out 1 _ rfl
      have c2 := EC.out.cell 0 (by omega)
      rw [HF.out] at c2
      have hw3 : IntKind.i64.wrap 4 = 4 := by decide
      go_wp2
      go_quiet (fail)
      have hb2 : Below wc.heap.size wc (wc.drewN nq) := ⟨rfl, rfl, rfl, Nat.le_refl _, fun _ _ => rfl⟩
      have BD := Lib.hid (thenBelow BC.out hb2); have SD := Lib.hid (SC.out.later hb2); have DD := Lib.hid (DC.out.later hb2); have ED := Lib.hid (EC.out.later hb2); have RD := Lib.hid (range_below RC.out hb2)
      generalize wc.drewN nq = wd at hb2 BD SD DD ED RD ⊢
      clear hb2 c0 c1 c2
      have c0 : wd.cell? ⟨g6, 0, none⟩ = some (.int .i64 0) := RD.out 0 _ rfl
      have c1 : wd.cell? ⟨g6, 1, none⟩ = some (.int .i64 4) := RD.out 1 _ rfl
      have c2 := ED.out.cell 0 (by omega)
      rw [HF.out] at c2
      have f2 := ED.out.free 0
      have hG := Lib.hid (grown_cell wd g3 0 (.int .i64 4))
      have EE := Lib.hid (ED.out.set 0 (by omega) 4)
      have BE := Lib.hid (BD.out.trans (grown_below hG.out BD.out.size lw3)); have SE := Lib.hid (SD.out.kept hG.out (by simp; omega)); have DE := Lib.hid (DD.out.kept hG.out (by simp; omega))
      have ST : Hid (Stage (wd.setCell ⟨g3, 0, none⟩ (.int .i64 4)) g3 g2 2) := .inr (.inr (.inl ⟨rfl, _, EE.out, by simp [vset]⟩))
      go_wp2
      go_roundw
      case rel => exact ⟨2, rfl, ST.out, SE.out, DE.out, BE.out⟩
      case measure => simp [intOf]
    · have E := Lib.hid hE
      have HA := has_is F1 0 6
      rw [show hasB F1 0 6 = false by simp [hasB, hF]] at HA
      have HA := Lib.hid HA
      have HF := Lib.hid hF
      clear hE hF
      go_wp2_with (first | refine wpList_gload rfl _ rfl gq 4 rfl _ SR4.out _ Try.underlying23 rfl (sizeDl 0 6) ?_ | refine wpList_galloc _ zeroD rfl rfl ?_)
      intro g6 w9 l9 h9 hb9
      have B9 := Lib.hid (thenBelow B.out hb9); have S9 := Lib.hid (S.out.later hb9); have D9 := Lib.hid (D.out.later hb9); have E9 := Lib.hid (E.out.later hb9)
      have h36 : g3 < g6 := Nat.lt_of_lt_of_le E.out.lt l9
      have h26 : g2 < g6 := Nat.lt_of_lt_of_le D.out.lt l9
      have hq6 : gq < g6 := Nat.lt_of_lt_of_le S.out.lt l9
      have lw6 := Nat.le_trans B.out.size l9
      clear hb9
      go_wp2_with (refine wpList_gstore rfl _ _ rfl g6 rfl (dcs 0 6) rfl _ _ h9 (sizeD 0 6) rfl (dcs_one 0 6) ?_)
      intro wa ha ga
      have BA := Lib.hid (B9.out.trans (grown_below ga B9.out.size lw6)); have SA := Lib.hid (S9.out.kept ga (by simp; omega)); have DA := Lib.hid (D9.out.kept ga (by simp; omega)); have EA := Lib.hid (E9.out.kept ga (by simp; omega))
      have RA := Lib.hid (range_of_block ha)
      clear ha ga h9
      go_wp2_with (first | refine wpList_gload rfl _ rfl g6 0 rfl _ RA.out _ Try.underlying23 rfl (sizeDl 0 6) ?_)
      refine (V6.out _).mono ?_
      rintro e wb ⟨rfl, hbb⟩
      have BB := Lib.hid (thenBelow BA.out hbb); have SB := Lib.hid (SA.out.later hbb); have DB := Lib.hid (DA.out.later hbb); have EB := Lib.hid (EA.out.later hbb); have RB := Lib.hid (range_below RA.out hbb)
      clear hbb
      go_wp2_with (first | refine wpList_vmidG vecI (by rfl) _ rfl g3 0 rfl _ EB.out.range ?_ | refine wpList_gloadG (by rfl) _ rfl g6 0 rfl _ RB.out _ Try.underlying23 rfl (sizeDl 0 6) ?_)
      refine (HA.out _).mono ?_
      rintro e wc ⟨rfl, hbc⟩
      have BC := Lib.hid (thenBelow BB.out hbc); have SC := Lib.hid (SB.out.later hbc); have DC := Lib.hid (DB.out.later hbc); have EC := Lib.hid (EB.out.later hbc); have RC := Lib.hid (range_below RB.out hbc)
      clear hbc
      have c0 : wc.cell? ⟨g6, 0, none⟩ = some (.int .i64 0) := RC.out 0 _ rfl
      have c1 : wc.cell? ⟨g6, 1, none⟩ = some (.int .i64 6) := RC.out 1 _ rfl
      have c2 := EC.out.cell 0 (by omega)
      rw [HF.out] at c2
      have hw3 : IntKind.i64.wrap 5 = 5 := by decide
      go_wp2
      go_quiet (fail)
      have hb2 : Below wc.heap.size wc (wc.drewN nq) := ⟨rfl, rfl, rfl, Nat.le_refl _, fun _ _ => rfl⟩
      have BD := Lib.hid (thenBelow BC.out hb2); have SD := Lib.hid (SC.out.later hb2); have DD := Lib.hid (DC.out.later hb2); have ED := Lib.hid (EC.out.later hb2); have RD := Lib.hid (range_below RC.out hb2)
      generalize wc.drewN nq = wd at hb2 BD SD DD ED RD ⊢
      clear hb2 c0 c1 c2
      have c0 : wd.cell? ⟨g6, 0, none⟩ = some (.int .i64 0) := RD.out 0 _ rfl
      have c1 : wd.cell? ⟨g6, 1, none⟩ = some (.int .i64 6) := RD.out 1 _ rfl
      have c2 := ED.out.slot
      obtain ⟨i0, hi0, hz0, hz1, hz2⟩ := info_parts infoDot
      have hown : Hid ((wd.alloc (.cells #[.int .i64 0, .int .i64 6] 23)).ownsRow wd.heap.size 23 2 (.slice none 0 0) 0 []) := ⟨rfl, .inl ⟨rfl, rfl⟩⟩
      have hbx := below_alloc wd (.cells #[.int .i64 0, .int .i64 6] 23)
      have BX := Lib.hid (thenBelow BD.out hbx); have SX := Lib.hid (SD.out.later hbx); have DX := Lib.hid (DD.out.later hbx); have EX := Lib.hid (ED.out.later hbx)
      have hNW : ∀ j u, ([.int .i64 0, .int .i64 6] : List Value)[j]? = some u → (wd.alloc (.cells #[.int .i64 0, .int .i64 6] 23)).cell? ((⟨wd.heap.size, 0, none⟩ : Addr).add j) = some u := by
        intro j u hu
        rw [Addr.add_mid, Nat.zero_add, cell_of_row _ wd.heap.size j _ _ _ (heap_alloc_new wd _)]
        simpa using hu
      have hNW := Lib.hid hNW
      have h1c : Hid (∀ u ∈ ([.int .i64 0, .int .i64 6] : List Value), u.oneCell' = true) := by
        intro u hu
        simp only [List.mem_cons, List.not_mem_nil, or_false] at hu
        rcases hu with rfl | rfl <;> rfl
      have hml : 0 + 1 ≤ maxLen := by unfold maxLen; omega
      have hbs : wd.heap.size ≤ (wd.alloc (.cells #[.int .i64 0, .int .i64 6] 23)).heap.size := by simp
      have hqe := Nat.lt_of_lt_of_le ED.out.lt (Nat.le_refl _)
      have lwd := BD.out.size
      clear hbx
      go_wp2_with (at_builtin; refine wpList_append_own _ rfl _ _ 53 rfl wd.heap.size 23 i0 _ 2 16 Try.underlying53 hi0 hz0 hz1 hz2 rfl (by decide) _ 0 [] rfl hown.out ⟨wd.heap.size, 0, none⟩ 1 1 [.int .i64 0, .int .i64 6] rfl rfl hNW.out h1c.out hml (by decide) hbs ?_)
      intro v' we hown2 hg2 _
      have hb3 : Below (wd.alloc (.cells #[.int .i64 0, .int .i64 6] 23)).heap.size (wd.alloc (.cells #[.int .i64 0, .int .i64 6] 23)) we := (Below.refl _ _).grown hg2 (Nat.le_refl _) (fun k hk => by cases hk)
      have BY := Lib.hid (thenBelow BX.out hb3); have SY := Lib.hid (SX.out.later hb3); have DY := Lib.hid (DX.out.later hb3); have EY := Lib.hid (EX.out.later hb3)
      obtain ⟨q, c2', rfl, hqb, hq0, hq1⟩ : ∃ q c2, v' = .slice (some ⟨q, 0, none⟩) 1 c2 ∧ wd.heap.size ≤ q ∧ we.cell? ⟨q, 0, none⟩ = some (.int .i64 0) ∧ we.cell? ⟨q, 1, none⟩ = some (.int .i64 6) := by
        rcases hown2.2 with ⟨_, e⟩ | ⟨g, c2, cur, rfl, hle, hcur, hc, _, hsz, htk⟩
        · omega
        · have hat : ∀ j, j < 2 → we.cell? ⟨g, j, none⟩ = ([Value.int .i64 0, .int .i64 6] : List Value)[j]? := by
            intro j hj
            have := congrArg (·[j]?) htk
            simp only [List.nil_append, List.getElem?_take, show j < (0 + 1) * 2 from by omega, if_true, Array.getElem?_toList] at this
            rw [cell_of_row _ g j _ _ _ hcur, this]
          exact ⟨g, c2, rfl, hle, hat 0 (by omega), hat 1 (by omega)⟩
      have hqg : q ≠ g3 := by omega
      have hqk : q ≠ g2 := by have := DD.out.lt; omega
      clear hown2 hg2 hb3 c0 c1 c2
      have c2 := EY.out.slot
      have f2 := EY.out.free 64
      have hG := Lib.hid (grown_cell we g3 64 (.slice (some ⟨q, 0, none⟩) 1 c2'))
      have EE := Lib.hid (EY.out.setSlot (.slice (some ⟨q, 0, none⟩) 1 c2'))
      have BE := Lib.hid (BY.out.trans (grown_below hG.out BY.out.size lw3)); have SE := Lib.hid (SY.out.kept hG.out (by simp; omega)); have DE := Lib.hid (DY.out.kept hG.out (by simp; omega))
      have ST : Hid (Stage (we.setCell ⟨g3, 64, none⟩ (.slice (some ⟨q, 0, none⟩) 1 c2')) g3 g2 3) :=
        .inr (.inr (.inr ⟨rfl, _, q, c2', EE.out, HF.out, ⟨hqg, hqk⟩, hG.out.cell hq0 (by simp; omega), hG.out.cell hq1 (by simp; omega)⟩))
      clear hq0 hq1
      go_wp2
      go_roundw
      case rel => exact ⟨3, rfl, ST.out, SE.out, DE.out, BE.out⟩
      case measure => simp [intOf]
    · have E := Lib.hid hE; have HF := Lib.hid hF; have Q0 := Lib.hid hq0; have Q1 := Lib.hid hq1
      have hqlt := World.block_lt_of_cell? _ _ hq0
      clear hE hF hq0 hq1
      go_wp2_with (first | refine wpList_gload rfl _ rfl g3 0 rfl _ (range_of_block E.out) _ Try.underlying55 rfl (by rw [Array.length_toList]; exact sizeC _ _) ?_ | refine wpList_gstore rfl _ _ rfl g2 rfl (ccs F1 (.slice (some ⟨q, 0, none⟩) 1 c1)) rfl _ _ D.out (sizeC _ _) (by rw [ccs_size, ccs_size]) (ccs_one F1 _ _ _) ?_)
      intro wz hz gz
      have BZ := Lib.hid (B.out.trans (grown_below gz B.out.size lw2)); have q0 := gz.cell Q0.out (by simp; omega); have q1 := gz.cell Q1.out (by simp; omega)
      have q0 := Lib.hid q0; have q1 := Lib.hid q1; have HZ := Lib.hid hz
      clear gz hz
      go_wp2
      exact bodyPost_ret (v := .agg (ccs F1 (.slice (some ⟨q, 0, none⟩) 1 c1))) (results_cell_row rfl _ wz g2 _ _ (0, 0) _ rfl HZ.out Try.underlying55 rfl (sizeC _ _)) rfl ⟨F1, q, c1, rfl, HF.out, q0.out, q1.out, BZ.out⟩
end Go.Proofs.Ytkkepfbckpmbhaa
