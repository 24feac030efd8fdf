/- The statement WireDecodes, proved for every input that its row reads: part 49 of 54. -/
import Derived.Test.YtapmbankpbiglaaGreatDoorPackWireDecodes46
import Derived.Test.YtapmbankpbiglaaGreatDoorPackWireDecodes44
/- The document's ReadEvent of any bytes. -/
namespace Go.Proofs.YtapmbankpbiglaaGreatDoor
open Go Go.RowKit
set_option linter.unusedVariables false
set_option maxRecDepth 1000000

/-- what reading an event comes to -/
def GotEvR (w : World) (A lo : Nat) (O : Option (Ev × Cod.S)) (e : Ending) (w' : World) : Prop :=
  ∃ (x : EvP) (st : Cod.S), e = .returned (.agg x.cells.toArray) ∧ w'.ownsRow w.heap.size 76 2 (.slice x.p x.e.gone.length x.c) x.e.gone.length (dcl x.e.gone) ∧ RRd w' A lo st ∧ w.grownBy w' (some A) ∧ (st.2 = 0 → st.1.length ≤ 1000000) ∧ Outc O x.e st
set_option maxHeartbeats 2000000 in
theorem refReadEvent_any (A lo : Nat) (s : Cod.S) (w : World) (h : RRd w A lo s) (hl : s.1.length ≤ 1000000) :
    Calls Tryz.prog 42 #[.pointer (some ⟨A, 0, none⟩)] w (GotEvR w A lo (evO 2 s)) := by
  have HB := Lib.hid h.lt
  have hB := h.lt
  have n1 := Cod.dotS_len s; have n2 := Cod.timeS_len s; have n3 := Cod.kinS_len 2 s; have n4 := Cod.edcS_len 2 s; have n5 := Cod.efdS_len 2 s; have n6 := Cod.etxS_len 2 s; have n7 := Cod.ecnS_len 2 s
  have C1 : Hid (∀ V : World, RRd V A lo s → Calls Tryz.prog 43 #[.pointer (some ⟨A, 0, none⟩)] V (GotR V A lo (.agg (dcs (Cod.dotS s).1.1 (Cod.dotS s).1.2)) (Cod.dotS s).2)) := Lib.hid fun V hV => refReadDot_any A lo s V hV hl
  have C2 : Hid (∀ V : World, RRd V A lo (Cod.dotS s).2 → Calls Tryz.prog 17 #[.pointer (some ⟨A, 0, none⟩), .int .i64 1099511627776] V (GotR V A lo (.int .i64 (Cod.timeS s).1) (Cod.timeS s).2)) := Lib.hid fun V hV => by unfold Cod.timeS; exact refNum_all A lo _ _ V hV (by omega) (by omega)
  have C3 : Hid (∀ V : World, RRd V A lo (Cod.timeS s).2 → Calls Tryz.prog 17 #[.pointer (some ⟨A, 0, none⟩), .int .i64 2] V (GotR V A lo (.int .i64 (Cod.kinS 2 s).1) (Cod.kinS 2 s).2)) := Lib.hid fun V hV => by unfold Cod.kinS; exact refNum_all A lo _ _ V hV (by omega) (by omega)
  have C4 : Hid (∀ V : World, RRd V A lo (Cod.kinS 2 s).2 → Calls Tryz.prog 44 #[.pointer (some ⟨A, 0, none⟩), .int .i64 12] V (GotR V A lo (.string (Cod.edcS 2 s).1) (Cod.edcS 2 s).2)) := Lib.hid fun V hV => by unfold Cod.edcS; exact refText_all A lo _ _ V hV (by omega) (by omega)
  have C5 : Hid (∀ V : World, RRd V A lo (Cod.edcS 2 s).2 → Calls Tryz.prog 17 #[.pointer (some ⟨A, 0, none⟩), .int .i64 4] V (GotR V A lo (.int .i64 (Cod.efdS 2 s).1) (Cod.efdS 2 s).2)) := Lib.hid fun V hV => by unfold Cod.efdS; exact refNum_all A lo _ _ V hV (by omega) (by omega)
  have C6 : Hid (∀ V : World, RRd V A lo (Cod.efdS 2 s).2 → Calls Tryz.prog 44 #[.pointer (some ⟨A, 0, none⟩), .int .i64 160] V (GotR V A lo (.string (Cod.etxS 2 s).1) (Cod.etxS 2 s).2)) := Lib.hid fun V hV => by unfold Cod.etxS; exact refText_all A lo _ _ V hV (by omega) (by omega)
  have C7 : Hid (∀ V : World, RRd V A lo (Cod.etxS 2 s).2 → Calls Tryz.prog 17 #[.pointer (some ⟨A, 0, none⟩), .int .i64 120] V (GotR V A lo (.int .i64 (Cod.ecnS 2 s).1) (Cod.ecnS 2 s).2)) := Lib.hid fun V hV => by unfold Cod.ecnS; exact refNum_all A lo _ _ V hV (by omega) (by omega)
  have n8 : (Cod.ecnS 2 s).1 ≤ 120 := by
    have h := numS_small (many := 120) (s := (Cod.etxS 2 s).2) (by omega)
    unfold Cod.ecnS
    omega
  have n9 : (Cod.ecnS 2 s).2.1.length ≤ 1000000 := Nat.le_trans n7 hl
  obtain ⟨O, hO⟩ : ∃ O, evO 2 s = O := ⟨_, rfl⟩
  have YES : Hid (∀ gs : List Dt, (Cod.dotsS (Cod.ecnS 2 s).1 (Cod.ecnS 2 s).2).2.2 = 0 → gs = (Cod.dotsS (Cod.ecnS 2 s).1 (Cod.ecnS 2 s).2).1 → chk ⟨(Cod.dotS s).1.1, (Cod.dotS s).1.2, (Cod.timeS s).1, (Cod.kinS 2 s).1, (Cod.edcS 2 s).1, (Cod.efdS 2 s).1, (Cod.etxS 2 s).1, gs⟩ = 0 → O = some (⟨(Cod.dotS s).1.1, (Cod.dotS s).1.2, (Cod.timeS s).1, (Cod.kinS 2 s).1, (Cod.edcS 2 s).1, (Cod.efdS 2 s).1, (Cod.etxS 2 s).1, gs⟩, (Cod.dotsS (Cod.ecnS 2 s).1 (Cod.ecnS 2 s).2).2)) := Lib.hid fun gs h1 h2 h3 => hO.symm.trans (evO_yesR 2 s gs h1 h2 h3)
  have NO : Hid (∀ gs : List Dt, gs = (Cod.dotsS (Cod.ecnS 2 s).1 (Cod.ecnS 2 s).2).1 → chk ⟨(Cod.dotS s).1.1, (Cod.dotS s).1.2, (Cod.timeS s).1, (Cod.kinS 2 s).1, (Cod.edcS 2 s).1, (Cod.efdS 2 s).1, (Cod.etxS 2 s).1, gs⟩ ≠ 0 → O = none) := Lib.hid fun gs h2 h3 => hO.symm.trans (evO_noR 2 s gs h2 h3)
  have NO2 : Hid ((Cod.dotsS (Cod.ecnS 2 s).1 (Cod.ecnS 2 s).2).2.2 ≠ 0 → O = none) := Lib.hid fun h1 => hO.symm.trans (evO_no2 2 s h1)
  rw [hO]
  have H := Lib.hid h
  clear h n1 n2 n3 n4 n5 n6 n7 hl hO
  generalize Cod.dotS s = D1 at *
  generalize Cod.timeS s = D2 at *
  generalize Cod.kinS 2 s = D3 at *
  generalize Cod.edcS 2 s = D4 at *
  generalize Cod.efdS 2 s = D5 at *
  generalize Cod.etxS 2 s = D6 at *
  generalize Cod.ecnS 2 s = D7 at *
  obtain ⟨⟨r, n⟩, t1⟩ := D1
  obtain ⟨t', t2⟩ := D2
  obtain ⟨k', t3⟩ := D3
  obtain ⟨d, t4⟩ := D4
  obtain ⟨f', t5⟩ := D5
  obtain ⟨tx, t6⟩ := D6
  obtain ⟨N, S1⟩ := D7
  simp only at C1 C2 C3 C4 C5 C6 C7 n8 n9 YES NO NO2
  have N4 : Hid (N ≤ 120 ∧ S1.1.length ≤ 1000000) := Lib.hid ⟨n8, n9⟩
  clear n9
  have SI : ∀ V : World, (sizeOf 3).run Tryz.prog V = .ok 1 V := fun V => by kernel_rfl
  have SS : ∀ V : World, (sizeOf 9).run Tryz.prog V = .ok 1 V := fun V => by kernel_rfl
  have HSI := Lib.hid SI; have HSS := Lib.hid SS
  clear SI SS
  have hb1 := below_alloc w (.cells #[.int .i64 0, .int .i64 0, .int .i64 0, .int .i64 0, .string ByteArray.empty, .int .i64 0, .string ByteArray.empty, .slice none 0 0] 79)
  have K1 := Lib.hid (heap_alloc_new w (.cells #[.int .i64 0, .int .i64 0, .int .i64 0, .int .i64 0, .string ByteArray.empty, .int .i64 0, .string ByteArray.empty, .slice none 0 0] 79))
  have R1 := Lib.hid (H.out.below hb1)
  have G1 := Lib.hid (grown_less (R := some A) hb1)
  clear hb1
  go_enter Tryz.func42, Tryz.ntmps42
  go_wp2_with fail
  refine (C1.out _ R1.out).mono ?_
  rintro e w7 ⟨rfl, hr, hg⟩
  have G7 := Lib.hid (grown_trans G1.out hg)
  have K7 := Lib.hid (grown_step G1.out hg HB.out (Nat.le_refl _) K1.out)
  have R7 := Lib.hid hr
  clear hr hg C1 K1 R1
  have BE : ∀ W : World, (Instr.build 79 #[(0, .agg (dcs r n))]).run Tryz.prog W = .ok (.agg (EvP.cells ⟨⟨r, n, 0, 0, ByteArray.empty, 0, ByteArray.empty, []⟩, none, 0⟩).toArray) W := fun W => run_build W _ _ _ (by kernel_rfl)
  have ZE : ∀ W : World, (zeroValue 79).run Tryz.prog W = .ok (.agg (EvP.cells ⟨⟨0, 0, 0, 0, ByteArray.empty, 0, ByteArray.empty, []⟩, none, 0⟩).toArray) W := fun W => by kernel_rfl
  go_wp2_with (first | refine wpList_pbuild (by rfl) _ rfl (EvP.cells ⟨⟨r, n, 0, 0, ByteArray.empty, 0, ByteArray.empty, []⟩, none, 0⟩).toArray (by simp only [List.map_toArray, List.map_cons, List.map_nil]; exact BE _) ?_ | refine wpList_galloc _ ZE rfl rfl ?_)
  intro g3 w8 l8 h8 hb8
  have hl3 : w.heap.size ≤ g3 := Nat.le_trans G7.out.size l8
  have G8 := Lib.hid (grown_on G7.out (hb8.mono G7.out.size))
  have K8 := Lib.hid ((hb8.block _ (Array.getElem?_eq_some_iff.1 K7.out).1).trans K7.out)
  have R8 := Lib.hid (R7.out.below hb8)
  have h23 : w.heap.size ≠ g3 := by have := (Array.getElem?_eq_some_iff.1 K7.out).1; omega
  have H8 := Lib.hid h8
  clear hb8 h8 BE ZE R7 K7 l8
  go_wp2_with (refine wpList_gstore rfl _ _ rfl g3 rfl (EvP.cells ⟨⟨r, n, 0, 0, ByteArray.empty, 0, ByteArray.empty, []⟩, none, 0⟩).toArray rfl _ _ H8.out (by rw [List.size_toArray]; exact sizeEv _) rfl (fun v hv => EvP.cells_one _ v (by simpa using hv)) ?_)
  intro w9 h9 g9
  have B9 : Below w.heap.size w8 w9 := grown_below g9 G8.out.size hl3
  have G9 := Lib.hid (grown_onE G8.out g9 hl3)
  have K9 := Lib.hid ((g9.block _ (Array.getElem?_eq_some_iff.1 K8.out).1 (by simpa using h23)).trans K8.out)
  have R9 := Lib.hid (R8.out.under HB.out B9)
  have H9 : Hid (w9.heap[g3]? = some (.cells (evAt r n 0 0 ByteArray.empty 0 ByteArray.empty (.slice none 0 0)) 79 (0, 0))) := Lib.hid h9
  clear h9 g9 B9 H8 K8 R8
  obtain ⟨AG, hAG⟩ : ∃ v, Value.agg (EvP.cells ⟨⟨r, n, 0, 0, ByteArray.empty, 0, ByteArray.empty, []⟩, none, 0⟩).toArray = v := ⟨_, rfl⟩
  rw [hAG]
  clear hAG
  go_wp2_with fail
  refine (C2.out w9 R9.out).mono ?_
  rintro e w10 ⟨rfl, hr, hg⟩
  have G10 := Lib.hid (grown_trans G9.out hg)
  have K10 := Lib.hid (grown_step G9.out hg HB.out (Nat.le_refl _) K9.out)
  have H10 := Lib.hid (grown_step G9.out hg HB.out hl3 H9.out)
  have R10 := Lib.hid hr
  clear hr hg C2 K9 R9 H9
  go_wp2_with (refine wpList_storeI rfl _ _ _ rfl ⟨g3, 2, none⟩ rfl .i64 (t' : Int) rfl HSI.out (.int .i64 0) ((cell_of_row _ g3 2 _ _ _ H10.out).trans rfl) (frozen_of_row _ g3 2 _ _ H10.out) ?_)
  intro w11 hvs
  have gs := grown_cell w10 g3 2 (.int .i64 (t' : Int))
  have hs := heap_setCell_same w10 g3 2 _ _ (.int .i64 (t' : Int)) H10.out
  rw [← hvs.out] at gs hs
  have G11 := Lib.hid (grown_onE G10.out gs hl3)
  have R11 := Lib.hid (R10.out.under HB.out (grown_below gs G10.out.size hl3))
  have K11 := Lib.hid ((gs.block _ (Array.getElem?_eq_some_iff.1 K10.out).1 (by simpa using h23)).trans K10.out)
  have H11 : Hid (w11.heap[g3]? = some (.cells (evAt r n (t' : Int) 0 ByteArray.empty 0 ByteArray.empty (.slice none 0 0)) 79 (0, 0))) := Lib.hid hs
  clear gs hs hvs R10 K10 H10
  go_wp2_with fail
  refine (C3.out w11 R11.out).mono ?_
  rintro e w12 ⟨rfl, hr, hg⟩
  have G12 := Lib.hid (grown_trans G11.out hg)
  have K12 := Lib.hid (grown_step G11.out hg HB.out (Nat.le_refl _) K11.out)
  have H12 := Lib.hid (grown_step G11.out hg HB.out hl3 H11.out)
  have R12 := Lib.hid hr
  clear hr hg C3 K11 R11 H11
  go_wp2_with (refine wpList_storeI rfl _ _ _ rfl ⟨g3, 3, none⟩ rfl .i64 (k' : Int) rfl HSI.out (.int .i64 0) ((cell_of_row _ g3 3 _ _ _ H12.out).trans rfl) (frozen_of_row _ g3 3 _ _ H12.out) ?_)
  intro w13 hvs
  have gs := grown_cell w12 g3 3 (.int .i64 (k' : Int))
  have hs := heap_setCell_same w12 g3 3 _ _ (.int .i64 (k' : Int)) H12.out
  rw [← hvs.out] at gs hs
  have G13 := Lib.hid (grown_onE G12.out gs hl3)
  have R13 := Lib.hid (R12.out.under HB.out (grown_below gs G12.out.size hl3))
  have K13 := Lib.hid ((gs.block _ (Array.getElem?_eq_some_iff.1 K12.out).1 (by simpa using h23)).trans K12.out)
  have H13 : Hid (w13.heap[g3]? = some (.cells (evAt r n (t' : Int) (k' : Int) ByteArray.empty 0 ByteArray.empty (.slice none 0 0)) 79 (0, 0))) := Lib.hid hs
  clear gs hs hvs R12 K12 H12
  go_wp2_with fail
  refine (C4.out w13 R13.out).mono ?_
  rintro e w14 ⟨rfl, hr, hg⟩
  have G14 := Lib.hid (grown_trans G13.out hg)
  have K14 := Lib.hid (grown_step G13.out hg HB.out (Nat.le_refl _) K13.out)
  have H14 := Lib.hid (grown_step G13.out hg HB.out hl3 H13.out)
  have R14 := Lib.hid hr
  clear hr hg C4 K13 R13 H13
  go_wp2_with (refine wpList_storeStr rfl _ _ _ rfl ⟨g3, 4, none⟩ rfl d rfl HSS.out (.string ByteArray.empty) ((cell_of_row _ g3 4 _ _ _ H14.out).trans rfl) (frozen_of_row _ g3 4 _ _ H14.out) ?_)
  intro w15 hvs
  have gs := grown_cell w14 g3 4 (.string d)
  have hs := heap_setCell_same w14 g3 4 _ _ (.string d) H14.out
  rw [← hvs.out] at gs hs
  have G15 := Lib.hid (grown_onE G14.out gs hl3)
  have R15 := Lib.hid (R14.out.under HB.out (grown_below gs G14.out.size hl3))
  have K15 := Lib.hid ((gs.block _ (Array.getElem?_eq_some_iff.1 K14.out).1 (by simpa using h23)).trans K14.out)
  have H15 : Hid (w15.heap[g3]? = some (.cells (evAt r n (t' : Int) (k' : Int) d 0 ByteArray.empty (.slice none 0 0)) 79 (0, 0))) := Lib.hid hs
  clear gs hs hvs R14 K14 H14
  go_wp2_with fail
  refine (C5.out w15 R15.out).mono ?_
  rintro e w16 ⟨rfl, hr, hg⟩
  have G16 := Lib.hid (grown_trans G15.out hg)
  have K16 := Lib.hid (grown_step G15.out hg HB.out (Nat.le_refl _) K15.out)
  have H16 := Lib.hid (grown_step G15.out hg HB.out hl3 H15.out)
  have R16 := Lib.hid hr
  clear hr hg C5 K15 R15 H15
  go_wp2_with (refine wpList_storeI rfl _ _ _ rfl ⟨g3, 5, none⟩ rfl .i64 (f' : Int) rfl HSI.out (.int .i64 0) ((cell_of_row _ g3 5 _ _ _ H16.out).trans rfl) (frozen_of_row _ g3 5 _ _ H16.out) ?_)
  intro w17 hvs
  have gs := grown_cell w16 g3 5 (.int .i64 (f' : Int))
  have hs := heap_setCell_same w16 g3 5 _ _ (.int .i64 (f' : Int)) H16.out
  rw [← hvs.out] at gs hs
  have G17 := Lib.hid (grown_onE G16.out gs hl3)
  have R17 := Lib.hid (R16.out.under HB.out (grown_below gs G16.out.size hl3))
  have K17 := Lib.hid ((gs.block _ (Array.getElem?_eq_some_iff.1 K16.out).1 (by simpa using h23)).trans K16.out)
  have H17 : Hid (w17.heap[g3]? = some (.cells (evAt r n (t' : Int) (k' : Int) d (f' : Int) ByteArray.empty (.slice none 0 0)) 79 (0, 0))) := Lib.hid hs
  clear gs hs hvs R16 K16 H16
  go_wp2_with fail
  refine (C6.out w17 R17.out).mono ?_
  rintro e w18 ⟨rfl, hr, hg⟩
  have G18 := Lib.hid (grown_trans G17.out hg)
  have K18 := Lib.hid (grown_step G17.out hg HB.out (Nat.le_refl _) K17.out)
  have H18 := Lib.hid (grown_step G17.out hg HB.out hl3 H17.out)
  have R18 := Lib.hid hr
  clear hr hg C6 K17 R17 H17
  go_wp2_with (refine wpList_storeStr rfl _ _ _ rfl ⟨g3, 6, none⟩ rfl tx rfl HSS.out (.string ByteArray.empty) ((cell_of_row _ g3 6 _ _ _ H18.out).trans rfl) (frozen_of_row _ g3 6 _ _ H18.out) ?_)
  intro w19 hvs
  have gs := grown_cell w18 g3 6 (.string tx)
  have hs := heap_setCell_same w18 g3 6 _ _ (.string tx) H18.out
  rw [← hvs.out] at gs hs
  have G19 := Lib.hid (grown_onE G18.out gs hl3)
  have R19 := Lib.hid (R18.out.under HB.out (grown_below gs G18.out.size hl3))
  have K19 := Lib.hid ((gs.block _ (Array.getElem?_eq_some_iff.1 K18.out).1 (by simpa using h23)).trans K18.out)
  have H19 : Hid (w19.heap[g3]? = some (.cells (evAt r n (t' : Int) (k' : Int) d (f' : Int) tx (.slice none 0 0)) 79 (0, 0))) := Lib.hid hs
  clear gs hs hvs R18 K18 H18
  go_wp2_with fail
  refine (C7.out w19 R19.out).mono ?_
  rintro e w20 ⟨rfl, hr, hg⟩
  have G20 := Lib.hid (grown_trans G19.out hg)
  have K20 := Lib.hid (grown_step G19.out hg HB.out (Nat.le_refl _) K19.out)
  have H20 := Lib.hid (grown_step G19.out hg HB.out hl3 H19.out)
  have R20 := Lib.hid hr
  clear hr hg C7 K19 H19 R19
  go_wp2
  go_loopw [26] (fun i wr => ∃ (j : Nat) (u : Value) (gs : List Dt) (st : Cod.S), j ≤ N ∧ i = .int .i64 j ∧ gs.length = j ∧ Hid (st = (Cod.dotsS j S1).2) ∧ Hid (gs = (Cod.dotsS j S1).1) ∧ wr.heap[g3]? = some (.cells (evAt r n (t' : Int) (k' : Int) d (f' : Int) tx u) 79 (0, 0)) ∧ wr.ownsRow w.heap.size 76 2 u j (dcl gs) ∧ RRd wr A lo st ∧ w.grownBy wr (some A) ∧ wr.heap[w.heap.size]? = some (Obj.cells #[.int .i64 0, .int .i64 0, .int .i64 0, .int .i64 0, .string ByteArray.empty, .int .i64 0, .string ByteArray.empty, .slice none 0 0] 79 (0, 0))) (fun i _ => N - (intOf i).toNat)
  case atStart => exact ⟨0, _, [], S1, Nat.zero_le _, rfl, rfl, Lib.hid (by simp only [Cod.dotsS]), Lib.hid (by simp only [Cod.dotsS]), H20.out, World.ownsRow_nil _ _ _ _, R20.out, G20.out, K20.out⟩
  case round =>
    clear H20 R20 G20 K20
    obtain ⟨j, u, gs, st, hj, rfl, hgs, HST, HGS, hh, hown, hrd, hgr, hk⟩ := hrel
    have H0 := Lib.hid hh; have OW := Lib.hid hown; have RD := Lib.hid hrd; have GR := Lib.hid hgr; have KK := Lib.hid hk
    have HLen := Lib.hid hgs
    clear hh hown hrd hgr hk hgs
    have nT : st.1.length ≤ 1000000 := by
      have := Cod.dotsS_len j S1
      have := N4.out.2
      rw [HST.out]; omega
    by_cases hjk : j < N
    · have hjk' : (j : Int) < N := by omega
      have RDT : Hid (∀ W, Below wr.heap.size wr W → Calls Tryz.prog 43 #[.pointer (some ⟨A, 0, none⟩)] W (GotR W A lo (.agg (dcs (Cod.dotS st).1.1 (Cod.dotS st).1.2)) (Cod.dotS st).2)) := Lib.hid fun W hW => refReadDot_any A lo st W (RD.out.below hW) nT
      have ST2 : Hid ((Cod.dotS st).2 = (Cod.dotsS (j + 1) S1).2) := Lib.hid (by rw [(Cod.dotsS_step j S1).1, HST.out])
      have GS2 : Hid (gs ++ [(Cod.dotS st).1] = (Cod.dotsS (j + 1) S1).1) := Lib.hid (by rw [(Cod.dotsS_step j S1).2, HGS.out, HST.out])
      generalize Cod.dotS st = Q at RDT ST2 GS2
      obtain ⟨⟨z1, z2⟩, TK⟩ := Q
      simp only at RDT ST2 GS2
      have XN : Hid (dcl gs ++ [.int .i64 z1, .int .i64 z2] = dcl (gs ++ [(z1, z2)])) := Lib.hid (dcl_snoc gs z1 z2).symm
      have LN2 : Hid ((gs ++ [(z1, z2)]).length = j + 1) := Lib.hid (by rw [List.length_append, HLen.out]; rfl)
      obtain ⟨gs2, hgs2⟩ : ∃ X, gs ++ [(z1, z2)] = X := ⟨_, rfl⟩
      rw [hgs2] at GS2 XN LN2
      clear hgs2
      obtain ⟨xs, hxs⟩ : ∃ X, dcl gs = X := ⟨_, rfl⟩
      rw [hxs] at XN OW
      clear hxs HGS
      go_wp2_with fail
      rename_i K2 hK2
      have SZ : ∀ w : World, (sizeOf 77).run Tryz.prog w = .ok 1 w := fun w => by kernel_rfl
      have FIN : ∀ (X25 v' : Value) (W : World), W.heap[g3]? = some (.cells (evAt r n (t' : Int) (k' : Int) d (f' : Int) tx v') 79 (0, 0)) → W.ownsRow w.heap.size 76 2 v' (j + 1) (xs ++ [.int .i64 z1, .int .i64 z2]) → RRd W A lo TK → w.grownBy W (some A) → W.heap[w.heap.size]? = some (Obj.cells #[.int .i64 0, .int .i64 0, .int .i64 0, .int .i64 0, .string ByteArray.empty, .int .i64 0, .string ByteArray.empty, .slice none 0 0] 79 (0, 0)) → K2 { tmps := #[.pointer (some ⟨A, 0, none⟩), undef, .pointer (some ⟨w.heap.size, 0, none⟩), .pointer (some ⟨g3, 0, none⟩), .int .i64 (N : Int), .pointer (some ⟨A, 0, none⟩), .agg (dcs r n), AG, .pointer (some ⟨A, 0, none⟩), .int .i64 (t' : Int), .pointer (some ⟨g3, 2, none⟩), .pointer (some ⟨A, 0, none⟩), .int .i64 (k' : Int), .pointer (some ⟨g3, 3, none⟩), .pointer (some ⟨A, 0, none⟩), .string d, .pointer (some ⟨g3, 4, none⟩), .pointer (some ⟨A, 0, none⟩), .int .i64 (f' : Int), .pointer (some ⟨g3, 5, none⟩), .pointer (some ⟨A, 0, none⟩), .string tx, .pointer (some ⟨g3, 6, none⟩), .pointer (some ⟨A, 0, none⟩), .int .i64 (N : Int), .int .i64 (N : Int), .int .i64 (j : Int), .bool true, .pointer (some ⟨g3, 7, none⟩), u, .pointer (some ⟨A, 0, none⟩), .agg (dcs z1 z2), X25, v', .pointer (some ⟨g3, 7, none⟩), u35, undef, undef, undef, undef, undef, undef, undef, undef, undef, undef, undef, undef, undef, undef, undef, undef, undef, undef, undef], defers := [] } W := by
        intro X25 v' W q1 q2 q3 q4 q5
        refine hK2 _ _ ?_
        clear hK2
        rw [XN.out] at q2
        have P1 := Lib.hid q1; have P2 := Lib.hid q2; have P3 := Lib.hid q3; have P4 := Lib.hid q4; have P5 := Lib.hid q5
        clear q1 q2 q3 q4 q5 RDT nT
        go_wp2
        go_roundw
        case rel => exact ⟨j + 1, v', gs2, TK, by omega, by go_num, LN2.out, ST2, GS2, P1.out, P2.out, P3.out, P4.out, P5.out⟩
        case measure => simp [intOf]; omega
      have GD := Lib.hid (grown_on GR.out (to_drew (Below.refl w.heap.size wr)))
      have HD : Hid (wr.drew.heap[g3]? = _) := Lib.hid H0.out
      have KD : Hid (wr.drew.heap[w.heap.size]? = _) := Lib.hid KK.out
      have OD := Lib.hid (own_later OW.out (to_drew (Below.refl wr.heap.size wr)))
      obtain ⟨i0, hi, hz0, hz1, hz2⟩ := info_parts infoDt
      refine rg_last (by kernel_rfl) rfl (S := fun _ => True) ?_
      refine rgd_pure 0 (some 28) rfl rfl (.pointer (some ⟨g3, 7, none⟩)) (by kernel_rfl) (by kernel_rfl) (by kernel_rfl) (fun _ _ _ _ h => h) (by kernel_rfl) (fun w => by kernel_rfl) trivial ?_
      refine rgd_pure 2 (some 30) rfl rfl (.pointer (some ⟨A, 0, none⟩)) (by kernel_rfl) (by kernel_rfl) (by kernel_rfl) (fun _ _ _ _ h => h) (by kernel_rfl) (fun w => by kernel_rfl) trivial ?_
      refine rgd_two 1 3 (some 29) (some 31) (by kernel_rfl) rfl rfl (by kernel_rfl) u wr.drew (exec_load1 _ _ rfl Tryz.underlying77 rfl ⟨g3, 7, none⟩ u (by kernel_rfl) ((cell_of_row _ g3 7 _ _ _ HD.out).trans rfl)) rfl rfl (by kernel_rfl) 43 #[.pointer (some ⟨A, 0, none⟩)] (by kernel_rfl) (RDT.out wr.drew (to_drew (Below.refl _ _))) trivial ?_ ?_
      · refine rgd_call 3 (some 31) (by kernel_rfl) rfl rfl (by kernel_rfl) 43 #[.pointer (some ⟨A, 0, none⟩)] (by kernel_rfl) (RDT.out wr.drew (to_drew (Below.refl _ _))) ?_
        rintro e U1 ⟨rfl, r1, g1⟩
        refine ⟨_, rfl, trivial, ?_⟩
        have hU := grown_step GD.out g1 HB.out hl3 HD.out
        have kU := grown_step GD.out g1 HB.out (Nat.le_refl _) KD.out
        have oU := own_keep OD.out g1 (own_above OD.out HB.out)
        have gU := grown_trans GD.out g1
        have bA := below_alloc U1 (.cells #[.int .i64 z1, .int .i64 z2] 76)
        have rA := r1.below bA
        have hA := (bA.block g3 (Array.getElem?_eq_some_iff.1 hU).1).trans hU
        have kA := (bA.block w.heap.size (Array.getElem?_eq_some_iff.1 kU).1).trans kU
        have oA := own_later oU bA
        have gA := grown_on gU (bA.mono gU.size)
        have nA := heap_alloc_new U1 (.cells #[.int .i64 z1, .int .i64 z2] 76)
        have n120 := N4.out.1
        obtain ⟨v1, w1', hrun, o1, q1, _⟩ := run_append_own (P := Tryz.prog) (w := U1.alloc (.cells #[.int .i64 z1, .int .i64 z2] 76)) w.heap.size 77 77 76 i0 _ 2 16 Tryz.underlying77 hi hz0 hz1 hz2 rfl (by decide) u j xs oA ⟨U1.heap.size, 0, none⟩ 1 1 [.int .i64 z1, .int .i64 z2] rfl (fun k y hy => by rw [Addr.add_lit, Nat.zero_add, cell_of_row _ U1.heap.size k _ _ _ nA]; simpa using hy) (by intro y hy; simp at hy; rcases hy with rfl | rfl <;> rfl) (by unfold maxLen; omega) (by omega) gA.size
        have bW : Below w.heap.size (U1.alloc (.cells #[.int .i64 z1, .int .i64 z2] 76)) w1' := (Below.refl _ _).grown q1 gA.size (fun k hk => (oA.lt k hk).1)
        have hW := (q1.block g3 (Array.getElem?_eq_some_iff.1 hA).1 (own_not oA hA (by decide))).trans hA
        have kW := (q1.block w.heap.size (Array.getElem?_eq_some_iff.1 kA).1 (own_not oA kA (by decide))).trans kA
        have rW := rA.under HB.out bW
        have gW := grown_on gA bW
        obtain ⟨pv, cv, hv1⟩ := own_slice o1
        subst hv1
        have gS := grown_cell w1' g3 7 (.slice pv (j + 1) cv)
        have hS := heap_setCell_same w1' g3 7 _ _ (.slice pv (j + 1) cv) hW
        have kS := (gS.block w.heap.size (Array.getElem?_eq_some_iff.1 kW).1 (by simpa using h23)).trans kW
        have oS := own_keep o1 gS (.inr fun e => own_not o1 hW (by decide) e.symm)
        have rS := rW.under HB.out (grown_below gS gW.size hl3)
        have gE := grown_onE gW gS hl3
        have KE := FIN (.slice (some ⟨U1.heap.size, 0, none⟩) 1 1) (.slice pv (j + 1) cv) _ hS oS rS gE kS
        refine rgd_run 4 (some 32) (by kernel_rfl) rfl rfl (by kernel_rfl) (.slice (some ⟨U1.heap.size, 0, none⟩) 1 1) (U1.alloc (.cells #[.int .i64 z1, .int .i64 z2] 76)) (by kernel_rfl) trivial ?_
        refine rgd_run 5 (some 33) (by kernel_rfl) rfl rfl (by kernel_rfl) (.slice pv (j + 1) cv) w1' (exec_appendV _ _ rfl _ _ (by kernel_rfl) (by kernel_rfl) hrun) trivial ?_
        refine rgd_pure 6 (some 34) rfl rfl (.pointer (some ⟨g3, 7, none⟩)) (by kernel_rfl) (by kernel_rfl) (by kernel_rfl) (fun _ _ _ _ h => h) (by kernel_rfl) (fun w => by kernel_rfl) trivial ?_
        refine rgd_do 7 none (by kernel_rfl) rfl rfl (by kernel_rfl) _ (exec_storeV _ _ _ rfl SZ ⟨g3, 7, none⟩ pv (j + 1) cv u (by kernel_rfl) (by kernel_rfl) ((cell_of_row _ g3 7 _ _ _ hW).trans rfl) (frozen_of_row _ g3 7 _ _ hW)) trivial ?_
        exact wpAnyH_done (by kernel_rfl) (Eq.mp (by kernel_rfl) KE) _
      · rintro e U1 ⟨rfl, r1, g1⟩
        refine ⟨_, rfl, trivial, ?_⟩
        have hU := grown_step GD.out g1 HB.out hl3 HD.out
        have kU := grown_step GD.out g1 HB.out (Nat.le_refl _) KD.out
        have oU := own_keep OD.out g1 (own_above OD.out HB.out)
        have gU := grown_trans GD.out g1
        have bA := below_alloc U1 (.cells #[.int .i64 z1, .int .i64 z2] 76)
        have rA := r1.below bA
        have hA := (bA.block g3 (Array.getElem?_eq_some_iff.1 hU).1).trans hU
        have kA := (bA.block w.heap.size (Array.getElem?_eq_some_iff.1 kU).1).trans kU
        have oA := own_later oU bA
        have gA := grown_on gU (bA.mono gU.size)
        have nA := heap_alloc_new U1 (.cells #[.int .i64 z1, .int .i64 z2] 76)
        have n120 := N4.out.1
        obtain ⟨v1, w1', hrun, o1, q1, _⟩ := run_append_own (P := Tryz.prog) (w := U1.alloc (.cells #[.int .i64 z1, .int .i64 z2] 76)) w.heap.size 77 77 76 i0 _ 2 16 Tryz.underlying77 hi hz0 hz1 hz2 rfl (by decide) u j xs oA ⟨U1.heap.size, 0, none⟩ 1 1 [.int .i64 z1, .int .i64 z2] rfl (fun k y hy => by rw [Addr.add_lit, Nat.zero_add, cell_of_row _ U1.heap.size k _ _ _ nA]; simpa using hy) (by intro y hy; simp at hy; rcases hy with rfl | rfl <;> rfl) (by unfold maxLen; omega) (by omega) gA.size
        have bW : Below w.heap.size (U1.alloc (.cells #[.int .i64 z1, .int .i64 z2] 76)) w1' := (Below.refl _ _).grown q1 gA.size (fun k hk => (oA.lt k hk).1)
        have hW := (q1.block g3 (Array.getElem?_eq_some_iff.1 hA).1 (own_not oA hA (by decide))).trans hA
        have kW := (q1.block w.heap.size (Array.getElem?_eq_some_iff.1 kA).1 (own_not oA kA (by decide))).trans kA
        have rW := rA.under HB.out bW
        have gW := grown_on gA bW
        obtain ⟨pv, cv, hv1⟩ := own_slice o1
        subst hv1
        have gS := grown_cell w1' g3 7 (.slice pv (j + 1) cv)
        have hS := heap_setCell_same w1' g3 7 _ _ (.slice pv (j + 1) cv) hW
        have kS := (gS.block w.heap.size (Array.getElem?_eq_some_iff.1 kW).1 (by simpa using h23)).trans kW
        have oS := own_keep o1 gS (.inr fun e => own_not o1 hW (by decide) e.symm)
        have rS := rW.under HB.out (grown_below gS gW.size hl3)
        have gE := grown_onE gW gS hl3
        have KE := FIN (.slice (some ⟨U1.heap.size, 0, none⟩) 1 1) (.slice pv (j + 1) cv) _ hS oS rS gE kS
        refine rgd_acts 1 4 (some 29) (some 32) (by kernel_rfl) rfl rfl (by kernel_rfl) u U1 (exec_load1 _ _ rfl Tryz.underlying77 rfl ⟨g3, 7, none⟩ u (by kernel_rfl) ((cell_of_row _ g3 7 _ _ _ hU).trans rfl)) trivial rfl rfl (by kernel_rfl) (.slice (some ⟨U1.heap.size, 0, none⟩) 1 1) (U1.alloc (.cells #[.int .i64 z1, .int .i64 z2] 76)) (by kernel_rfl) trivial ?_ ?_
        · refine rgd_run 4 (some 32) (by kernel_rfl) rfl rfl (by kernel_rfl) (.slice (some ⟨U1.heap.size, 0, none⟩) 1 1) (U1.alloc (.cells #[.int .i64 z1, .int .i64 z2] 76)) (by kernel_rfl) trivial ?_
          refine rgd_run 5 (some 33) (by kernel_rfl) rfl rfl (by kernel_rfl) (.slice pv (j + 1) cv) w1' (exec_appendV _ _ rfl _ _ (by kernel_rfl) (by kernel_rfl) hrun) trivial ?_
          refine rgd_pure 6 (some 34) rfl rfl (.pointer (some ⟨g3, 7, none⟩)) (by kernel_rfl) (by kernel_rfl) (by kernel_rfl) (fun _ _ _ _ h => h) (by kernel_rfl) (fun w => by kernel_rfl) trivial ?_
          refine rgd_do 7 none (by kernel_rfl) rfl rfl (by kernel_rfl) _ (exec_storeV _ _ _ rfl SZ ⟨g3, 7, none⟩ pv (j + 1) cv u (by kernel_rfl) (by kernel_rfl) ((cell_of_row _ g3 7 _ _ _ hW).trans rfl) (frozen_of_row _ g3 7 _ _ hW)) trivial ?_
          exact wpAnyH_done (by kernel_rfl) (Eq.mp (by kernel_rfl) KE) _
        · refine rgd_run 1 (some 29) (by kernel_rfl) rfl rfl (by kernel_rfl) u _ (exec_load1 _ _ rfl Tryz.underlying77 rfl ⟨g3, 7, none⟩ u (by kernel_rfl) ((cell_of_row _ g3 7 _ _ _ hA).trans rfl)) trivial ?_
          refine rgd_run 5 (some 33) (by kernel_rfl) rfl rfl (by kernel_rfl) (.slice pv (j + 1) cv) w1' (exec_appendV _ _ rfl _ _ (by kernel_rfl) (by kernel_rfl) hrun) trivial ?_
          refine rgd_pure 6 (some 34) rfl rfl (.pointer (some ⟨g3, 7, none⟩)) (by kernel_rfl) (by kernel_rfl) (by kernel_rfl) (fun _ _ _ _ h => h) (by kernel_rfl) (fun w => by kernel_rfl) trivial ?_
          refine rgd_do 7 none (by kernel_rfl) rfl rfl (by kernel_rfl) _ (exec_storeV _ _ _ rfl SZ ⟨g3, 7, none⟩ pv (j + 1) cv u (by kernel_rfl) (by kernel_rfl) ((cell_of_row _ g3 7 _ _ _ hW).trans rfl) (frozen_of_row _ g3 7 _ _ hW)) trivial ?_
          exact wpAnyH_done (by kernel_rfl) (Eq.mp (by kernel_rfl) KE) _
    · obtain rfl : j = N := by omega
      have hjk' : ¬ ((j : Nat) : Int) < j := by omega
      obtain ⟨pu, cu, hu⟩ := own_slice OW.out
      subst hu
      have OW : Hid (wr.ownsRow w.heap.size 76 2 (.slice pu gs.length cu) gs.length (dcl gs)) := Lib.hid (by rw [HLen.out]; exact OW.out)
      have OKX : Hid (EvP.Ok wr ⟨⟨r, n, t', k', d, f', tx, gs⟩, pu, cu⟩) := Lib.hid (own_okE (B := w.heap.size) OW.out)
      have er := RD.out.err
      have R0 := Lib.hid (range_of_block H0.out)
      have R0 : Hid (wr.rangeAt g3 0 (EvP.cells ⟨⟨r, n, t', k', d, f', tx, gs⟩, pu, cu⟩)) := Lib.hid (by rw [← HLen.out] at R0; exact R0.out)
      have SZ := Lib.hid (sizeEv ⟨⟨r, n, t', k', d, f', tx, gs⟩, pu, cu⟩)
      have CK := Lib.hid (refCheck_is ⟨⟨r, n, t', k', d, f', tx, gs⟩, pu, cu⟩ wr OKX.out)
      have Y2 : Hid (st.2 = 0 → chk ⟨r, n, t', k', d, f', tx, gs⟩ = 0 → O = some (⟨r, n, t', k', d, f', tx, gs⟩, st)) := Lib.hid fun h1 h2 => by
        have := YES.out gs (by rw [← HST.out]; exact h1) HGS.out h2
        rw [← HST.out] at this; exact this
      have N2 : Hid (st.2 = 0 → chk ⟨r, n, t', k', d, f', tx, gs⟩ ≠ 0 → O = none) := Lib.hid fun h1 h2 => NO.out gs HGS.out h2
      have N3 : Hid (st.2 ≠ 0 → O = none) := Lib.hid fun h1 => NO2.out (by rw [← HST.out]; exact h1)
      have NT := Lib.hid nT
      clear YES NO NO2 HST HGS nT
      obtain ⟨XE, hXE⟩ : ∃ X, EvP.mk ⟨r, n, t', k', d, f', tx, gs⟩ pu cu = X := ⟨_, rfl⟩
      have OWX : Hid (∀ W : World, W.ownsRow w.heap.size 76 2 (.slice pu gs.length cu) gs.length (dcl gs) → W.ownsRow w.heap.size 76 2 (.slice XE.p XE.e.gone.length XE.c) XE.e.gone.length (dcl XE.e.gone)) := Lib.hid fun W h => by rw [← hXE]; exact h
      rw [hXE] at OKX R0 SZ CK
      have hx8 : XE.e = ⟨r, n, t', k', d, f', tx, gs⟩ := by rw [← hXE]
      rw [← hx8] at Y2 N2
      clear hXE hx8
      obtain ⟨E0, hE0⟩ : ∃ E0, chk XE.e = E0 := ⟨_, rfl⟩
      rw [hE0] at CK Y2 N2
      clear hE0
      by_cases he : st.2 = 0
      · rw [he] at er
        have NE := Lib.hid he
        clear he
        go_wp2_with (refine wpList_gloadG (by rfl) _ rfl g3 0 rfl _ R0.out _ Tryz.underlying79 rfl SZ.out ?_)
        refine CK.out.mono ?_
        rintro e w12 ⟨rfl, hb12⟩
        have RD12 := Lib.hid (RD.out.below hb12)
        have R12 := Lib.hid (range_below R0.out hb12)
        have K12 := Lib.hid ((hb12.block _ (Array.getElem?_eq_some_iff.1 KK.out).1).trans KK.out)
        have G12 := Lib.hid (grown_on GR.out (hb12.mono GR.out.size))
        have OW12 := Lib.hid (own_later OW.out hb12)
        clear hb12 CK er
        by_cases hc : E0 = 0
        · have FO : Hid (Outc O XE.e st) := Lib.hid (.inl ⟨Y2.out NE.out hc, NE.out⟩)
          subst hc
          have er2 := RD12.out.err
          rw [NE.out] at er2
          clear Y2 N2 N3
          go_wp2_with (first | refine wpList_gload rfl _ rfl g3 0 rfl _ R12.out _ Tryz.underlying79 rfl SZ.out ?_ | refine wpList_gstore rfl _ _ rfl w.heap.size rfl XE.cells.toArray rfl _ _ K12.out (by rw [List.size_toArray]; exact sizeEv _) (by show 8 = _; rw [List.size_toArray, EvP.cells_len]) (fun v hv => EvP.cells_one _ v (by simpa using hv)) ?_)
          intro w14 h14 g14
          have H14 := Lib.hid h14
          have G14 := Lib.hid (grown_onE G12.out g14 (Nat.le_refl _))
          have B14 := grown_below g14 G12.out.size (Nat.le_refl _)
          have R14 := Lib.hid (RD12.out.under HB.out B14)
          have O14 := Lib.hid (OWX.out _ (own_keep OW12.out g14 (.inr fun e => own_not OW12.out K12.out (by decide) e.symm)))
          clear h14 g14 B14 er2
          go_wp2
          exact bodyPost_ret (v := .agg XE.cells.toArray) (results_cell_row rfl _ w14 w.heap.size _ _ (0, 0) _ rfl H14.out Tryz.underlying79 rfl (by rw [List.size_toArray]; exact sizeEv _)) rfl ⟨XE, st, rfl, O14.out, R14.out, G14.out, fun _ => NT.out, FO.out⟩
        · have FO : Hid (O = none) := Lib.hid (N2.out NE.out hc)
          have hn : (E0 != 0) = true := by simpa using hc
          have FL := Lib.hid (refFail_any A lo 3 st w12 RD12.out (by omega))
          clear Y2 N2 N3 hc
          go_wp2_with fail
          refine FL.out.mono ?_
          rintro e w13 ⟨rfl, hr13, hg13⟩
          have K13 := Lib.hid (grown_step G12.out hg13 HB.out (Nat.le_refl _) K12.out)
          have G13 := Lib.hid (grown_trans G12.out hg13)
          have R13 := Lib.hid hr13
          have er3 := hr13.err
          have h3 : (Cod.failS 3 st).2 = 3 := by unfold Cod.failS; rw [if_pos NE.out]
          rw [h3] at er3
          clear hr13 hg13 FL h3 hn
          go_wp2_with (first | refine wpList_pbuild (by rfl) _ rfl (EvP.cells ⟨⟨0, 0, 0, 0, ByteArray.empty, 0, ByteArray.empty, []⟩, none, 0⟩).toArray (by simp only [List.map_toArray, List.map_nil]; exact builtEv0 _) ?_ | refine wpList_gstore rfl _ _ rfl w.heap.size rfl (EvP.cells ⟨⟨0, 0, 0, 0, ByteArray.empty, 0, ByteArray.empty, []⟩, none, 0⟩).toArray rfl _ _ K13.out (by rw [List.size_toArray]; exact sizeEv _) rfl (fun v hv => EvP.cells_one _ v (by simpa using hv)) ?_)
          intro w35 h15 g15
          have H15 := Lib.hid h15
          have G15 := Lib.hid (grown_onE G13.out g15 (Nat.le_refl _))
          have R15 := Lib.hid (R13.out.under HB.out (grown_below g15 G13.out.size (Nat.le_refl _)))
          clear h15 g15
          go_wp2
          exact bodyPost_ret (v := .agg (EvP.cells ⟨⟨0, 0, 0, 0, ByteArray.empty, 0, ByteArray.empty, []⟩, none, 0⟩).toArray) (results_cell_row rfl _ w35 w.heap.size _ _ (0, 0) _ rfl H15.out Tryz.underlying79 rfl (by rw [List.size_toArray]; exact sizeEv _)) rfl ⟨⟨⟨0, 0, 0, 0, ByteArray.empty, 0, ByteArray.empty, []⟩, none, 0⟩, Cod.failS 3 st, rfl, World.ownsRow_nil _ _ _ _, R15.out, G15.out, (fun h => absurd h (failS_ne (by decide) _)), .inr ⟨FO.out, failS_ne (by decide) _⟩⟩
      · have FO : Hid (O = none ∧ st.2 ≠ 0) := Lib.hid ⟨N3.out he, he⟩
        have hne : (((st.2 : Nat) : Int) == 0) = false := by simpa using he
        have hnn : (((st.2 : Nat) : Int) != 0) = true := by simpa using he
        clear Y2 N2 N3 he CK
        generalize ((st.2 : Nat) : Int) = ee at er hne hnn
        go_wp2_with (first | refine wpList_pbuild (by rfl) _ rfl (EvP.cells ⟨⟨0, 0, 0, 0, ByteArray.empty, 0, ByteArray.empty, []⟩, none, 0⟩).toArray (by simp only [List.map_toArray, List.map_nil]; exact builtEv0 _) ?_ | refine wpList_gstore rfl _ _ rfl w.heap.size rfl (EvP.cells ⟨⟨0, 0, 0, 0, ByteArray.empty, 0, ByteArray.empty, []⟩, none, 0⟩).toArray rfl _ _ KK.out (by rw [List.size_toArray]; exact sizeEv _) rfl (fun v hv => EvP.cells_one _ v (by simpa using hv)) ?_)
        intro w35 h15 g15
        have H15 := Lib.hid h15
        have G15 := Lib.hid (grown_onE GR.out g15 (Nat.le_refl _))
        have R15 := Lib.hid (RD.out.under HB.out (grown_below g15 GR.out.size (Nat.le_refl _)))
        clear h15 g15
        go_wp2
        exact bodyPost_ret (v := .agg (EvP.cells ⟨⟨0, 0, 0, 0, ByteArray.empty, 0, ByteArray.empty, []⟩, none, 0⟩).toArray) (results_cell_row rfl _ w35 w.heap.size _ _ (0, 0) _ rfl H15.out Tryz.underlying79 rfl (by rw [List.size_toArray]; exact sizeEv _)) rfl ⟨⟨⟨0, 0, 0, 0, ByteArray.empty, 0, ByteArray.empty, []⟩, none, 0⟩, st, rfl, World.ownsRow_nil _ _ _ _, R15.out, G15.out, (fun h => absurd h FO.out.2), .inr FO.out⟩
end Go.Proofs.YtapmbankpbiglaaGreatDoor
