/- The statement WireDecodes, proved for every input that its row reads: part 50 of 54. -/
import Derived.Test.YtapmbankpbiglaaGreatDoorPackWireDecodes49
import Derived.Test.YtapmbankpbiglaaGreatDoorPackWireDecodes47
import Derived.Test.YtapmbankpbiglaaGreatDoorPackWireDecodes10
import Derived.Deep.CutBlock
import Derived.Deep.DeepCutAuto
import Derived.Test.YtapmbankpbiglaaGreatDoorPackWireDecodes43
import Derived.Test.YtapmbankpbiglaaGreatDoorPackWireDecodes31
import Derived.Test.YtapmbankpbiglaaGreatDoorPackWireDecodes32
/- The document's ReadEvents, and its Read of a past, of any bytes. -/
namespace Go.Proofs.YtapmbankpbiglaaGreatDoor
open Go Go.RowKit
set_option linter.unusedVariables false
set_option maxRecDepth 1000000

/-- what reading events comes to -/
def GotEvsR (w : World) (A lo : Nat) (most : Int) (O : Option (List Ev × Cod.S)) (e : Ending) (w' : World) : Prop :=
  ∃ v ys st, e = .returned v ∧ OwnE w' w.heap.size v ys ∧ (ys.length : Int) ≤ most ∧ RRd w' A lo st ∧ w.grownBy w' (some A) ∧ (st.2 = 0 → st.1.length ≤ 1000000) ∧ Outc O (evs ys) st
set_option maxHeartbeats 8000000 in
theorem refReadEvents_any (A lo : Nat) (most : Int) (s : Cod.S) (w : World) (h : RRd w A lo s) (hm : 0 ≤ most ∧ most ≤ 5000) (hl : s.1.length ≤ 1000000) :
    Calls Tryz.prog 19 #[.pointer (some ⟨A, 0, none⟩), .int .i64 most] w (GotEvsR w A lo most (lstO 2 most s)) := by
  have HB := Lib.hid h.lt
  have N9 := Lib.hid (refNum_all A lo most s w h (by omega) (by omega))
  have n1 := Cod.numS_len most s
  have n2 : ((Cod.numS most s).1 : Int) ≤ most := numS_small hm.1
  have n3 : (Cod.numS most s).1 = 0 ∨ (Cod.numS most s).2.2 = 0 := by
    by_cases e : (Cod.numS most s).2.2 = 0
    · exact .inr e
    · exact .inl (Cod.numS_zero e)
  have hO : ∀ O, O = lstO 2 most s → O = evsO 2 (Cod.numS most s).1 (Cod.numS most s).2 := fun O e => e
  obtain ⟨O, hOO⟩ : ∃ O, O = lstO 2 most s := ⟨_, rfl⟩
  rw [← hOO]
  have hO2 := hO O hOO
  clear hO hOO h
  have NL : (Cod.numS most s).2.1.length ≤ 1000000 := Nat.le_trans n1 hl
  generalize Cod.numS most s = C at *
  obtain ⟨N, S1⟩ := C
  simp only at N9 n2 n3 hO2 NL
  have N4 : Hid ((N : Int) ≤ most ∧ most ≤ 5000) := Lib.hid ⟨n2, hm.2⟩
  have NN := Lib.hid n3; have NNL := Lib.hid NL; have OO := Lib.hid hO2
  clear n1 n2 n3 hl hm hO2 NL
  go_enter Tryz.func19, Tryz.ntmps19
  go_wp2_with fail
  refine N9.out.mono ?_
  rintro e w1 ⟨rfl, hr, hg⟩
  have G1 := Lib.hid hg; have R1 := Lib.hid hr
  clear hr hg N9
  go_wp2
  go_loopw [6, 12] (fun u i wr => ∃ (j : Nat) (ys : List EvP) (st : Cod.S), j ≤ N ∧ i = .int .i64 j ∧ ys.length = j ∧ Hid (O = (evsO 2 (N - j) st).map (fun q => (evs ys ++ q.1, q.2))) ∧ Hid (N = 0 ∨ st.2 = 0) ∧ Hid (st.1.length ≤ 1000000) ∧ OwnE wr w.heap.size u ys ∧ RRd wr A lo st ∧ w.grownBy wr (some A)) (fun _ i _ => N - (RowKit.intOf i).toNat)
  case atStart => exact ⟨0, [], S1, Nat.zero_le _, rfl, rfl, Lib.hid (by rw [OO.out, Nat.sub_zero]; cases evsO 2 N S1 <;> rfl), NN, NNL, ⟨World.ownsRow_nil _ _ _ _, fun _ h => absurd h (List.not_mem_nil)⟩, R1.out, G1.out⟩
  case round =>
    clear NN NNL OO R1 G1
    obtain ⟨j, ys, st, hj, rfl, hys, HO, HN, HL, hown, hrd, hgr⟩ := hrel
    have OW := Lib.hid hown; have RD := Lib.hid hrd; have GR := Lib.hid hgr
    have LY := Lib.hid hys
    clear hown hrd hgr hys
    have hN5 : N ≤ 5000 := by have := N4.out; omega
    by_cases hjk : j < N
    · have hjk' : (j : Int) < N := by omega
      have RDT : Hid (Calls Tryz.prog 42 #[.pointer (some ⟨A, 0, none⟩)] wr (GotEvR wr A lo (evO 2 st))) := Lib.hid (refReadEvent_any A lo st wr RD.out HL.out)
      have HN1 : Hid (N - j = (N - (j + 1)) + 1) := Lib.hid (by omega)
      go_wp2_with fail
      refine RDT.out.mono ?_
      rintro e w2 ⟨x, s2, rfl, hgo, hr2, hg2, hl2, hoc⟩
      have GS := Lib.hid (grown_trans GR.out hg2)
      have R2 := Lib.hid hr2
      have LO := GR.out.size
      have O2 : Hid (OwnE w2 w.heap.size u6 ys) := Lib.hid ⟨own_keep OW.out.row hg2 (own_above OW.out.row HB.out), fun y hy => own_keep (OW.out.gone y hy) hg2 (own_above (OW.out.gone y hy) HB.out)⟩
      have X2 : Hid (w2.ownsRow w.heap.size 76 2 (.slice x.p x.e.gone.length x.c) x.e.gone.length (dcl x.e.gone)) := Lib.hid (own_base hgo LO)
      have HOC := Lib.hid hoc; have HL2 := Lib.hid hl2
      clear hgo hr2 hg2 OW RD GR RDT hoc hl2
      obtain ⟨⟨r, n, t, kd, d, fl, tx, gn⟩, gp, gc⟩ := x
      have ba := below_alloc w2 (.cells #[.int .i64 r, .int .i64 n, .int .i64 t, .int .i64 kd, .string d, .int .i64 fl, .string tx, .slice gp gn.length gc] 79)
      have na := heap_alloc_new w2 (.cells #[.int .i64 r, .int .i64 n, .int .i64 t, .int .i64 kd, .string d, .int .i64 fl, .string tx, .slice gp gn.length gc] 79)
      have O3 := Lib.hid (O2.out.later ba); have X3 := Lib.hid (own_later X2.out ba)
      have R3 := Lib.hid (R2.out.below ba)
      have G3 := Lib.hid (grown_on GS.out (ba.mono GS.out.size))
      have hz3 : w.heap.size ≤ w2.heap.size := GS.out.size
      have D3 : Hid ((w2.alloc (.cells #[.int .i64 r, .int .i64 n, .int .i64 t, .int .i64 kd, .string d, .int .i64 fl, .string tx, .slice gp gn.length gc] 79)).rangeAt w2.heap.size 0 (EvP.cells ⟨⟨r, n, t, kd, d, fl, tx, gn⟩, gp, gc⟩)) := Lib.hid (range_of_block na)
      have er := R3.out.err
      have hz4 := Nat.le_trans hz3 ba.size
      clear ba na O2 X2 R2 GS
      rw [show (EvP.cells ⟨⟨r, n, t, kd, d, fl, tx, gn⟩, gp, gc⟩).toArray = #[.int .i64 r, .int .i64 n, .int .i64 t, .int .i64 kd, .string d, .int .i64 fl, .string tx, .slice gp gn.length gc] from rfl]
      go_upto_region 6 with fail
      obtain ⟨g6, hg6⟩ : ∃ g, g = w2.heap.size := ⟨_, rfl⟩
      rw [← hg6] at D3 ⊢
      generalize (w2.alloc (.cells #[.int .i64 r, .int .i64 n, .int .i64 t, .int .i64 kd, .string d, .int .i64 fl, .string tx, .slice gp gn.length gc] 79)) = w3 at O3 X3 R3 G3 D3 er hz4 ⊢
      clear hg6
      by_cases he : s2.2 = 0
      · have HO2 : Hid (O = (evsO 2 (N - (j + 1)) s2).map (fun q => (evs (ys ++ [⟨⟨r, n, t, kd, d, fl, tx, gn⟩, gp, gc⟩]) ++ q.1, q.2))) := Lib.hid (by
          rcases HOC.out with ⟨h1, _⟩ | ⟨_, h1⟩
          · rw [HO.out, HN1.out, evsO_some h1, evs_snocA]
            cases evsO 2 (N - (j + 1)) s2 with
            | none => rfl
            | some q => simp only [Option.map_some, List.append_assoc, List.singleton_append]
          · exact absurd he h1)
        have HNX : Hid (N = 0 ∨ s2.2 = 0) := Lib.hid (.inr he)
        have HLX : Hid (s2.1.length ≤ 1000000) := Lib.hid (HL2.out he)
        rw [he] at er
        clear he HO HOC HL2
        obtain ⟨c0, c1, c2, c3, c4, c5, c6, c7⟩ := ev_cells D3.out
        simp only [Nat.zero_add] at c0 c1 c2 c3 c4 c5 c6 c7
        clear D3
        go_wp2_with (at_builtin; refine wpList_ev w3 rfl _ _ rfl w.heap.size ys.length (ecl ys) u6 rfl O3.out.row ⟨⟨r, n, t, kd, d, fl, tx, gn⟩, gp, gc⟩ rfl (by have := LY.out; have := N4.out; omega) hz4 ?_)
        intro v8 w8 o8 g8
        have b8 : Below w.heap.size w3 w8 := (Below.refl _ _).grown g8 hz4 (fun k hk => (O3.out.row.lt k hk).1)
        have R8 := Lib.hid (R3.out.under HB.out b8)
        have G8 := Lib.hid (grown_on G3.out b8)
        have O8 : Hid (OwnE w8 w.heap.size v8 (ys ++ [⟨⟨r, n, t, kd, d, fl, tx, gn⟩, gp, gc⟩])) := Lib.hid ⟨by rw [ecl_snocA, List.length_append]; exact o8, fun y hy => by
          rcases List.mem_append.1 hy with h | h
          · exact own_keep (O3.out.gone y h) g8 (own_apart (O3.out.gone y h) O3.out.row (by decide))
          · obtain rfl := List.mem_singleton.1 h
            exact own_keep X3.out g8 (own_apart X3.out O3.out.row (by decide))⟩
        have L8 : Hid ((ys ++ [(⟨⟨r, n, t, kd, d, fl, tx, gn⟩, gp, gc⟩ : EvP)]).length = j + 1) := Lib.hid (by rw [List.length_append, LY.out]; rfl)
        clear o8 g8 b8 O3 X3 R3 G3 c0 c1 c2 c3 c4 c5 c6 c7 er
        go_wp2
        go_roundw
        case rel => exact ⟨j + 1, _, s2, by omega, by go_num, L8.out, HO2, HNX, HLX, O8.out, R8.out, G8.out⟩
        case measure => simp [RowKit.intOf]; omega
      · have FO : Hid (GotEvsR w A lo most O (.returned (.slice none 0 0)) w3) := Lib.hid ⟨_, [], s2, rfl, ⟨World.ownsRow_nil _ _ _ _, fun _ h => absurd h (List.not_mem_nil)⟩, by have := N4.out; simp; omega, R3.out, G3.out, fun h => absurd h he, .inr ⟨by
          rcases HOC.out with ⟨_, h1⟩ | ⟨h1, _⟩
          · exact absurd h1 he
          · rw [HO.out, HN1.out, evsO_none h1]; rfl, he⟩⟩
        have hnn : (((s2.2 : Nat) : Int) != 0) = true := by simpa using he
        clear he HO HOC HL2 D3 O3 X3 R3 G3
        generalize ((s2.2 : Nat) : Int) = ee at er hnn
        go_wp2
        go_ret
        exact FO.out
    · obtain rfl : j = N := by omega
      have hjk' : ¬ ((j : Nat) : Int) < j := by omega
      have FO : Hid (GotEvsR w A lo most O (.returned u6) wr) := Lib.hid ⟨u6, ys, st, rfl, OW.out, by rw [LY.out]; exact N4.out.1, RD.out, GR.out, fun _ => HL.out, by
        have h1 := HO.out
        rw [Nat.sub_self] at h1
        rw [evsO_zero] at h1
        by_cases e : st.2 = 0
        · rw [if_pos e] at h1
          exact .inl ⟨by rw [h1]; simp, e⟩
        · rw [if_neg e] at h1
          exact .inr ⟨h1, e⟩⟩
      clear HO HN HL OW RD GR LY
      go_wp2
      go_ret
      exact FO.out
theorem builtP0R (w : World) : (Instr.build 55 #[]).run Tryz.prog w = .ok (.agg (pcs (.slice none 0 0) (fun _ => 0))) w := run_build w _ _ _ (by kernel_rfl)
/-- a past of bytes -/
noncomputable def pstO (s : Cod.S) : Option (((Nat → Int) × List Ev) × Cod.S) := (lstO 2 4096 (outS s)).map fun q => ((outV s, q.1), q.2)
def GotPsR (w : World) (A lo : Nat) (s : Cod.S) (e : Ending) (w' : World) : Prop :=
  ∃ (F : Nat → Int) (p : Option Addr) (c : Nat) (ys : List EvP) (st : Cod.S), e = .returned (.agg (pcs (.slice p ys.length c) F)) ∧ OwnE w' w.heap.size (.slice p ys.length c) ys ∧ ys.length ≤ 4096 ∧ RRd w' A lo st ∧ w.grownBy w' (some A) ∧ (st.2 = 0 → F = outV s) ∧ Outc (lstO 2 4096 (outS s)) (evs ys) st
set_option maxHeartbeats 8000000 in
theorem refReadPast_any (A lo : Nat) (s : Cod.S) (w : World) (h : RRd w A lo s) (hl : s.1.length ≤ 1000000) :
    Calls Tryz.prog 21 #[.pointer (some ⟨A, 0, none⟩)] w (GotPsR w A lo s) := by
  have HB := Lib.hid h.lt
  have n1 := outS_len s
  have C1 : Hid (∀ V : World, RRd V A lo s → Calls Tryz.prog 18 #[.pointer (some ⟨A, 0, none⟩)] V fun e w' => e = .returned (.agg (vf (outV s))) ∧ RRd w' A lo (outS s) ∧ V.grownBy w' (some A)) := Lib.hid fun V hV => refVread_is A lo s V hV (by omega)
  have C2 : Hid (∀ V : World, RRd V A lo (outS s) → Calls Tryz.prog 19 #[.pointer (some ⟨A, 0, none⟩), .int .i64 4096] V (GotEvsR V A lo 4096 (lstO 2 4096 (outS s)))) := Lib.hid fun V hV => refReadEvents_any A lo 4096 _ V hV (by omega) (by omega)
  have FIN : Hid (∀ (F : Nat → Int) p c ys st W, OwnE W w.heap.size (.slice p ys.length c) ys → ys.length ≤ 4096 → RRd W A lo st → w.grownBy W (some A) → (st.2 = 0 → F = outV s) → Outc (lstO 2 4096 (outS s)) (evs ys) st → GotPsR w A lo s (.returned (.agg (pcs (.slice p ys.length c) F))) W) := Lib.hid fun F p c ys st W h1 h2 h3 h4 h5 h6 => ⟨F, p, c, ys, st, rfl, h1, h2, h3, h4, h5, h6⟩
  have H := Lib.hid h
  clear h n1 hl
  generalize outV s = FA at *
  generalize lstO 2 4096 (outS s) = O at *
  generalize outS s = S1 at *
  have ZP : ∀ W : World, (zeroValue 55).run Tryz.prog W = .ok (.agg (pcs (.slice none 0 0) (fun _ => 0))) W := fun W => zeroP W
  have SL : ∀ V : World, (sizeOf 26).run Tryz.prog V = .ok 1 V := fun V => by kernel_rfl
  have HSL := Lib.hid SL
  clear SL
  go_enter Tryz.func21, Tryz.ntmps21
  go_wp2_with (refine wpList_galloc _ ZP rfl rfl ?_)
  intro g2 w1 l2 hx1 hb1
  have K1 : Hid (Px w1 g2 (.slice none 0 0) (fun _ => 0)) := Lib.hid hx1
  have G1 := Lib.hid (grown_less (R := some A) hb1)
  have R1 := Lib.hid (H.out.below hb1)
  clear hb1 hx1
  go_wp2_with fail
  refine (C1.out w1 R1.out).mono ?_
  rintro e w2 ⟨rfl, hr, hg⟩
  have G2 := Lib.hid (grown_trans G1.out hg)
  have K2 : Hid (Px w2 g2 (.slice none 0 0) (fun _ => 0)) := Lib.hid (grown_step G1.out hg HB.out l2 K1.out)
  have R2 := Lib.hid hr
  clear hr hg C1 K1 R1
  go_wp2_with (first | refine wpList_pbuild (by rfl) _ rfl (pcs (.slice none 0 0) FA) (by simp only [List.map_toArray, List.map_cons, List.map_nil]; exact builtP FA _) ?_ | refine wpList_galloc _ ZP rfl rfl ?_)
  intro g3 w3 l3 hx3 hb3
  have hl3 : w.heap.size ≤ g3 := Nat.le_trans G2.out.size l3
  have h23 : g2 ≠ g3 := by have := K2.out.lt; omega
  have G3 := Lib.hid (grown_on G2.out (hb3.mono G2.out.size))
  have K3 : Hid (Px w3 g2 (.slice none 0 0) (fun _ => 0)) := Lib.hid (K2.out.later hb3)
  have R3 := Lib.hid (R2.out.below hb3)
  have H3 := Lib.hid hx3
  clear hb3 hx3 K2 R2 ZP
  go_wp2_with (refine wpList_gstore rfl _ _ rfl g3 rfl (pcs (.slice none 0 0) FA) rfl _ _ H3.out (sizeP _ _) (by rw [pcs_size, pcs_size]) (pcs_oneV FA ⟨_, _, _, rfl⟩) ?_)
  intro w4 h4 g4
  have G4 := Lib.hid (grown_onE G3.out g4 hl3)
  have R4 := Lib.hid (R3.out.under HB.out (grown_below g4 G3.out.size hl3))
  have K4 : Hid (Px w4 g2 (.slice none 0 0) (fun _ => 0)) := Lib.hid ((g4.block _ K3.out.lt (by simpa using h23)).trans K3.out)
  have H4 : Hid (Px w4 g3 (.slice none 0 0) FA) := Lib.hid h4
  clear h4 g4 H3 K3 R3
  obtain ⟨AG, hAG⟩ : ∃ v, Value.agg (pcs (.slice none 0 0) FA) = v := ⟨_, rfl⟩
  rw [hAG]
  clear hAG
  go_wp2_with fail
  refine (C2.out w4 R4.out).mono ?_
  rintro e w5 ⟨v5, ys, st, rfl, ho, hny, hr, hg, _, hoc⟩
  obtain ⟨p5, c5, rfl, _, _, _⟩ := ho.at
  have O5 := Lib.hid (OwnE.mk (own_base ho.row G4.out.size) (fun x hx => own_base (ho.gone x hx) G4.out.size))
  have G5 := Lib.hid (grown_trans G4.out hg)
  have K5 : Hid (Px w5 g2 (.slice none 0 0) (fun _ => 0)) := Lib.hid (grown_step G4.out hg HB.out l2 K4.out)
  have H5 : Hid (Px w5 g3 (.slice none 0 0) FA) := Lib.hid (grown_step G4.out hg HB.out hl3 H4.out)
  have R5 := Lib.hid hr; have OC := Lib.hid hoc; have NY : Hid (ys.length ≤ 4096) := Lib.hid (by omega)
  clear hr hg ho hoc hny C2 K4 H4 R4
  go_wp2_with (refine wpList_storeSl rfl _ _ _ rfl ⟨g3, 0, none⟩ rfl p5 ys.length c5 rfl HSL.out _ H5.out.slot (H5.out.free 0) ?_)
  intro w6 hw6
  have gs := grown_cell w5 g3 0 (.slice p5 ys.length c5)
  have xs := H5.out.setSlot (.slice p5 ys.length c5)
  rw [← hw6.out] at gs xs
  have G6 := Lib.hid (grown_onE G5.out gs hl3)
  have R6 := Lib.hid (R5.out.under HB.out (grown_below gs G5.out.size hl3))
  have K6 : Hid (Px w6 g2 (.slice none 0 0) (fun _ => 0)) := Lib.hid ((gs.block _ K5.out.lt (by simpa using h23)).trans K5.out)
  have H6 : Hid (Px w6 g3 (.slice p5 ys.length c5) FA) := Lib.hid xs
  have O6 : Hid (OwnE w6 w.heap.size (.slice p5 ys.length c5) ys) := Lib.hid ⟨own_keep O5.out.row gs (.inr fun e => own_not O5.out.row H5.out (by decide) e.symm), fun x hx => own_keep (O5.out.gone x hx) gs (.inr fun e => own_not (O5.out.gone x hx) H5.out (by decide) e.symm)⟩
  have er := R6.out.err
  clear gs xs hw6 R5 K5 H5 O5
  have WH := Lib.hid H6.out.whole
  by_cases he : st.2 = 0
  · rw [he] at er
    clear he
    go_wp2_with (first | refine wpList_gload rfl _ rfl g3 0 rfl _ WH.out _ Tryz.underlying55 rfl (sizePl _ _) ?_ | refine wpList_gstore rfl _ _ rfl g2 rfl (pcs (.slice p5 ys.length c5) FA) rfl _ _ K6.out (sizeP _ _) (by rw [pcs_size, pcs_size]) (pcs_oneV FA ⟨_, _, _, rfl⟩) ?_)
    intro w7 h7 g7
    have G7 := Lib.hid (grown_onE G6.out g7 l2)
    have R7 := Lib.hid (R6.out.under HB.out (grown_below g7 G6.out.size l2))
    have H7 := Lib.hid h7
    have O7 : Hid (OwnE w7 w.heap.size (.slice p5 ys.length c5) ys) := Lib.hid ⟨own_keep O6.out.row g7 (.inr fun e => own_not O6.out.row K6.out (by decide) e.symm), fun x hx => own_keep (O6.out.gone x hx) g7 (.inr fun e => own_not (O6.out.gone x hx) K6.out (by decide) e.symm)⟩
    have FO := Lib.hid (FIN.out FA p5 c5 ys st w7 O7.out NY.out R7.out G7.out (fun _ => rfl) OC.out)
    clear h7 g7 er
    go_wp2
    exact past_ret rfl rfl rfl H7.out FO.out
  · have hnn : (((st.2 : Nat) : Int) != 0) = true := by simpa using he
    have HE := Lib.hid he
    clear he
    generalize ((st.2 : Nat) : Int) = ee at er hnn
    go_wp2_with (first | refine wpList_pbuild (by rfl) _ rfl (pcs (.slice none 0 0) (fun _ => 0)) (by simp only [List.map_toArray, List.map_nil]; exact builtP0R _) ?_ | refine wpList_gstore rfl _ _ rfl g2 rfl (pcs (.slice none 0 0) (fun _ => 0)) rfl _ _ K6.out (sizeP _ _) rfl (pcs_oneV _ ⟨_, _, _, rfl⟩) ?_)
    intro w7 h7 g7
    have G7 := Lib.hid (grown_onE G6.out g7 l2)
    have R7 := Lib.hid (R6.out.under HB.out (grown_below g7 G6.out.size l2))
    have H7 := Lib.hid h7
    have FO := Lib.hid (FIN.out (fun _ => 0) none 0 [] st w7 ⟨World.ownsRow_nil _ _ _ _, fun _ h => absurd h (List.not_mem_nil)⟩ (by decide) R7.out G7.out (fun h => absurd h HE.out) (.inr ⟨lies_evs_len OC.out HE.out, HE.out⟩))
    clear h7 g7 er
    go_wp2
    exact past_ret rfl rfl rfl H7.out FO.out
end Go.Proofs.YtapmbankpbiglaaGreatDoor
/- The document's Check of a message. -/
namespace Go.Proofs.YtapmbankpbiglaaGreatDoor
open Go Go.RowKit
set_option linter.unusedVariables false
set_option maxRecDepth 1000000

/-- all that a message that may be has -/
structure May (m : Mg) : Prop where
  src : 0 ≤ m.src ∧ m.src ≤ 63
  dst : 0 ≤ m.dst ∧ m.dst ≤ 63
  two : m.src ≠ m.dst
  ack : goodB m.ack = true
  base : goodB m.base = true
  floor : goodB m.floor = true
  few : m.E.length ≤ 1024
  evs : ∀ x ∈ m.E, chk x.e = 0
  kind : kindM m = true
theorem may_iff (m : Mg) : mayM m = true ↔ May m := by
  unfold mayM goM repB haveM
  simp only [Bool.and_eq_true, decide_eq_true_eq, List.all_eq_true, Bool.not_eq_true', decide_eq_false_iff_not]
  constructor
  · rintro ⟨⟨⟨a1, a2⟩, ⟨a3, a4⟩, a5, a6, a7, a8⟩, ⟨b1, b2⟩, c⟩
    exact ⟨⟨by omega, by omega⟩, ⟨by omega, by omega⟩, a5, a6, a7, a8, b1, b2, c⟩
  · rintro ⟨⟨a1, a2⟩, ⟨a3, a4⟩, a5, a6, a7, a8, b1, b2, c⟩
    exact ⟨⟨⟨by omega, by omega⟩, ⟨by omega, by omega⟩, a5, a6, a7, a8⟩, ⟨b1, b2⟩, c⟩
/-- what Check answers -/
noncomputable def mayE2 (m : Mg) : Int := if mayM m = true then 0 else 1
theorem mayE2_no {m : Mg} (h : ¬ May m) : mayE2 m = 1 := by unfold mayE2; rw [if_neg fun e => h ((may_iff m).1 e)]
theorem mayE2_yes {m : Mg} (h : May m) : mayE2 m = 0 := by unfold mayE2; rw [if_pos ((may_iff m).2 h)]
theorem builtV0 (w : World) : (Instr.build 25 #[]).run Tryz.prog w = .ok (.agg (vf fun _ => 0)) w := run_build w _ _ _ (by kernel_rfl)
set_option maxHeartbeats 8000000 in
theorem refCheck14_is (m : Mg) (w : World) (hE : EvsAt w m.ep m.E) (hL : WrsAt w m.sp m.L) : Calls Tryz.prog 23 #[.agg m.cells.toArray] w (Check1 w (mayE2 m)) := by
  have HE := Lib.hid hE; have HW := Lib.hid hL
  clear hE hL
  have NO := Lib.hid (fun h : ¬ May m => mayE2_no h)
  have YS := Lib.hid (fun h : May m => mayE2_yes h)
  obtain ⟨C, hC⟩ : ∃ C, mayE2 m = C := ⟨_, rfl⟩
  rw [hC] at NO YS ⊢
  clear hC
  have Q1 := Lib.hid (fun V : World => refGood_is m.ack V)
  have Q2 := Lib.hid (fun V : World => refGood_is m.base V)
  have Q3 := Lib.hid (fun V : World => refGood_is m.floor V)
  go_enter Tryz.func23, Tryz.ntmps23
  go_wp2_with (refine wpList_gbox rfl _ rfl m.cells.toArray rfl ?_)
  intro g w1 l1 h1 hb1
  have X1 : Hid (Mx w1 g m) := Lib.hid h1
  have B1 := Lib.hid hb1
  clear h1 hb1
  have k1 := X1.out.parts.src
  have k2 := X1.out.parts.dst
  have k5 := X1.out.parts.evs
  by_cases a1 : m.src < 0
  · obtain rfl : C = 1 := NO.out fun h => by have := h.src; omega
    go_wp2
    go_ret
    exact ⟨rfl, B1.out⟩
  by_cases a2 : m.src > 63
  · obtain rfl : C = 1 := NO.out fun h => by have := h.src; omega
    go_wp2
    go_ret
    exact ⟨rfl, B1.out⟩
  by_cases a3 : m.dst < 0
  · obtain rfl : C = 1 := NO.out fun h => by have := h.dst; omega
    go_wp2
    go_ret
    exact ⟨rfl, B1.out⟩
  by_cases a4 : m.dst > 63
  · obtain rfl : C = 1 := NO.out fun h => by have := h.dst; omega
    go_wp2
    go_ret
    exact ⟨rfl, B1.out⟩
  by_cases a5 : m.src = m.dst
  · obtain rfl : C = 1 := NO.out fun h => h.two a5
    have e5 : (m.src == m.dst) = true := beq_iff_eq.2 a5
    clear a5
    go_wp2
    go_ret
    exact ⟨rfl, B1.out⟩
  have e5 : (m.src == m.dst) = false := beq_eq_false_iff_ne.2 a5
  by_cases a6 : (m.E.length : Int) > 1024
  · obtain rfl : C = 1 := NO.out fun h => by have := h.few; omega
    go_wp2
    go_ret
    exact ⟨rfl, B1.out⟩
  have A3 := Lib.hid X1.out.parts.ack
  have FC := Lib.hid (And.intro a1 (And.intro a2 (And.intro a3 (And.intro a4 (And.intro a5 a6)))))
  go_wp2_with (refine wpList_gload rfl _ rfl g 3 rfl _ A3.out _ Tryz.underlying25 rfl (sizeVcl m.ack) ?_)
  refine (Q1.out w1).mono ?_
  rintro e w2 ⟨rfl, hb2⟩
  have X2 := Lib.hid (X1.out.later hb2); have B2 := Lib.hid (thenBelow B1.out hb2)
  clear hb2 X1 B1 k1 k2 k5 a1 a2 a3 a4 a5 a6 e5 A3 Q1
  cases hg1 : goodB m.ack with
  | false =>
    obtain rfl : C = 1 := NO.out fun h => by rw [h.ack] at hg1; cases hg1
    clear hg1
    go_wp2
    go_ret
    exact ⟨rfl, B2.out⟩
  | true =>
  have G1 := Lib.hid hg1
  clear hg1
  have A3 := Lib.hid X2.out.parts.base
  go_wp2_with (refine wpList_gloadG (by rfl) _ rfl g 67 rfl _ A3.out _ Tryz.underlying25 rfl (sizeVcl m.base) ?_)
  refine (Q2.out w2).mono ?_
  rintro e w3 ⟨rfl, hb3⟩
  have X3 := Lib.hid (X2.out.later hb3); have B3 := Lib.hid (thenBelow B2.out hb3)
  clear hb3 X2 B2 A3 Q2
  cases hg2 : goodB m.base with
  | false =>
    obtain rfl : C = 1 := NO.out fun h => by rw [h.base] at hg2; cases hg2
    clear hg2
    go_wp2
    go_ret
    exact ⟨rfl, B3.out⟩
  | true =>
  have G2 := Lib.hid hg2
  clear hg2
  have A3 := Lib.hid X3.out.parts.floor
  go_wp2_with (refine wpList_gloadG (by rfl) _ rfl g 197 rfl _ A3.out _ Tryz.underlying25 rfl (sizeVcl m.floor) ?_)
  refine (Q3.out w3).mono ?_
  rintro e w4 ⟨rfl, hb4⟩
  have X4 := Lib.hid (X3.out.later hb4); have B4 := Lib.hid (thenBelow B3.out hb4)
  clear hb4 X3 B3 A3 Q3
  cases hg3 : goodB m.floor with
  | false =>
    obtain rfl : C = 1 := NO.out fun h => by rw [h.floor] at hg3; cases hg3
    clear hg3
    go_wp2
    go_ret
    exact ⟨rfl, B4.out⟩
  | true =>
  have G3 := Lib.hid hg3
  clear hg3
  have k5 := X4.out.parts.evs
  go_wp2
  clear k5
  obtain ⟨EL, hEL⟩ : ∃ E, m.E = E := ⟨_, rfl⟩
  obtain ⟨ep, hep⟩ : ∃ q, m.ep = q := ⟨_, rfl⟩
  rw [hEL, hep] at HE
  have HEL := Lib.hid hEL
  have nE : EL.length ≤ 1024 := by have := FC.out.2.2.2.2.2; rw [hEL] at this; omega
  simp only [hEL, hep]
  go_loopw [57] (fun i wr => ∃ k : Nat, k ≤ EL.length ∧ i = .int .i64 k ∧ (∀ i (h : i < EL.length), i < k → chk EL[i].e = 0) ∧ Below w4.heap.size w4 wr) (fun i _ => EL.length - (RowKit.intOf i).toNat)
  case atStart => exact ⟨0, Nat.zero_le _, rfl, fun i _ h => by omega, Below.refl _ _⟩
  case round =>
    obtain ⟨k, hk, rfl, hall, hb⟩ := hrel
    have BB := Lib.hid (thenBelow B4.out hb); have B0 := Lib.hid hb; have HA := Lib.hid hall
    clear hall hb
    by_cases hkl : k < EL.length
    · have hkl' : (k : Int) < EL.length := by omega
      have HEr := Lib.hid (HE.out.below BB.out)
      obtain ⟨b, o, e9, hlt, hq⟩ := HEr.out.at hkl
      have OK := Lib.hid (HEr.out.ok _ (List.getElem_mem hkl))
      obtain ⟨x, hx⟩ : ∃ x, EL[k] = x := ⟨_, rfl⟩
      rw [hx] at hq OK
      have XC := Lib.hid hx
      have XM : Hid (x ∈ EL) := Lib.hid (by rw [← hx]; exact List.getElem_mem hkl)
      clear hx
      obtain ⟨c0, c1, c2, c3, c4, c5, c6, c7⟩ := ev_cells hq
      clear hq
      obtain ⟨D, hD⟩ : ∃ D, chk x.e = D := ⟨_, rfl⟩
      have CK : Hid (∀ V : World, Below wr.heap.size wr V → Calls Tryz.prog 47 #[.agg x.cells.toArray] V (Check1 V D)) := Lib.hid fun V hV => by rw [← hD]; exact refCheck_is x V (OK.out.below hV)
      have HD := Lib.hid hD
      clear hD OK
      obtain ⟨⟨r, n, t, kd, dd, fl, tx, gg⟩, gp, gc⟩ := x
      simp only at c0 c1 c2 c3 c4 c5 c6 c7
      have ba := below_alloc wr (.cells #[.int .i64 r, .int .i64 n, .int .i64 t, .int .i64 kd, .string dd, .int .i64 fl, .string tx, .slice gp gg.length gc] 79)
      have na := heap_alloc_new wr (.cells #[.int .i64 r, .int .i64 n, .int .i64 t, .int .i64 kd, .string dd, .int .i64 fl, .string tx, .slice gp gg.length gc] 79)
      have R4 : Hid ((wr.alloc (.cells #[.int .i64 r, .int .i64 n, .int .i64 t, .int .i64 kd, .string dd, .int .i64 fl, .string tx, .slice gp gg.length gc] 79)).rangeAt wr.heap.size 0 (EvP.cells ⟨⟨r, n, t, kd, dd, fl, tx, gg⟩, gp, gc⟩)) := Lib.hid (range_of_block na)
      have BA := Lib.hid ba
      have B5 := Lib.hid (thenBelow B0.out ba)
      clear ba na
      subst e9
      go_wp2_with (refine wpList_gload rfl _ rfl wr.heap.size 0 rfl _ R4.out _ Tryz.underlying79 rfl (sizeEv _) ?_)
      refine (CK.out _ BA.out).mono ?_
      rintro e w6 ⟨rfl, hb6⟩
      have B6 := Lib.hid (thenBelow B5.out hb6)
      clear hb6 c0 c1 c2 c3 c4 c5 c6 c7 CK R4 BA
      by_cases h0 : D = 0
      · subst h0
        have NA : Hid (∀ i (h : i < EL.length), i < k + 1 → chk EL[i].e = 0) := Lib.hid fun i h hi => by
          rcases Nat.lt_or_ge i k with h3 | h3
          · exact HA.out i h h3
          · obtain rfl : i = k := by omega
            rw [XC.out]; exact HD.out
        go_wp2
        go_roundw
        case rel => exact ⟨k + 1, by omega, by go_num, NA.out, B6.out⟩
        case measure => simp [RowKit.intOf]; omega
      · have hn : (D != 0) = true := by simpa using h0
        obtain rfl : C = 1 := NO.out fun h => h0 (by rw [← HD.out]; exact h.evs _ (by rw [HEL.out]; exact XM.out))
        clear h0
        go_wp2
        go_ret
        exact ⟨rfl, thenBelow B4.out B6.out⟩
    · obtain rfl : k = EL.length := by omega
      have hkl' : ¬ ((EL.length : Nat) : Int) < EL.length := by omega
      have CH : Hid (∀ x ∈ m.E, chk x.e = 0) := Lib.hid fun x hx => by
        rw [HEL.out] at hx
        obtain ⟨i, hi, rfl⟩ := List.getElem_of_mem hx
        exact HA.out i hi hi
      have XX := Lib.hid (X4.out.later B0.out)
      have VW : Hid (wr.rangeAt g 132 (scs m.seen (.slice m.sp m.L.length m.sc)).toList) := Lib.hid XX.out.parts.st
      have hsp : (scs m.seen (.slice m.sp m.L.length m.sc)).toList = (vf m.seen).toList ++ [.slice m.sp m.L.length m.sc] := by simp [scs]
      have rp := VW.out
      rw [hsp] at rp
      have VS : Hid (wr.rangeAt g 132 (vf m.seen).toList) := Lib.hid (range_app rp).1
      have ks : wr.cell? ⟨g, 196, none⟩ = some (.slice m.sp m.L.length m.sc) := by have := (range_app rp).2 0 _ rfl; rw [vfl_len] at this; exact this
      have VB := Lib.hid XX.out.parts.base; have VF := Lib.hid XX.out.parts.floor
      have kk := XX.out.parts.kind
      have ke := XX.out.parts.evs
      have NQS : Hid (∀ U : World, (binOp .neq 25 (.agg (vf m.seen)) (.agg (vf fun _ => 0))).run Tryz.prog U = .ok (.bool (!veq m.seen (fun _ => 0))) U) := Lib.hid fun U => vecI.neq _ _ U
      have NQF : Hid (∀ U : World, (binOp .neq 25 (.agg (vf m.floor)) (.agg (vf fun _ => 0))).run Tryz.prog U = .ok (.bool (!veq m.floor (fun _ => 0))) U) := Lib.hid fun U => vecI.neq _ _ U
      have NQB : Hid (∀ U : World, (binOp .neq 25 (.agg (vf m.base)) (.agg (vf fun _ => 0))).run Tryz.prog U = .ok (.bool (!veq m.base (fun _ => 0))) U) := Lib.hid fun U => vecI.neq _ _ U
      have MK : Hid (kindM m = true → May m) := Lib.hid fun hk => by
        obtain ⟨a1, a2, a3, a4, a5, a6⟩ := FC.out
        exact ⟨⟨by omega, by omega⟩, ⟨by omega, by omega⟩, a5, G1.out, G2.out, G3.out, by omega, CH.out, hk⟩
      clear rp hsp
      obtain ⟨ST, hST⟩ : ∃ S, (!veq m.seen (fun _ => 0) || (decide (0 < m.L.length) || !veq m.floor (fun _ => 0))) = S := ⟨_, rfl⟩
      obtain ⟨BZ, hBZ⟩ : ∃ z, veq m.base (fun _ => 0) = z := ⟨_, rfl⟩
      have HST := Lib.hid hST; have HBZ := Lib.hid hBZ
      have NOF : Hid (noFullM m = !ST) := Lib.hid (by unfold noFullM noState; rw [← hST]; cases veq m.seen (fun _ => 0) <;> cases veq m.floor (fun _ => 0) <;> by_cases hq : m.L.length = 0 <;> simp [hq, Nat.pos_iff_ne_zero])
      have NOB : Hid (noBaseM m = BZ) := Lib.hid hBZ
      clear hST hBZ
      obtain ⟨nL, hnL⟩ : ∃ n, m.L.length = n := ⟨_, rfl⟩
      obtain ⟨nM, hnM⟩ : ∃ n, m.E.length = n := ⟨_, rfl⟩
      rw [hnL] at ks; rw [hnM] at ke
      have NLH := Lib.hid hnL; have NMH := Lib.hid hnM
      rw [hnL] at HST
      clear hnL hnM
      have NQF2 : Hid (∀ U : World, (Op.equalIn 10000 25 (.agg (vf m.floor)) (.agg (vf fun _ => 0))).run Tryz.prog U = .ok (veq m.floor (fun _ => 0)) U) := Lib.hid fun U => vecI.equalIn 9998 _ _ U
      have NQS2 : Hid (∀ U : World, (Op.equalIn 10000 25 (.agg (vf m.seen)) (.agg (vf fun _ => 0))).run Tryz.prog U = .ok (veq m.seen (fun _ => 0)) U) := Lib.hid fun U => vecI.equalIn 9998 _ _ U
      have NQB2 : Hid (∀ U : World, (Op.equalIn 10000 25 (.agg (vf m.base)) (.agg (vf fun _ => 0))).run Tryz.prog U = .ok (veq m.base (fun _ => 0)) U) := Lib.hid fun U => vecI.equalIn 9998 _ _ U
      go_upto_region 11 with fail
      go_cut [5] (fun v wx => v = .bool ST ∧ wx = wr)
      case first =>
        clear ke kk NO YS MK NOF NOB HBZ NQB VW VB XX CH FC G1 G2 G3 HA HE HW BB B0 B4 X4
        cases hs0 : veq m.seen (fun _ => 0) with
        | false =>
          have NS := NQS.out; have NSe := NQS2.out
          rw [hs0] at NS NSe
          have HS0 := Lib.hid hs0
          clear hs0 NQS NQF
          go_wp2_with (first
          | refine wpList_pbuild (by rfl) _ rfl (vf fun _ => 0) (by simp only [List.map_toArray, List.map_nil]; exact builtV0 _) ?_
          | refine wpList_gload rfl _ rfl g 132 rfl _ VS.out _ Tryz.underlying25 rfl (sizeVcl m.seen) ?_
          | refine wpList_gloadG (by rfl) _ rfl g 197 rfl _ VF.out _ Tryz.underlying25 rfl (sizeVcl m.floor) ?_)
          go_meet
          exact ⟨by rw [← HST.out, HS0.out]; rfl, rfl⟩
        | true =>
          have NS := NQS.out; have NSe := NQS2.out
          rw [hs0] at NS NSe
          have HS0 := Lib.hid hs0
          clear hs0 NQS
          by_cases hl0 : 0 < nL
          · have hl1 : (nL : Int) > 0 := by omega
            have HL0 := Lib.hid hl0
            clear hl0 NQF
            go_wp2_with (first
          | refine wpList_pbuild (by rfl) _ rfl (vf fun _ => 0) (by simp only [List.map_toArray, List.map_nil]; exact builtV0 _) ?_
          | refine wpList_gload rfl _ rfl g 132 rfl _ VS.out _ Tryz.underlying25 rfl (sizeVcl m.seen) ?_
          | refine wpList_gloadG (by rfl) _ rfl g 197 rfl _ VF.out _ Tryz.underlying25 rfl (sizeVcl m.floor) ?_)
            go_meet
            exact ⟨by rw [← HST.out, HS0.out, decide_eq_true HL0.out]; rfl, rfl⟩
          · have hl1 : ¬ (nL : Int) > 0 := by omega
            have HL0 := Lib.hid hl0
            clear hl0
            obtain ⟨FZ, hFZ⟩ : ∃ z, veq m.floor (fun _ => 0) = z := ⟨_, rfl⟩
            have NF := NQF.out; have NFe := NQF2.out
            rw [hFZ] at NF NFe
            have HFZ := Lib.hid hFZ
            clear hFZ NQF
            go_wp2_with (first
          | refine wpList_pbuild (by rfl) _ rfl (vf fun _ => 0) (by simp only [List.map_toArray, List.map_nil]; exact builtV0 _) ?_
          | refine wpList_gload rfl _ rfl g 132 rfl _ VS.out _ Tryz.underlying25 rfl (sizeVcl m.seen) ?_
          | refine wpList_gloadG (by rfl) _ rfl g 197 rfl _ VF.out _ Tryz.underlying25 rfl (sizeVcl m.floor) ?_)
            go_meet
            exact ⟨by rw [← HST.out, HS0.out, decide_eq_false HL0.out, HFZ.out]; rfl, rfl⟩
      case rest =>
      obtain ⟨rfl, rfl⟩ := hcut
      have NB := NQB.out
      rw [HBZ.out] at NB
      clear NQB NQS NQF VS ks HST HBZ
      go_upto_region 13 with (first
        | refine wpList_pbuild (by rfl) _ rfl (vf fun _ => 0) (by simp only [List.map_toArray, List.map_nil]; exact builtV0 _) ?_
        | refine wpList_gload rfl _ rfl g 67 rfl _ VB.out _ Tryz.underlying25 rfl (sizeVcl m.base) ?_)
      clear NB VB VF
      by_cases k1 : m.kind = 1
      · have e1 : (m.kind == 1) = true := beq_iff_eq.2 k1
        cases ST with
        | true =>
          obtain rfl : C = 1 := NO.out fun h => by have hk := h.kind; unfold kindM at hk; rw [NOF.out, NOB.out, NMH.out] at hk; simp [k1] at hk
          go_wp2
          go_ret
          exact ⟨rfl, BB.out⟩
        | false =>
          cases BZ with
          | false =>
            obtain rfl : C = 1 := NO.out fun h => by have hk := h.kind; unfold kindM at hk; rw [NOF.out, NOB.out, NMH.out] at hk; simp [k1] at hk
            go_wp2
            go_ret
            exact ⟨rfl, BB.out⟩
          | true =>
            by_cases hE0 : nM = 0
            · have ee : ((nM : Int) == 0) = true := by rw [hE0]; rfl
              obtain rfl : C = 0 := YS.out (MK.out (by unfold kindM; rw [NOF.out, NOB.out, NMH.out]; simp [k1, hE0]))
              go_wp2
              go_ret
              exact ⟨rfl, BB.out⟩
            · have ee : ((nM : Int) == 0) = false := beq_eq_false_iff_ne.2 (by omega)
              obtain rfl : C = 1 := NO.out fun h => by have hk := h.kind; unfold kindM at hk; rw [NOF.out, NOB.out, NMH.out] at hk; simp [k1, hE0] at hk
              go_wp2
              go_ret
              exact ⟨rfl, BB.out⟩
      have e1 : (m.kind == 1) = false := beq_eq_false_iff_ne.2 k1
      by_cases k2 : m.kind = 2
      · have e2 : (m.kind == 2) = true := beq_iff_eq.2 k2
        cases ST with
        | true =>
          obtain rfl : C = 1 := NO.out fun h => by have hk := h.kind; unfold kindM at hk; rw [NOF.out, NOB.out, NMH.out] at hk; simp [k2] at hk
          go_wp2
          go_ret
          exact ⟨rfl, BB.out⟩
        | false =>
          by_cases hE0 : nM > 0
          · have ee : (nM : Int) > 0 := by omega
            obtain rfl : C = 0 := YS.out (MK.out (by unfold kindM; rw [NOF.out, NOB.out, NMH.out]; simp [k2, hE0]))
            go_wp2
            go_ret
            exact ⟨rfl, BB.out⟩
          · have ee : ¬ (nM : Int) > 0 := by omega
            obtain rfl : C = 1 := NO.out fun h => by have hk := h.kind; unfold kindM at hk; rw [NOF.out, NOB.out, NMH.out] at hk; simp [k2, hE0] at hk
            go_wp2
            go_ret
            exact ⟨rfl, BB.out⟩
      have e2 : (m.kind == 2) = false := beq_eq_false_iff_ne.2 k2
      by_cases k3 : m.kind = 3
      · have e3 : (m.kind == 3) = true := beq_iff_eq.2 k3
        cases BZ with
        | false =>
          obtain rfl : C = 1 := NO.out fun h => by have hk := h.kind; unfold kindM at hk; rw [NOF.out, NOB.out, NMH.out] at hk; simp [k3] at hk
          go_wp2
          go_ret
          exact ⟨rfl, BB.out⟩
        | true =>
          have CAN : Hid (∀ V : World, Below w.heap.size w V → Calls Tryz.prog 45 #[.agg (scs m.seen (.slice m.sp m.L.length m.sc))] V (RetBool V (canB m.seen m.L))) := Lib.hid fun V hV => refCan_is m.seen m.sp m.sc m.L V (HW.out.below hV)
          obtain ⟨CB, hcan⟩ : ∃ c, canB m.seen m.L = c := ⟨_, rfl⟩
          rw [hcan] at CAN
          have HCB := Lib.hid hcan
          clear hcan
          go_wp2_with (refine wpList_gloadG (by rfl) _ rfl g 132 rfl _ VW.out _ Tryz.underlying29 rfl (sizeStl _ _) ?_)
          refine (CAN.out _ BB.out).mono ?_
          rintro e w9 ⟨rfl, hb9⟩
          have B9 := Lib.hid (thenBelow BB.out hb9)
          clear hb9
          cases CB with
          | false =>
            obtain rfl : C = 1 := NO.out fun h => by have hk := h.kind; unfold kindM at hk; rw [NOF.out, NOB.out, NMH.out, HCB.out] at hk; simp [k3] at hk
            go_wp2
            go_ret
            exact ⟨rfl, B9.out⟩
          | true =>
            obtain rfl : C = 0 := YS.out (MK.out (by unfold kindM; rw [NOF.out, NOB.out, NMH.out, HCB.out]; simp [k3]))
            go_wp2
            go_ret
            exact ⟨rfl, B9.out⟩
      have e3 : (m.kind == 3) = false := beq_eq_false_iff_ne.2 k3
      obtain rfl : C = 1 := NO.out fun h => by have hk := h.kind; unfold kindM at hk; rw [NOF.out, NOB.out, NMH.out] at hk; simp [k1, k2, k3] at hk
      go_wp2
      go_ret
      exact ⟨rfl, BB.out⟩
end Go.Proofs.YtapmbankpbiglaaGreatDoor
