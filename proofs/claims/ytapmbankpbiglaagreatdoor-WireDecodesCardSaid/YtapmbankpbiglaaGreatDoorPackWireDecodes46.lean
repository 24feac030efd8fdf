/- The statement WireDecodes, proved for every input that its row reads: part 46 of 54. -/
import Derived.Test.YtapmbankpbiglaaGreatDoorPackWireDecodes36
import Derived.Test.YtapmbankpbiglaaGreatDoorPackWireDecodes43
import Derived.Test.YtapmbankpbiglaaGreatDoorPackWireDecodes10
import Derived.Test.YtapmbankpbiglaaGreatDoorPackWireDecodes44
import Derived.Test.YtapmbankpbiglaaGreatDoorPackWireDecodes45
import Derived.Test.YtapmbankpbiglaaGreatDoorPackWireDecodes12
/- past.ReadEvent of any bytes. -/
namespace Go.Proofs.YtapmbankpbiglaaGreatDoor
open Go Go.RowKit
set_option linter.unusedVariables false
set_option maxRecDepth 1000000

theorem builtEv0 (w : World) : (Instr.build 79 #[]).run Tryz.prog w = .ok (.agg (EvP.cells ⟨⟨0, 0, 0, 0, ByteArray.empty, 0, ByteArray.empty, []⟩, none, 0⟩).toArray) w := run_build w _ _ _ (by kernel_rfl)
/-- what reading an event comes to: its gone dots are the call's own -/
def GotEvA (w : World) (B : Nat) (O : Option (Ev × Cod.S)) (e : Ending) (w' : World) : Prop :=
  ∃ (x : EvP) (st : Cod.S), e = .returned (.agg x.cells.toArray) ∧ w'.ownsRow w.heap.size 76 2 (.slice x.p x.e.gone.length x.c) x.e.gone.length (dcl x.e.gone) ∧ RdA w' B st ∧ w.grownBy w' (some B) ∧ (st.2 = 0 → st.1.length ≤ 1000000) ∧ Outc O x.e st
theorem dcl_snoc (l : List Dt) (z1 z2 : Int) : dcl (l ++ [(z1, z2)]) = dcl l ++ [.int .i64 z1, .int .i64 z2] := by rw [dcl_append]; rfl
set_option maxHeartbeats 2000000 in
theorem readEvent_any (B : Nat) (s : Cod.S) (w : World) (h : RdA w B s) (hT : ∀ w', w.grownBy w' (some B) → Shapes w') (hl : s.1.length ≤ 1000000) :
    Calls Tryz.prog 55 #[.pointer (some ⟨B, 0, none⟩)] w (GotEvA w B (evO 9223372036854775807 s)) := by
  have HB := Lib.hid h.lt
  have HT := Lib.hid hT
  have hB := h.lt
  clear hT
  have n1 := Cod.dotS_len s; have n2 := Cod.timeS_len s; have n3 := Cod.kinS_len 9223372036854775807 s; have n4 := Cod.edcS_len 9223372036854775807 s; have n5 := Cod.efdS_len 9223372036854775807 s; have n6 := Cod.etxS_len 9223372036854775807 s; have n7 := Cod.ecnS_len 9223372036854775807 s
  have C1 : Hid (∀ V : World, RdA V B s → Calls Tryz.prog 79 #[.pointer (some ⟨B, 0, none⟩)] V (GotA V B (.agg (dcs (dotP s).1 (dotP s).2)) (Cod.dotS s).2)) := Lib.hid fun V hV => readDot_any B s V hV hl
  have C2 : Hid (∀ V : World, RdA V B (Cod.dotS s).2 → Calls Tryz.prog 30 #[.pointer (some ⟨B, 0, none⟩), .int .i64 1099511627776] V (GotA V B (.int .i64 (Cod.timeS s).1) (Cod.timeS s).2)) := Lib.hid fun V hV => by unfold Cod.timeS; exact num_all B _ _ V hV (by omega) (by omega)
  have C3 : Hid (∀ V : World, RdA V B (Cod.timeS s).2 → Calls Tryz.prog 30 #[.pointer (some ⟨B, 0, none⟩), .int .i64 9223372036854775807] V (GotA V B (.int .i64 (Cod.kinS 9223372036854775807 s).1) (Cod.kinS 9223372036854775807 s).2)) := Lib.hid fun V hV => by unfold Cod.kinS; exact num_all B _ _ V hV (by omega) (by omega)
  have C4 : Hid (∀ V : World, RdA V B (Cod.kinS 9223372036854775807 s).2 → Calls Tryz.prog 80 #[.pointer (some ⟨B, 0, none⟩), .int .i64 12] V (GotA V B (.string (Cod.edcS 9223372036854775807 s).1) (Cod.edcS 9223372036854775807 s).2)) := Lib.hid fun V hV => by unfold Cod.edcS; exact text_all B _ _ V hV (by omega) (by omega)
  have C5 : Hid (∀ V : World, RdA V B (Cod.edcS 9223372036854775807 s).2 → Calls Tryz.prog 30 #[.pointer (some ⟨B, 0, none⟩), .int .i64 4] V (GotA V B (.int .i64 (Cod.efdS 9223372036854775807 s).1) (Cod.efdS 9223372036854775807 s).2)) := Lib.hid fun V hV => by unfold Cod.efdS; exact num_all B _ _ V hV (by omega) (by omega)
  have C6 : Hid (∀ V : World, RdA V B (Cod.efdS 9223372036854775807 s).2 → Calls Tryz.prog 80 #[.pointer (some ⟨B, 0, none⟩), .int .i64 160] V (GotA V B (.string (Cod.etxS 9223372036854775807 s).1) (Cod.etxS 9223372036854775807 s).2)) := Lib.hid fun V hV => by unfold Cod.etxS; exact text_all B _ _ V hV (by omega) (by omega)
  have C7 : Hid (∀ V : World, RdA V B (Cod.etxS 9223372036854775807 s).2 → Calls Tryz.prog 30 #[.pointer (some ⟨B, 0, none⟩), .int .i64 120] V (GotA V B (.int .i64 (Cod.ecnS 9223372036854775807 s).1) (Cod.ecnS 9223372036854775807 s).2)) := Lib.hid fun V hV => by unfold Cod.ecnS; exact num_all B _ _ V hV (by omega) (by omega)
  have n8 : (Cod.ecnS 9223372036854775807 s).1 ≤ 120 := by
    have h := numS_small (many := 120) (s := (Cod.etxS 9223372036854775807 s).2) (by omega)
    unfold Cod.ecnS
    omega
  have n9 : (Cod.ecnS 9223372036854775807 s).2.1.length ≤ 1000000 := Nat.le_trans n7 hl
  obtain ⟨O, hO⟩ : ∃ O, evO 9223372036854775807 s = O := ⟨_, rfl⟩
  -- what the outcome is, by how the reading ended
  have YES : Hid (∀ gs : List Dt, (Cod.dotsS (Cod.ecnS 9223372036854775807 s).1 (Cod.ecnS 9223372036854775807 s).2).2.2 = 0 → gs = (Cod.dotsS (Cod.ecnS 9223372036854775807 s).1 (Cod.ecnS 9223372036854775807 s).2).1 → chk ⟨(dotP s).1, (dotP s).2, (Cod.timeS s).1, (Cod.kinS 9223372036854775807 s).1, (Cod.edcS 9223372036854775807 s).1, (Cod.efdS 9223372036854775807 s).1, (Cod.etxS 9223372036854775807 s).1, gs⟩ = 0 → O = some (⟨(dotP s).1, (dotP s).2, (Cod.timeS s).1, (Cod.kinS 9223372036854775807 s).1, (Cod.edcS 9223372036854775807 s).1, (Cod.efdS 9223372036854775807 s).1, (Cod.etxS 9223372036854775807 s).1, gs⟩, (Cod.dotsS (Cod.ecnS 9223372036854775807 s).1 (Cod.ecnS 9223372036854775807 s).2).2)) := Lib.hid fun gs h1 h2 h3 => hO.symm.trans (evO_yes 9223372036854775807 (by decide) s gs h1 h2 h3)
  have NO : Hid (∀ gs : List Dt, (Cod.dotsS (Cod.ecnS 9223372036854775807 s).1 (Cod.ecnS 9223372036854775807 s).2).2.2 = 0 → gs = (Cod.dotsS (Cod.ecnS 9223372036854775807 s).1 (Cod.ecnS 9223372036854775807 s).2).1 → chk ⟨(dotP s).1, (dotP s).2, (Cod.timeS s).1, (Cod.kinS 9223372036854775807 s).1, (Cod.edcS 9223372036854775807 s).1, (Cod.efdS 9223372036854775807 s).1, (Cod.etxS 9223372036854775807 s).1, gs⟩ ≠ 0 → O = none) := Lib.hid fun gs h1 h2 h3 => hO.symm.trans (evO_no 9223372036854775807 (by decide) s gs h1 h2 h3)
  have NO2 : Hid ((Cod.dotsS (Cod.ecnS 9223372036854775807 s).1 (Cod.ecnS 9223372036854775807 s).2).2.2 ≠ 0 → O = none) := Lib.hid fun h1 => hO.symm.trans (evO_no2 9223372036854775807 s h1)
  rw [hO]
  have H := Lib.hid h
  clear h n1 n2 n3 n4 n5 n6 n7 hl hO
  generalize dotP s = DP at *
  generalize Cod.dotS s = D1 at *
  generalize Cod.timeS s = D2 at *
  generalize Cod.kinS 9223372036854775807 s = D3 at *
  generalize Cod.edcS 9223372036854775807 s = D4 at *
  generalize Cod.efdS 9223372036854775807 s = D5 at *
  generalize Cod.etxS 9223372036854775807 s = D6 at *
  generalize Cod.ecnS 9223372036854775807 s = D7 at *
  obtain ⟨r, n⟩ := DP
  obtain ⟨t', t2⟩ := D2
  obtain ⟨k', t3⟩ := D3
  obtain ⟨d, t4⟩ := D4
  obtain ⟨f', t5⟩ := D5
  obtain ⟨tx, t6⟩ := D6
  obtain ⟨N, S1⟩ := D7
  simp only at C1 C2 C3 C4 C5 C6 C7 n8 n9 YES NO NO2
  have N4 : Hid (N ≤ 120 ∧ S1.1.length ≤ 1000000) := Lib.hid ⟨n8, n9⟩
  clear n9
  have hb1 := below_alloc w (.cells #[.int .i64 0, .int .i64 0, .int .i64 0, .int .i64 0, .string ByteArray.empty, .int .i64 0, .string ByteArray.empty, .slice none 0 0] 79)
  have K1 := Lib.hid (heap_alloc_new w (.cells #[.int .i64 0, .int .i64 0, .int .i64 0, .int .i64 0, .string ByteArray.empty, .int .i64 0, .string ByteArray.empty, .slice none 0 0] 79))
  have R1 := Lib.hid (H.out.below hb1)
  have G1 := Lib.hid (grown_less (R := some B) hb1)
  clear hb1
  go_enter Tryz.func55, Tryz.ntmps55
  go_wp2_with fail
  refine (C1.out _ R1.out).mono ?_
  rintro e w2 ⟨rfl, hr, hg⟩
  have G2 := Lib.hid (grown_trans G1.out hg)
  have K2 := Lib.hid (grown_step G1.out hg HB.out (Nat.le_refl _) K1.out)
  have R2 := Lib.hid hr
  clear hr hg C1 K1 R1
  go_wp2_with fail
  refine (C2.out w2 R2.out).mono ?_
  rintro e w3 ⟨rfl, hr, hg⟩
  have G3 := Lib.hid (grown_trans G2.out hg)
  have K3 := Lib.hid (grown_step G2.out hg HB.out (Nat.le_refl _) K2.out)
  have R3 := Lib.hid hr
  clear hr hg C2 K2 R2
  go_wp2_with fail
  refine (C3.out w3 R3.out).mono ?_
  rintro e w4 ⟨rfl, hr, hg⟩
  have G4 := Lib.hid (grown_trans G3.out hg)
  have K4 := Lib.hid (grown_step G3.out hg HB.out (Nat.le_refl _) K3.out)
  have R4 := Lib.hid hr
  clear hr hg C3 K3 R3
  go_wp2_with fail
  refine (C4.out w4 R4.out).mono ?_
  rintro e w5 ⟨rfl, hr, hg⟩
  have G5 := Lib.hid (grown_trans G4.out hg)
  have K5 := Lib.hid (grown_step G4.out hg HB.out (Nat.le_refl _) K4.out)
  have R5 := Lib.hid hr
  clear hr hg C4 K4 R4
  go_wp2_with fail
  refine (C5.out w5 R5.out).mono ?_
  rintro e w6 ⟨rfl, hr, hg⟩
  have G6 := Lib.hid (grown_trans G5.out hg)
  have K6 := Lib.hid (grown_step G5.out hg HB.out (Nat.le_refl _) K5.out)
  have R6 := Lib.hid hr
  clear hr hg C5 K5 R5
  go_wp2_with fail
  refine (C6.out w6 R6.out).mono ?_
  rintro e w7 ⟨rfl, hr, hg⟩
  have G7 := Lib.hid (grown_trans G6.out hg)
  have K7 := Lib.hid (grown_step G6.out hg HB.out (Nat.le_refl _) K6.out)
  have R7 := Lib.hid hr
  clear hr hg C6 K6 R6
  have BE : ∀ W : World, (Instr.build 79 #[(0, .agg (dcs r n)), (1, .int .i64 (t' : Int)), (2, .int .i64 (k' : Int)), (3, .string d), (4, .int .i64 (f' : Int)), (5, .string tx)]).run Tryz.prog W = .ok (.agg (EvP.cells ⟨⟨r, n, t', k', d, f', tx, []⟩, none, 0⟩).toArray) W := fun W => run_build W _ _ _ (by kernel_rfl)
  have ZE : ∀ W : World, (zeroValue 79).run Tryz.prog W = .ok (.agg (EvP.cells ⟨⟨0, 0, 0, 0, ByteArray.empty, 0, ByteArray.empty, []⟩, none, 0⟩).toArray) W := fun W => by kernel_rfl
  go_wp2_with (first | refine wpList_pbuild (by rfl) _ rfl (EvP.cells ⟨⟨r, n, t', k', d, f', tx, []⟩, none, 0⟩).toArray (by simp only [List.map_toArray, List.map_cons, List.map_nil]; exact BE _) ?_ | refine wpList_galloc _ ZE rfl rfl ?_)
  intro g3 w8 l8 h8 hb8
  have hl3 : w.heap.size ≤ g3 := Nat.le_trans G7.out.size l8
  have G8 := Lib.hid (grown_on G7.out (hb8.mono G7.out.size))
  have K8 := Lib.hid ((hb8.block _ (Array.getElem?_eq_some_iff.1 K7.out).1).trans K7.out)
  have R8 := Lib.hid (R7.out.below hb8)
  have h23 : w.heap.size ≠ g3 := by have := (Array.getElem?_eq_some_iff.1 K7.out).1; omega
  have H8 := Lib.hid h8
  clear hb8 h8 BE ZE R7 K7 l8
  go_wp2_with (refine wpList_gstore rfl _ _ rfl g3 rfl (EvP.cells ⟨⟨r, n, t', k', d, f', tx, []⟩, none, 0⟩).toArray rfl _ _ H8.out (by rw [List.size_toArray]; exact sizeEv _) rfl (fun v hv => EvP.cells_one _ v (by simpa using hv)) ?_)
  intro w9 h9 g9
  have B9 : Below w.heap.size w8 w9 := grown_below g9 G8.out.size hl3
  have G9 := Lib.hid (grown_onE G8.out g9 hl3)
  have K9 := Lib.hid ((g9.block _ (Array.getElem?_eq_some_iff.1 K8.out).1 (by simpa using h23)).trans K8.out)
  have R9 := Lib.hid (R8.out.under HB.out B9)
  have H9 := Lib.hid h9
  clear h9 g9 B9 H8 K8 R8
  obtain ⟨AG, hAG⟩ : ∃ v, Value.agg (EvP.cells ⟨⟨r, n, t', k', d, f', tx, []⟩, none, 0⟩).toArray = v := ⟨_, rfl⟩
  rw [hAG]
  have H9 : Hid (w9.heap[g3]? = some (.cells (evAt r n (t' : Int) (k' : Int) d (f' : Int) tx (.slice none 0 0)) 79 (0, 0))) := H9
  clear hAG
  go_wp2_with fail
  refine (C7.out w9 R9.out).mono ?_
  rintro e w10 ⟨rfl, hr, hg⟩
  have G10 := Lib.hid (grown_trans G9.out hg)
  have K10 := Lib.hid (grown_step G9.out hg HB.out (Nat.le_refl _) K9.out)
  have H10 := Lib.hid (grown_step G9.out hg HB.out hl3 H9.out)
  have R10 := Lib.hid hr
  clear hr hg C7 K9 H9 R9
  go_wp2
  go_loopw [19] (fun i wr => ∃ (j : Nat) (u : Value) (gs : List Dt) (st : Cod.S), j ≤ N ∧ i = .int .i64 j ∧ gs.length = j ∧ Hid (st = (Cod.dotsS j S1).2) ∧ Hid (st.2 = 0 → gs = (Cod.dotsS j S1).1) ∧ wr.heap[g3]? = some (.cells (evAt r n (t' : Int) (k' : Int) d (f' : Int) tx u) 79 (0, 0)) ∧ wr.ownsRow w.heap.size 76 2 u j (dcl gs) ∧ RdA wr B st ∧ w.grownBy wr (some B) ∧ wr.heap[w.heap.size]? = some (Obj.cells #[.int .i64 0, .int .i64 0, .int .i64 0, .int .i64 0, .string ByteArray.empty, .int .i64 0, .string ByteArray.empty, .slice none 0 0] 79 (0, 0))) (fun i _ => N - (intOf i).toNat)
  case atStart => exact ⟨0, _, [], S1, Nat.zero_le _, rfl, rfl, Lib.hid (by simp only [Cod.dotsS]), Lib.hid (fun _ => by simp only [Cod.dotsS]), H10.out, World.ownsRow_nil _ _ _ _, R10.out, G10.out, K10.out⟩
  case round =>
    clear H10 R10 G10 K10
    obtain ⟨j, u, gs, st, hj, rfl, hgs, HST, HGS, hh, hown, hrd, hgr, hk⟩ := hrel
    have H0 := Lib.hid hh; have OW := Lib.hid hown; have RD := Lib.hid hrd; have GR := Lib.hid hgr; have KK := Lib.hid hk
    have HLen := Lib.hid hgs
    clear hh hown hrd hgr hk hgs
    have nT : st.1.length ≤ 1000000 := by
      have := Cod.dotsS_len j S1
      have := N4.out.2
      rw [HST.out]; omega
    by_cases hjk : j < N
    · have hjk' : (j : Int) < N := by omega
      have RDT : Hid (∀ W, Below wr.heap.size wr W → Calls Tryz.prog 79 #[.pointer (some ⟨B, 0, none⟩)] W (GotA W B (.agg (dcs (dotP st).1 (dotP st).2)) (Cod.dotS st).2)) := Lib.hid fun W hW => readDot_any B st W (RD.out.below hW) nT
      have ST2 : Hid ((Cod.dotS st).2 = (Cod.dotsS (j + 1) S1).2) := Lib.hid (by rw [(Cod.dotsS_step j S1).1, HST.out])
      have GS2 : Hid ((Cod.dotS st).2.2 = 0 → gs ++ [dotP st] = (Cod.dotsS (j + 1) S1).1) := Lib.hid fun h0 => by
        have hp : dotP st = (Cod.dotS st).1 := by unfold dotP; rw [if_pos h0]
        rw [(Cod.dotsS_step j S1).2, hp, HGS.out (Cod.dotS_keep h0), HST.out]
      generalize (Cod.dotS st).2 = TK at RDT ST2 GS2
      generalize dotP st = z at RDT GS2
      obtain ⟨z1, z2⟩ := z
      simp only at RDT
      have XN : Hid (dcl gs ++ [.int .i64 z1, .int .i64 z2] = dcl (gs ++ [(z1, z2)])) := Lib.hid (dcl_snoc gs z1 z2).symm
      have LN2 : Hid ((gs ++ [(z1, z2)]).length = j + 1) := Lib.hid (by rw [List.length_append, HLen.out]; rfl)
      obtain ⟨gs2, hgs2⟩ : ∃ X, gs ++ [(z1, z2)] = X := ⟨_, rfl⟩
      rw [hgs2] at GS2 XN LN2
      clear hgs2
      obtain ⟨xs, hxs⟩ : ∃ X, dcl gs = X := ⟨_, rfl⟩
      rw [hxs] at XN OW
      clear hxs HGS
      go_wp2_with fail
      rename_i K2 hK2
      have SZ : ∀ w : World, (sizeOf 77).run Tryz.prog w = .ok 1 w := fun w => by kernel_rfl
      have FIN : ∀ (X25 v' : Value) (W : World), W.heap[g3]? = some (.cells (evAt r n (t' : Int) (k' : Int) d (f' : Int) tx v') 79 (0, 0)) → W.ownsRow w.heap.size 76 2 v' (j + 1) (xs ++ [.int .i64 z1, .int .i64 z2]) → RdA W B TK → w.grownBy W (some B) → W.heap[w.heap.size]? = some (Obj.cells #[.int .i64 0, .int .i64 0, .int .i64 0, .int .i64 0, .string ByteArray.empty, .int .i64 0, .string ByteArray.empty, .slice none 0 0] 79 (0, 0)) → K2 { tmps := #[.pointer (some ⟨B, 0, none⟩), undef, .pointer (some ⟨w.heap.size, 0, none⟩), .pointer (some ⟨g3, 0, none⟩), .pointer (some ⟨B, 0, none⟩), .agg (dcs r n), .pointer (some ⟨B, 0, none⟩), .int .i64 (t' : Int), .pointer (some ⟨B, 0, none⟩), .int .i64 (k' : Int), .pointer (some ⟨B, 0, none⟩), .string d, .pointer (some ⟨B, 0, none⟩), .int .i64 (f' : Int), .pointer (some ⟨B, 0, none⟩), .string tx, AG, .pointer (some ⟨B, 0, none⟩), .int .i64 (N : Int), .int .i64 (j : Int), .bool true, .pointer (some ⟨g3, 7, none⟩), u, .pointer (some ⟨B, 0, none⟩), .agg (dcs z1 z2), X25, v', .pointer (some ⟨g3, 7, none⟩), u28, undef, undef, undef, undef, undef, undef, undef, undef, undef, undef, undef, undef, undef, undef, undef], defers := [] } W := by
        intro X25 v' W q1 q2 q3 q4 q5
        refine hK2 _ _ ?_
        clear hK2
        rw [XN.out] at q2
        have P1 := Lib.hid q1; have P2 := Lib.hid q2; have P3 := Lib.hid q3; have P4 := Lib.hid q4; have P5 := Lib.hid q5
        clear q1 q2 q3 q4 q5 RDT nT
        go_wp2
        go_roundw
        case rel => exact ⟨j + 1, v', gs2, TK, by omega, by go_num, LN2.out, ST2, GS2, P1.out, P2.out, P3.out, P4.out, P5.out⟩
        case measure => simp [intOf]; omega
      have GD := Lib.hid (grown_on GR.out (to_drew (Below.refl w.heap.size wr)))
      have HD : Hid (wr.drew.heap[g3]? = _) := Lib.hid H0.out
      have KD : Hid (wr.drew.heap[w.heap.size]? = _) := Lib.hid KK.out
      have OD := Lib.hid (own_later OW.out (to_drew (Below.refl wr.heap.size wr)))
      obtain ⟨i0, hi, hz0, hz1, hz2⟩ := info_parts infoDt
      refine rg_last (by kernel_rfl) rfl (S := fun _ => True) ?_
      refine rgd_pure 0 (some 21) rfl rfl (.pointer (some ⟨g3, 7, none⟩)) (by kernel_rfl) (by kernel_rfl) (by kernel_rfl) (fun _ _ _ _ h => h) (by kernel_rfl) (fun w => by kernel_rfl) trivial ?_
      refine rgd_pure 2 (some 23) rfl rfl (.pointer (some ⟨B, 0, none⟩)) (by kernel_rfl) (by kernel_rfl) (by kernel_rfl) (fun _ _ _ _ h => h) (by kernel_rfl) (fun w => by kernel_rfl) trivial ?_
      refine rgd_two 1 3 (some 22) (some 24) (by kernel_rfl) rfl rfl (by kernel_rfl) u wr.drew (exec_load1 _ _ rfl Tryz.underlying77 rfl ⟨g3, 7, none⟩ u (by kernel_rfl) ((cell_of_row _ g3 7 _ _ _ HD.out).trans rfl)) rfl rfl (by kernel_rfl) 79 #[.pointer (some ⟨B, 0, none⟩)] (by kernel_rfl) (RDT.out wr.drew (to_drew (Below.refl _ _))) trivial ?_ ?_
      · refine rgd_call 3 (some 24) (by kernel_rfl) rfl rfl (by kernel_rfl) 79 #[.pointer (some ⟨B, 0, none⟩)] (by kernel_rfl) (RDT.out wr.drew (to_drew (Below.refl _ _))) ?_
        rintro e U1 ⟨rfl, r1, g1⟩
        refine ⟨_, rfl, trivial, ?_⟩
        have hU := grown_step GD.out g1 HB.out hl3 HD.out
        have kU := grown_step GD.out g1 HB.out (Nat.le_refl _) KD.out
        have oU := own_keep OD.out g1 (own_above OD.out HB.out)
        have gU := grown_trans GD.out g1
        have bA := below_alloc U1 (.cells #[.int .i64 z1, .int .i64 z2] 76)
        have rA := r1.below bA
        have hA := (bA.block g3 (Array.getElem?_eq_some_iff.1 hU).1).trans hU
        have kA := (bA.block w.heap.size (Array.getElem?_eq_some_iff.1 kU).1).trans kU
        have oA := own_later oU bA
        have gA := grown_on gU (bA.mono gU.size)
        have nA := heap_alloc_new U1 (.cells #[.int .i64 z1, .int .i64 z2] 76)
        have n120 := N4.out.1
        obtain ⟨v1, w1', hrun, o1, q1, _⟩ := run_append_own (P := Tryz.prog) (w := U1.alloc (.cells #[.int .i64 z1, .int .i64 z2] 76)) w.heap.size 77 77 76 i0 _ 2 16 Tryz.underlying77 hi hz0 hz1 hz2 rfl (by decide) u j xs oA ⟨U1.heap.size, 0, none⟩ 1 1 [.int .i64 z1, .int .i64 z2] rfl (fun k y hy => by rw [Addr.add_lit, Nat.zero_add, cell_of_row _ U1.heap.size k _ _ _ nA]; simpa using hy) (by intro y hy; simp at hy; rcases hy with rfl | rfl <;> rfl) (by unfold maxLen; omega) (by omega) gA.size
        have bW : Below w.heap.size (U1.alloc (.cells #[.int .i64 z1, .int .i64 z2] 76)) w1' := (Below.refl _ _).grown q1 gA.size (fun k hk => (oA.lt k hk).1)
        have hW := (q1.block g3 (Array.getElem?_eq_some_iff.1 hA).1 (own_not oA hA (by decide))).trans hA
        have kW := (q1.block w.heap.size (Array.getElem?_eq_some_iff.1 kA).1 (own_not oA kA (by decide))).trans kA
        have rW := rA.under HB.out bW
        have gW := grown_on gA bW
        obtain ⟨pv, cv, hv1⟩ := own_slice o1
        subst hv1
        have gS := grown_cell w1' g3 7 (.slice pv (j + 1) cv)
        have hS := heap_setCell_same w1' g3 7 _ _ (.slice pv (j + 1) cv) hW
        have kS := (gS.block w.heap.size (Array.getElem?_eq_some_iff.1 kW).1 (by simpa using h23)).trans kW
        have oS := own_keep o1 gS (.inr fun e => own_not o1 hW (by decide) e.symm)
        have rS := rW.under HB.out (grown_below gS gW.size hl3)
        have gE := grown_onE gW gS hl3
        have KE := FIN (.slice (some ⟨U1.heap.size, 0, none⟩) 1 1) (.slice pv (j + 1) cv) _ hS oS rS gE kS
        refine rgd_run 4 (some 25) (by kernel_rfl) rfl rfl (by kernel_rfl) (.slice (some ⟨U1.heap.size, 0, none⟩) 1 1) (U1.alloc (.cells #[.int .i64 z1, .int .i64 z2] 76)) (by kernel_rfl) trivial ?_
        refine rgd_run 5 (some 26) (by kernel_rfl) rfl rfl (by kernel_rfl) (.slice pv (j + 1) cv) w1' (exec_appendV _ _ rfl _ _ (by kernel_rfl) (by kernel_rfl) hrun) trivial ?_
        refine rgd_pure 6 (some 27) rfl rfl (.pointer (some ⟨g3, 7, none⟩)) (by kernel_rfl) (by kernel_rfl) (by kernel_rfl) (fun _ _ _ _ h => h) (by kernel_rfl) (fun w => by kernel_rfl) trivial ?_
        refine rgd_do 7 none (by kernel_rfl) rfl rfl (by kernel_rfl) _ (exec_storeV _ _ _ rfl SZ ⟨g3, 7, none⟩ pv (j + 1) cv u (by kernel_rfl) (by kernel_rfl) ((cell_of_row _ g3 7 _ _ _ hW).trans rfl) (frozen_of_row _ g3 7 _ _ hW)) trivial ?_
        exact wpAnyH_done (by kernel_rfl) (Eq.mp (by kernel_rfl) KE) _
      · rintro e U1 ⟨rfl, r1, g1⟩
        refine ⟨_, rfl, trivial, ?_⟩
        have hU := grown_step GD.out g1 HB.out hl3 HD.out
        have kU := grown_step GD.out g1 HB.out (Nat.le_refl _) KD.out
        have oU := own_keep OD.out g1 (own_above OD.out HB.out)
        have gU := grown_trans GD.out g1
        have bA := below_alloc U1 (.cells #[.int .i64 z1, .int .i64 z2] 76)
        have rA := r1.below bA
        have hA := (bA.block g3 (Array.getElem?_eq_some_iff.1 hU).1).trans hU
        have kA := (bA.block w.heap.size (Array.getElem?_eq_some_iff.1 kU).1).trans kU
        have oA := own_later oU bA
        have gA := grown_on gU (bA.mono gU.size)
        have nA := heap_alloc_new U1 (.cells #[.int .i64 z1, .int .i64 z2] 76)
        have n120 := N4.out.1
        obtain ⟨v1, w1', hrun, o1, q1, _⟩ := run_append_own (P := Tryz.prog) (w := U1.alloc (.cells #[.int .i64 z1, .int .i64 z2] 76)) w.heap.size 77 77 76 i0 _ 2 16 Tryz.underlying77 hi hz0 hz1 hz2 rfl (by decide) u j xs oA ⟨U1.heap.size, 0, none⟩ 1 1 [.int .i64 z1, .int .i64 z2] rfl (fun k y hy => by rw [Addr.add_lit, Nat.zero_add, cell_of_row _ U1.heap.size k _ _ _ nA]; simpa using hy) (by intro y hy; simp at hy; rcases hy with rfl | rfl <;> rfl) (by unfold maxLen; omega) (by omega) gA.size
        have bW : Below w.heap.size (U1.alloc (.cells #[.int .i64 z1, .int .i64 z2] 76)) w1' := (Below.refl _ _).grown q1 gA.size (fun k hk => (oA.lt k hk).1)
        have hW := (q1.block g3 (Array.getElem?_eq_some_iff.1 hA).1 (own_not oA hA (by decide))).trans hA
        have kW := (q1.block w.heap.size (Array.getElem?_eq_some_iff.1 kA).1 (own_not oA kA (by decide))).trans kA
        have rW := rA.under HB.out bW
        have gW := grown_on gA bW
        obtain ⟨pv, cv, hv1⟩ := own_slice o1
        subst hv1
        have gS := grown_cell w1' g3 7 (.slice pv (j + 1) cv)
        have hS := heap_setCell_same w1' g3 7 _ _ (.slice pv (j + 1) cv) hW
        have kS := (gS.block w.heap.size (Array.getElem?_eq_some_iff.1 kW).1 (by simpa using h23)).trans kW
        have oS := own_keep o1 gS (.inr fun e => own_not o1 hW (by decide) e.symm)
        have rS := rW.under HB.out (grown_below gS gW.size hl3)
        have gE := grown_onE gW gS hl3
        have KE := FIN (.slice (some ⟨U1.heap.size, 0, none⟩) 1 1) (.slice pv (j + 1) cv) _ hS oS rS gE kS
        refine rgd_acts 1 4 (some 22) (some 25) (by kernel_rfl) rfl rfl (by kernel_rfl) u U1 (exec_load1 _ _ rfl Tryz.underlying77 rfl ⟨g3, 7, none⟩ u (by kernel_rfl) ((cell_of_row _ g3 7 _ _ _ hU).trans rfl)) trivial rfl rfl (by kernel_rfl) (.slice (some ⟨U1.heap.size, 0, none⟩) 1 1) (U1.alloc (.cells #[.int .i64 z1, .int .i64 z2] 76)) (by kernel_rfl) trivial ?_ ?_
        · refine rgd_run 4 (some 25) (by kernel_rfl) rfl rfl (by kernel_rfl) (.slice (some ⟨U1.heap.size, 0, none⟩) 1 1) (U1.alloc (.cells #[.int .i64 z1, .int .i64 z2] 76)) (by kernel_rfl) trivial ?_
          refine rgd_run 5 (some 26) (by kernel_rfl) rfl rfl (by kernel_rfl) (.slice pv (j + 1) cv) w1' (exec_appendV _ _ rfl _ _ (by kernel_rfl) (by kernel_rfl) hrun) trivial ?_
          refine rgd_pure 6 (some 27) rfl rfl (.pointer (some ⟨g3, 7, none⟩)) (by kernel_rfl) (by kernel_rfl) (by kernel_rfl) (fun _ _ _ _ h => h) (by kernel_rfl) (fun w => by kernel_rfl) trivial ?_
          refine rgd_do 7 none (by kernel_rfl) rfl rfl (by kernel_rfl) _ (exec_storeV _ _ _ rfl SZ ⟨g3, 7, none⟩ pv (j + 1) cv u (by kernel_rfl) (by kernel_rfl) ((cell_of_row _ g3 7 _ _ _ hW).trans rfl) (frozen_of_row _ g3 7 _ _ hW)) trivial ?_
          exact wpAnyH_done (by kernel_rfl) (Eq.mp (by kernel_rfl) KE) _
        · refine rgd_run 1 (some 22) (by kernel_rfl) rfl rfl (by kernel_rfl) u _ (exec_load1 _ _ rfl Tryz.underlying77 rfl ⟨g3, 7, none⟩ u (by kernel_rfl) ((cell_of_row _ g3 7 _ _ _ hA).trans rfl)) trivial ?_
          refine rgd_run 5 (some 26) (by kernel_rfl) rfl rfl (by kernel_rfl) (.slice pv (j + 1) cv) w1' (exec_appendV _ _ rfl _ _ (by kernel_rfl) (by kernel_rfl) hrun) trivial ?_
          refine rgd_pure 6 (some 27) rfl rfl (.pointer (some ⟨g3, 7, none⟩)) (by kernel_rfl) (by kernel_rfl) (by kernel_rfl) (fun _ _ _ _ h => h) (by kernel_rfl) (fun w => by kernel_rfl) trivial ?_
          refine rgd_do 7 none (by kernel_rfl) rfl rfl (by kernel_rfl) _ (exec_storeV _ _ _ rfl SZ ⟨g3, 7, none⟩ pv (j + 1) cv u (by kernel_rfl) (by kernel_rfl) ((cell_of_row _ g3 7 _ _ _ hW).trans rfl) (frozen_of_row _ g3 7 _ _ hW)) trivial ?_
          exact wpAnyH_done (by kernel_rfl) (Eq.mp (by kernel_rfl) KE) _
    · obtain rfl : j = N := by omega
      have hjk' : ¬ ((j : Nat) : Int) < j := by omega
      obtain ⟨pu, cu, hu⟩ := own_slice OW.out
      subst hu
      have OW : Hid (wr.ownsRow w.heap.size 76 2 (.slice pu gs.length cu) gs.length (dcl gs)) := Lib.hid (by rw [HLen.out]; exact OW.out)
      have OKX : Hid (EvP.Ok wr ⟨⟨r, n, t', k', d, f', tx, gs⟩, pu, cu⟩) := Lib.hid (own_okE (B := w.heap.size) OW.out)
      have ER := Lib.hid (err_any B st wr RD.out)
      have R0 := Lib.hid (range_of_block H0.out)
      have R0 : Hid (wr.rangeAt g3 0 (EvP.cells ⟨⟨r, n, t', k', d, f', tx, gs⟩, pu, cu⟩)) := Lib.hid (by rw [← HLen.out] at R0; exact R0.out)
      have SZ := Lib.hid (sizeEv ⟨⟨r, n, t', k', d, f', tx, gs⟩, pu, cu⟩)
      have CK := Lib.hid (check_is ⟨⟨r, n, t', k', d, f', tx, gs⟩, pu, cu⟩ wr OKX.out (HT.out wr GR.out))
      have Y2 : Hid (st.2 = 0 → chk ⟨r, n, t', k', d, f', tx, gs⟩ = 0 → O = some (⟨r, n, t', k', d, f', tx, gs⟩, st)) := Lib.hid fun h1 h2 => by
        have := YES.out gs (by rw [← HST.out]; exact h1) (HGS.out h1) h2
        rw [← HST.out] at this; exact this
      have N2 : Hid (st.2 = 0 → chk ⟨r, n, t', k', d, f', tx, gs⟩ ≠ 0 → O = none) := Lib.hid fun h1 h2 => NO.out gs (by rw [← HST.out]; exact h1) (HGS.out h1) h2
      have N3 : Hid (st.2 ≠ 0 → O = none) := Lib.hid fun h1 => NO2.out (by rw [← HST.out]; exact h1)
      have NT := Lib.hid nT
      clear YES NO NO2 HST HGS nT
      obtain ⟨XE, hXE⟩ : ∃ X, EvP.mk ⟨r, n, t', k', d, f', tx, gs⟩ pu cu = X := ⟨_, rfl⟩
      have OWX : Hid (∀ W : World, W.ownsRow w.heap.size 76 2 (.slice pu gs.length cu) gs.length (dcl gs) → W.ownsRow w.heap.size 76 2 (.slice XE.p XE.e.gone.length XE.c) XE.e.gone.length (dcl XE.e.gone)) := Lib.hid fun W h => by rw [← hXE]; exact h
      rw [hXE] at OKX R0 SZ CK
      have hx8 : XE.e = ⟨r, n, t', k', d, f', tx, gs⟩ := by rw [← hXE]
      rw [← hx8] at Y2 N2
      clear hXE hx8
      obtain ⟨E0, hE0⟩ : ∃ E0, chk XE.e = E0 := ⟨_, rfl⟩
      rw [hE0] at CK Y2 N2
      clear hE0
      go_wp2_with fail
      refine ER.out.mono ?_
      rintro e w11 ⟨rfl, rfl⟩
      by_cases he : st.2 = 0
      · rw [he]
        have E5 := Lib.hid (fun W (hW : RdA W B st) => err_any B st W hW)
        rw [he] at E5
        have NE := Lib.hid he
        clear he ER
        go_wp2_with (refine wpList_gloadG (by rfl) _ rfl g3 0 rfl _ R0.out _ Tryz.underlying79 rfl SZ.out ?_)
        refine CK.out.mono ?_
        rintro e w12 ⟨rfl, hb12⟩
        have RD12 := Lib.hid (RD.out.below hb12)
        have R12 := Lib.hid (range_below R0.out hb12)
        have K12 := Lib.hid ((hb12.block _ (Array.getElem?_eq_some_iff.1 KK.out).1).trans KK.out)
        have G12 := Lib.hid (grown_on GR.out (hb12.mono GR.out.size))
        have OW12 := Lib.hid (own_later OW.out hb12)
        clear hb12 CK
        by_cases hc : E0 = 0
        · have FO : Hid (Outc O XE.e st) := Lib.hid (.inl ⟨Y2.out NE.out hc, NE.out⟩)
          subst hc
          clear Y2 N2 N3
          go_wp2_with fail
          refine (E5.out _ RD12.out).mono ?_
          rintro e w13 ⟨rfl, rfl⟩
          go_wp2_with (first | refine wpList_gload rfl _ rfl g3 0 rfl _ R12.out _ Tryz.underlying79 rfl SZ.out ?_ | refine wpList_gstore rfl _ _ rfl w.heap.size rfl XE.cells.toArray rfl _ _ K12.out (by rw [List.size_toArray]; exact sizeEv _) (by show 8 = _; rw [List.size_toArray, EvP.cells_len]) (fun v hv => EvP.cells_one _ v (by simpa using hv)) ?_)
          intro w14 h14 g14
          have H14 := Lib.hid h14
          have G14 := Lib.hid (grown_onE G12.out g14 (Nat.le_refl _))
          have B14 := grown_below g14 G12.out.size (Nat.le_refl _)
          have R14 := Lib.hid (RD12.out.under HB.out B14)
          have O14 := Lib.hid (OWX.out _ (own_keep OW12.out g14 (.inr fun e => own_not OW12.out K12.out (by decide) e.symm)))
          clear h14 g14 B14
          go_wp2
          exact bodyPost_ret (v := .agg XE.cells.toArray) (results_cell_row rfl _ w14 w.heap.size _ _ (0, 0) _ rfl H14.out Tryz.underlying79 rfl (by rw [List.size_toArray]; exact sizeEv _)) rfl ⟨XE, st, rfl, O14.out, R14.out, G14.out, fun _ => NT.out, FO.out⟩
        · have FO : Hid (O = none) := Lib.hid (N2.out NE.out hc)
          have hn : (E0 != 0) = true := by simpa using hc
          have FL := Lib.hid (fail_any B 3 st w12 RD12.out (by omega))
          clear Y2 N2 N3 hc
          go_wp2_with fail
          refine FL.out.mono ?_
          rintro e w13 ⟨rfl, hr13, hg13⟩
          have K13 := Lib.hid (grown_step G12.out hg13 HB.out (Nat.le_refl _) K12.out)
          have G13 := Lib.hid (grown_trans G12.out hg13)
          have R13 := Lib.hid hr13
          have E13 := Lib.hid (err_any B _ w13 hr13)
          have h3 : (Cod.failS 3 st).2 = 3 := by unfold Cod.failS; rw [if_pos NE.out]
          rw [h3] at E13
          clear hr13 hg13 FL h3 hn
          go_wp2_with fail
          refine E13.out.mono ?_
          rintro e w14 ⟨rfl, rfl⟩
          go_wp2_with (first | refine wpList_pbuild (by rfl) _ rfl (EvP.cells ⟨⟨0, 0, 0, 0, ByteArray.empty, 0, ByteArray.empty, []⟩, none, 0⟩).toArray (by simp only [List.map_toArray, List.map_nil]; exact builtEv0 _) ?_ | refine wpList_gstore rfl _ _ rfl w.heap.size rfl (EvP.cells ⟨⟨0, 0, 0, 0, ByteArray.empty, 0, ByteArray.empty, []⟩, none, 0⟩).toArray rfl _ _ K13.out (by rw [List.size_toArray]; exact sizeEv _) rfl (fun v hv => EvP.cells_one _ v (by simpa using hv)) ?_)
          intro w15 h15 g15
          have H15 := Lib.hid h15
          have G15 := Lib.hid (grown_onE G13.out g15 (Nat.le_refl _))
          have R15 := Lib.hid (R13.out.under HB.out (grown_below g15 G13.out.size (Nat.le_refl _)))
          clear h15 g15
          go_wp2
          exact bodyPost_ret (v := .agg (EvP.cells ⟨⟨0, 0, 0, 0, ByteArray.empty, 0, ByteArray.empty, []⟩, none, 0⟩).toArray) (results_cell_row rfl _ w15 w.heap.size _ _ (0, 0) _ rfl H15.out Tryz.underlying79 rfl (by rw [List.size_toArray]; exact sizeEv _)) rfl ⟨⟨⟨0, 0, 0, 0, ByteArray.empty, 0, ByteArray.empty, []⟩, none, 0⟩, Cod.failS 3 st, rfl, World.ownsRow_nil _ _ _ _, R15.out, G15.out, (fun h => absurd h (failS_ne (by decide) _)), .inr ⟨FO.out, failS_ne (by decide) _⟩⟩
      · have hne : (((st.2 : Nat) : Int) == 0) = false := by simpa using he
        have hnn : (((st.2 : Nat) : Int) != 0) = true := by simpa using he
        have FO : Hid (O = none ∧ st.2 ≠ 0) := Lib.hid ⟨N3.out he, he⟩
        clear Y2 N2 N3 he CK
        go_wp2_with fail
        refine ER.out.mono ?_
        rintro e w12 ⟨rfl, rfl⟩
        go_wp2_with (first | refine wpList_pbuild (by rfl) _ rfl (EvP.cells ⟨⟨0, 0, 0, 0, ByteArray.empty, 0, ByteArray.empty, []⟩, none, 0⟩).toArray (by simp only [List.map_toArray, List.map_nil]; exact builtEv0 _) ?_ | refine wpList_gstore rfl _ _ rfl w.heap.size rfl (EvP.cells ⟨⟨0, 0, 0, 0, ByteArray.empty, 0, ByteArray.empty, []⟩, none, 0⟩).toArray rfl _ _ KK.out (by rw [List.size_toArray]; exact sizeEv _) rfl (fun v hv => EvP.cells_one _ v (by simpa using hv)) ?_)
        intro w15 h15 g15
        have H15 := Lib.hid h15
        have G15 := Lib.hid (grown_onE GR.out g15 (Nat.le_refl _))
        have R15 := Lib.hid (RD.out.under HB.out (grown_below g15 GR.out.size (Nat.le_refl _)))
        clear h15 g15
        go_wp2
        exact bodyPost_ret (v := .agg (EvP.cells ⟨⟨0, 0, 0, 0, ByteArray.empty, 0, ByteArray.empty, []⟩, none, 0⟩).toArray) (results_cell_row rfl _ w15 w.heap.size _ _ (0, 0) _ rfl H15.out Tryz.underlying79 rfl (by rw [List.size_toArray]; exact sizeEv _)) rfl ⟨⟨⟨0, 0, 0, 0, ByteArray.empty, 0, ByteArray.empty, []⟩, none, 0⟩, st, rfl, World.ownsRow_nil _ _ _ _, R15.out, G15.out, (fun h => absurd h FO.out.2), .inr FO.out⟩
end Go.Proofs.YtapmbankpbiglaaGreatDoor
/- A message in a variable, part by part written anew. -/
namespace Go.Proofs.YtapmbankpbiglaaGreatDoor
open Go Go.RowKit
set_option linter.unusedVariables false
set_option maxRecDepth 1000000

theorem setL_mid (A B B' C : List Value) (h : B'.length = B.length) : setL (A ++ (B ++ C)).toArray A.length B' = (A ++ (B' ++ C)).toArray := by
  apply Array.ext_getElem?
  intro i
  rw [setL_get _ _ _ (by simp; omega), List.getElem?_toArray, List.getElem?_toArray]
  by_cases h1 : i < A.length
  · rw [if_neg (by omega), List.getElem?_append_left h1, List.getElem?_append_left h1]
  · by_cases h2 : i < A.length + B'.length
    · rw [if_pos ⟨by omega, h2⟩, List.getElem?_append_right (by omega), List.getElem?_append_left (by omega)]
    · rw [if_neg (by omega), List.getElem?_append_right (by omega), List.getElem?_append_right (by omega), List.getElem?_append_right (by omega), List.getElem?_append_right (by omega), h]
theorem Mg.cells_base (m : Mg) (f : Nat → Int) : setL m.cells.toArray 67 (vf f).toList = ({ m with base := f } : Mg).cells.toArray := by
  have := setL_mid ([.int .i64 m.kind, .int .i64 m.src, .int .i64 m.dst] ++ (vf m.ack).toList) (vf m.base).toList (vf f).toList ([.slice m.ep m.E.length m.ec] ++ (m.st.toList ++ (vf m.floor).toList)) (by rw [vfl_len, vfl_len])
  rw [List.length_append, vfl_len, List.append_assoc, List.append_assoc] at this
  exact this
theorem Mg.cells_evs (m : Mg) (p : Option Addr) (c : Nat) (E : List EvP) : setL m.cells.toArray 131 [.slice p E.length c] = ({ m with ep := p, ec := c, E := E } : Mg).cells.toArray := by
  have := setL_mid ([.int .i64 m.kind, .int .i64 m.src, .int .i64 m.dst] ++ ((vf m.ack).toList ++ (vf m.base).toList)) [.slice m.ep m.E.length m.ec] [.slice p E.length c] (m.st.toList ++ (vf m.floor).toList) rfl
  simp only [List.length_append, vfl_len, List.append_assoc] at this
  exact this
theorem Mg.cells_st (m : Mg) (f : Nat → Int) (p : Option Addr) (c : Nat) (L : List Wr) : setL m.cells.toArray 132 (scs f (.slice p L.length c)).toList = ({ m with seen := f, sp := p, sc := c, L := L } : Mg).cells.toArray := by
  have := setL_mid ([.int .i64 m.kind, .int .i64 m.src, .int .i64 m.dst] ++ ((vf m.ack).toList ++ ((vf m.base).toList ++ [.slice m.ep m.E.length m.ec]))) m.st.toList (scs f (.slice p L.length c)).toList (vf m.floor).toList (((Array.length_toList (xs := scs f (.slice p L.length c))).trans (scs_size _ _)).trans ((Array.length_toList (xs := m.st)).trans (Mg.st_size m)).symm)
  simp only [List.length_append, vfl_len, List.append_assoc] at this
  exact this
theorem Mg.cells_floor (m : Mg) (f : Nat → Int) : setL m.cells.toArray 197 (vf f).toList = ({ m with floor := f } : Mg).cells.toArray := by
  have := setL_mid ([.int .i64 m.kind, .int .i64 m.src, .int .i64 m.dst] ++ ((vf m.ack).toList ++ ((vf m.base).toList ++ ([.slice m.ep m.E.length m.ec] ++ m.st.toList)))) (vf m.floor).toList (vf f).toList [] (by rw [vfl_len, vfl_len])
  simp only [List.length_append, vfl_len, Array.length_toList, Mg.st_size, List.append_assoc, List.append_nil] at this
  exact this
section
variable {P : Program} {ops : Array Oper} {rest : List Oper} {o : Oper} {a : Act} {w : World} {Q : Exit → Act → World → Prop}
theorem exec_pset (t : TypeId) (x y : Operand) (ho : o.op = .store t x y) (g off : Nat) (hx : a.eval x = .pointer (some ⟨g, off, none⟩)) (cs : Array Value) (hy : a.eval y = .agg cs) (hi : (P.info? t).map (·.size) = some cs.size) (h1 : ∀ v ∈ cs.toList, v.oneCell' = true)
    {old : Array Value} {ty : TypeId} (h : w.heap[g]? = some (.cells old ty (0, 0))) (hs : off + cs.size ≤ old.size) :
    (execOp a.eval o).run P w = .ok .skip (w.setCells g off cs.toList) := by
  have ht : w.there g off cs.size := fun j hj => by
    refine ⟨?_, frozen_of_row w g (off + j) _ _ h⟩
    rw [cell_of_row w g (off + j) _ _ _ h, Array.getElem?_eq_getElem (by omega)]
    rfl
  unfold execOp
  simp only [ho, hx, hy, Sem.run_bind, run_storeAt_mid w g off t cs ht hi (Array.all_eq_true_iff_forall_mem.2 (fun u hu => h1 u (by simpa using hu))), Result.andThen_ok]
  rfl
theorem wpList_pset (hg : o.guard = none) (t : TypeId) (x y : Operand) (ho : o.op = .store t x y) (g off : Nat) (hx : a.eval x = .pointer (some ⟨g, off, none⟩)) (cs : Array Value) (hy : a.eval y = .agg cs) (hi : (P.info? t).map (·.size) = some cs.size) (h1 : ∀ v ∈ cs.toList, v.oneCell' = true)
    {old : Array Value} {ty : TypeId} (hh : w.heap[g]? = some (.cells old ty (0, 0))) (hs : off + cs.size ≤ old.size)
    (h : ∀ V, Hid (V = w.setCells g off cs.toList) → wpList P ops Q rest (a.put o.dst undef) V) : wpList P ops Q (o :: rest) a w := wpList_skipTo hg _ (exec_pset t x y ho g off hx cs hy hi h1 hh hs) h
end
theorem mx_size {m : Mg} : m.cells.toArray.size = 261 := by rw [List.size_toArray, Mg.cells_len]
theorem Mx.setBase {w : World} {g : Nat} {m : Mg} (h : Mx w g m) (f : Nat → Int) : Mx (w.setCells g 67 (vf f).toList) g { m with base := f } := by
  unfold Mx; rw [← Mg.cells_base]; exact heap_setCells _ _ _ _ h
theorem Mx.setFloor {w : World} {g : Nat} {m : Mg} (h : Mx w g m) (f : Nat → Int) : Mx (w.setCells g 197 (vf f).toList) g { m with floor := f } := by
  unfold Mx; rw [← Mg.cells_floor]; exact heap_setCells _ _ _ _ h
theorem Mx.setSt {w : World} {g : Nat} {m : Mg} (h : Mx w g m) (f : Nat → Int) (p : Option Addr) (c : Nat) (L : List Wr) : Mx (w.setCells g 132 (scs f (.slice p L.length c)).toList) g { m with seen := f, sp := p, sc := c, L := L } := by
  unfold Mx; rw [← Mg.cells_st]; exact heap_setCells _ _ _ _ h
theorem Mx.setEvs {w : World} {g : Nat} {m : Mg} (h : Mx w g m) (p : Option Addr) (c : Nat) (E : List EvP) : Mx (w.setCell ⟨g, 131, none⟩ (.slice p E.length c)) g { m with ep := p, ec := c, E := E } := by
  unfold Mx; rw [← Mg.cells_evs]; exact block_setCell h _
theorem vf_oneC (f : Nat → Int) : ∀ u ∈ (vf f).toList, u.oneCell' = true := fun u h => scs_one f (v := .slice none 0 0) rfl u (by simp [scs, h])
end Go.Proofs.YtapmbankpbiglaaGreatDoor
/- wire.Encode: a message's bytes, sealed. -/
namespace Go.Proofs.YtapmbankpbiglaaGreatDoor
open Go Go.RowKit
set_option linter.unusedVariables false
set_option maxRecDepth 1000000

theorem mgB_len {m : Mg} (hM : mayM m = true) : (mgB m).length ≤ 20000000 := by
  obtain ⟨_, _, KD⟩ := may_parts hM
  have NE : m.E.length ≤ 1024 := by unfold mayM haveM at hM; simp only [Bool.and_eq_true, decide_eq_true_eq] at hM; exact hM.2.1.1
  have e1 := enc_len m.kind.toNat; have e2 := enc_len m.src.toNat; have e3 := enc_len m.dst.toNat
  have e4 := vbytes_len m.ack; have e5 := vbytes_len m.base; have e6 := vbytes_len m.floor
  have e7 := evsB_len m.E
  unfold mgB
  by_cases k2 : m.kind = 2
  · rw [if_pos k2]
    simp only [List.length_append]; omega
  rw [if_neg k2]
  by_cases k3 : m.kind = 3
  · rw [if_pos k3]
    have hcan : canB m.seen m.L = true := by rcases KD with h | h | ⟨_, h⟩ <;> first | exact h | omega
    have nS : (stB m.seen m.L).length ≤ 8700000 := by
      have h1 := vbytes_len m.seen; have h2 := enc_len m.L.length
      have h3 := wts_len m.L fun y hy => small_of ((can_iff.1 hcan).fine y hy).1
      have h4 := (can_iff.1 hcan).len
      unfold stB
      simp only [List.length_append]; omega
    simp only [List.length_append]; omega
  rw [if_neg k3]
  simp only [List.length_append, List.length_nil]; omega
/-- what wire.Encode answers -/
def EncR (w : World) (m : Mg) (e : Ending) (w' : World) : Prop :=
  (mayM m = true ∧ ∃ p c, e = .returned (.tuple #[.slice p (sealed (mgB m)).length c, .int .i64 0]) ∧ w'.ownsRow w.heap.size 5 1 (.slice p (sealed (mgB m)).length c) (sealed (mgB m)).length (bys (sealed (mgB m))) ∧ Below w.heap.size w w') ∨
  (mayM m = false ∧ e = .returned (.tuple #[.slice none 0 0, .int .i64 1]) ∧ Below w.heap.size w w')
set_option maxHeartbeats 8000000 in
theorem encode_is (m : Mg) (w : World) (hE : EvsAt w m.ep m.E) (hL : WrsAt w m.sp m.L) (hS : Shapes w) (hT : Table w) : Calls Tryz.prog 8 #[.agg m.cells.toArray] w (EncR w m) := by
  have HE := Lib.hid hE; have HW := Lib.hid hL; have HS := Lib.hid hS; have HT := Lib.hid hT
  clear hE hL hS hT
  have CK : Hid (∀ V : World, Below w.heap.size w V → Calls Tryz.prog 15 #[.agg m.cells.toArray] V (Check1 V (mayE m))) := Lib.hid fun V hV => wireCheck_is m V (HE.out.below hV) (HW.out.below hV) (HS.out.below hV)
  cases hM : mayM m with
  | false =>
    have e1 : mayE m = 1 := by unfold mayE; rw [if_neg (by rw [hM]; decide)]
    rw [e1] at CK
    have HM := Lib.hid hM
    clear hM e1
    go_enter Tryz.func8, Tryz.ntmps8
    go_wp2_with (refine wpList_gbox rfl _ rfl m.cells.toArray rfl ?_)
    intro g w1 l1 h1 hb1
    have X1 : Hid (Mx w1 g m) := Lib.hid h1
    have B1 := Lib.hid hb1
    have W1 := Lib.hid X1.out.whole
    clear h1 hb1
    go_wp2_with (refine wpList_gload rfl _ rfl g 0 rfl _ W1.out _ Tryz.underlying31 rfl (sizeMg m) ?_)
    refine (CK.out w1 B1.out).mono ?_
    rintro e w2 ⟨rfl, hb2⟩
    have B2 := Lib.hid (thenBelow B1.out hb2)
    clear hb2 CK X1 B1 W1
    go_wp2
    go_ret2
    exact .inr ⟨HM.out, rfl, B2.out⟩
  | true =>
    have e1 : mayE m = 0 := by unfold mayE; rw [if_pos hM]
    rw [e1] at CK
    have ML := mgB_len hM
    have WR : Hid (∀ V : World, Below w.heap.size w V → Calls Tryz.prog 27 #[.agg m.cells.toArray] V (RetOwn V 5 (mgB m))) := Lib.hid fun V hV => wireWritten_is m V hM (HE.out.below hV) (HW.out.below hV) (HS.out.below hV)
    have HM := Lib.hid hM
    clear hM e1
    obtain ⟨L, hL⟩ : ∃ X, mgB m = X := ⟨_, rfl⟩
    have HL := Lib.hid hL
    rw [hL] at ML WR
    clear hL
    go_enter Tryz.func8, Tryz.ntmps8
    go_wp2_with (refine wpList_gbox rfl _ rfl m.cells.toArray rfl ?_)
    intro g w1 l1 h1 hb1
    have X1 : Hid (Mx w1 g m) := Lib.hid h1
    have B1 := Lib.hid hb1
    have W1 := Lib.hid X1.out.whole
    clear h1 hb1
    go_wp2_with (refine wpList_gload rfl _ rfl g 0 rfl _ W1.out _ Tryz.underlying31 rfl (sizeMg m) ?_)
    refine (CK.out w1 B1.out).mono ?_
    rintro e w2 ⟨rfl, hb2⟩
    have X2 := Lib.hid (X1.out.later hb2); have B2 := Lib.hid (thenBelow B1.out hb2)
    have W2 := Lib.hid X2.out.whole
    clear hb2 CK X1 B1 W1
    go_wp2_with (refine wpList_gload rfl _ rfl g 0 rfl _ W2.out _ Tryz.underlying31 rfl (sizeMg m) ?_)
    refine (WR.out w2 B2.out).mono ?_
    intro e w3 hr3
    obtain ⟨p3, q3, rfl, g3, b3⟩ := hr3.given
    have B3 := Lib.hid (thenBelow B2.out b3); have G3 := Lib.hid g3
    clear hr3 g3 b3 WR X2 B2 W2
    go_wp2_with fail
    refine (seal_own p3 q3 L w3 G3.out.lies G3.out.none (HT.out.below B3.out) (by omega)).mono ?_
    intro e w4 hr4
    obtain ⟨v4, rfl, hO4, hB4⟩ := hr4.after B3.out
    obtain ⟨_, p4, q4, rfl, _, _, _, _⟩ := own_lies hO4
    have FO : Hid (EncR w m (.returned (.tuple #[.slice p4 (sealed L).length q4, .int .i64 0])) w4) := Lib.hid (.inl ⟨HM.out, p4, q4, by rw [HL.out], by rw [HL.out]; exact hO4, hB4⟩)
    clear hr4 hO4 hB4
    go_wp2
    go_ret2
    exact FO.out
end Go.Proofs.YtapmbankpbiglaaGreatDoor
