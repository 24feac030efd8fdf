/- The statement WireDecodes, proved for every input that its row reads: part 48 of 54. -/
import Derived.Test.YtapmbankpbiglaaGreatDoorPackWireDecodes47
import Derived.Test.YtapmbankpbiglaaGreatDoorPackWireDecodes43
import Derived.Test.YtapmbankpbiglaaGreatDoorPackWireDecodes33
import Derived.Test.YtapmbankpbiglaaGreatDoorPackWireDecodes22
/- wire.read of any bytes. -/
namespace Go.Proofs.YtapmbankpbiglaaGreatDoor
open Go Go.RowKit
set_option linter.unusedVariables false
set_option maxRecDepth 1000000

/-- what a message says -/
structure MgV where
  kind : Int
  src : Int
  dst : Int
  ack : Nat → Int
  base : Nat → Int
  es : List Ev
  seen : Nat → Int
  L : List Wr
  floor : Nat → Int
def Mg.v (m : Mg) : MgV := ⟨m.kind, m.src, m.dst, m.ack, m.base, evs m.E, m.seen, m.L, m.floor⟩
namespace Cod
def mkS (s : S) : Nat × S := numS 3 s
def mfS (s : S) : Nat × S := numS 63 (mkS s).2
def mtS (s : S) : Nat × S := numS 63 (mfS s).2
theorem mkS_len (s : S) : (mkS s).2.1.length ≤ s.1.length := numS_len _ _
theorem mfS_len (s : S) : (mfS s).2.1.length ≤ s.1.length := Nat.le_trans (numS_len _ _) (mkS_len s)
theorem mtS_len (s : S) : (mtS s).2.1.length ≤ s.1.length := Nat.le_trans (numS_len _ _) (mfS_len s)
end Cod
/-- what is behind a message's head -/
def maS (s : Cod.S) : Cod.S := outS (Cod.mtS s).2
theorem maS_len (s : Cod.S) : (maS s).1.length ≤ s.1.length := Nat.le_trans (outS_len _) (Cod.mtS_len s)
/-- a message of bytes, and what is behind it -/
noncomputable def msgO (K most : Int) (s : Cod.S) : Option (MgV × Cod.S) :=
  if (Cod.mkS s).1 = 2 then (lstO K 1024 (outS (maS s))).map fun q => (⟨(Cod.mkS s).1, (Cod.mfS s).1, (Cod.mtS s).1, outV (Cod.mtS s).2, outV (maS s), q.1, fun _ => 0, [], fun _ => 0⟩, q.2)
  else if (Cod.mkS s).1 = 3 then (lstO K most (outS (stS (maS s)))).map fun q => (⟨(Cod.mkS s).1, (Cod.mfS s).1, (Cod.mtS s).1, outV (Cod.mtS s).2, fun _ => 0, q.1, stV (maS s), stL (maS s), outV (stS (maS s))⟩, q.2)
  else if (maS s).2 = 0 then some (⟨(Cod.mkS s).1, (Cod.mfS s).1, (Cod.mtS s).1, outV (Cod.mtS s).2, fun _ => 0, [], fun _ => 0, [], fun _ => 0⟩, maS s) else none
theorem Outc.map {α β : Type} {O : Option (α × Cod.S)} {a : α} {st : Cod.S} (h : Outc O a st) (f : α → β) : Outc (O.map fun q => (f q.1, q.2)) (f a) st := by
  rcases h with ⟨rfl, h1⟩ | ⟨rfl, h1⟩
  · exact .inl ⟨rfl, h1⟩
  · exact .inr ⟨rfl, h1⟩
theorem msgO_two {K most : Int} {s : Cod.S} (h : (Cod.mkS s).1 = 2) (es : List Ev) (st : Cod.S) (ho : Outc (lstO K 1024 (outS (maS s))) es st) :
    Outc (msgO K most s) (⟨(Cod.mkS s).1, (Cod.mfS s).1, (Cod.mtS s).1, outV (Cod.mtS s).2, outV (maS s), es, fun _ => 0, [], fun _ => 0⟩ : MgV) st := by
  unfold msgO
  rw [if_pos h]
  generalize lstO K 1024 (outS (maS s)) = O at ho ⊢
  exact ho.map fun es => (⟨(Cod.mkS s).1, (Cod.mfS s).1, (Cod.mtS s).1, outV (Cod.mtS s).2, outV (maS s), es, fun _ => 0, [], fun _ => 0⟩ : MgV)
theorem msgO_three {K most : Int} {s : Cod.S} (h : (Cod.mkS s).1 = 3) (es : List Ev) (st : Cod.S) (ho : Outc (lstO K most (outS (stS (maS s)))) es st) :
    Outc (msgO K most s) (⟨(Cod.mkS s).1, (Cod.mfS s).1, (Cod.mtS s).1, outV (Cod.mtS s).2, fun _ => 0, es, stV (maS s), stL (maS s), outV (stS (maS s))⟩ : MgV) st := by
  unfold msgO
  rw [if_neg (by omega), if_pos h]
  generalize lstO K most (outS (stS (maS s))) = O at ho ⊢
  exact ho.map fun es => (⟨(Cod.mkS s).1, (Cod.mfS s).1, (Cod.mtS s).1, outV (Cod.mtS s).2, fun _ => 0, es, stV (maS s), stL (maS s), outV (stS (maS s))⟩ : MgV)
theorem msgO_else {K most : Int} {s : Cod.S} (h2 : (Cod.mkS s).1 ≠ 2) (h3 : (Cod.mkS s).1 ≠ 3) :
    Outc (msgO K most s) (⟨(Cod.mkS s).1, (Cod.mfS s).1, (Cod.mtS s).1, outV (Cod.mtS s).2, fun _ => 0, [], fun _ => 0, [], fun _ => 0⟩ : MgV) (maS s) := by
  unfold msgO
  rw [if_neg h2, if_neg h3]
  generalize maS s = M
  by_cases e : M.2 = 0
  · rw [if_pos e]; exact .inl ⟨rfl, e⟩
  · rw [if_neg e]; exact .inr ⟨rfl, e⟩
theorem failS_len (c : Nat) (s : Cod.S) : (Cod.failS c s).1.length ≤ s.1.length := by
  unfold Cod.failS
  split
  · exact Nat.zero_le _
  · exact Nat.le_refl _
theorem rdW_len (s : Cod.S) : (rdW s).2.1.length ≤ s.1.length := by
  unfold rdW
  exact Nat.le_trans (Cod.wrsS_len _ _) (cnt_len s)
theorem stS_len (s : Cod.S) : (stS s).1.length ≤ s.1.length := by
  unfold stS
  split
  · exact rdW_len s
  · exact Nat.le_trans (failS_len _ _) (rdW_len s)
/-- what reading a message comes to -/
def GotMgA (w : World) (B : Nat) (O : Option (MgV × Cod.S)) (e : Ending) (w' : World) : Prop :=
  ∃ (x : Mg) (st : Cod.S), e = .returned (.agg x.cells.toArray) ∧ OwnE w' w.heap.size (.slice x.ep x.E.length x.ec) x.E ∧ WrsAt w' x.sp x.L ∧ x.E.length ≤ 1024 ∧ RdA w' B st ∧ w.grownBy w' (some B) ∧ Outc O x.v st
set_option maxHeartbeats 3000000 in
theorem wireRead_any (B : Nat) (s : Cod.S) (w : World) (h : RdA w B s) (hT : ∀ w', w.grownBy w' (some B) → Shapes w') (hl : s.1.length ≤ 1000000) :
    Calls Tryz.prog 13 #[.pointer (some ⟨B, 0, none⟩)] w (GotMgA w B (msgO 9223372036854775807 1024 s)) := by
  have HB := Lib.hid h.lt
  have HT := Lib.hid hT
  have n1 := Cod.mkS_len s; have n2 := Cod.mfS_len s; have n3 := Cod.mtS_len s; have n4 := maS_len s
  have n5 := outS_len (maS s); have n6 := stS_len (maS s); have n7 := outS_len (stS (maS s))
  have C1 : Hid (∀ V : World, RdA V B s → Calls Tryz.prog 30 #[.pointer (some ⟨B, 0, none⟩), .int .i64 3] V (GotA V B (.int .i64 (Cod.mkS s).1) (Cod.mkS s).2)) := Lib.hid fun V hV => by unfold Cod.mkS; exact num_all B _ _ V hV (by omega) (by omega)
  have C2 : Hid (∀ V : World, RdA V B (Cod.mkS s).2 → Calls Tryz.prog 30 #[.pointer (some ⟨B, 0, none⟩), .int .i64 63] V (GotA V B (.int .i64 (Cod.mfS s).1) (Cod.mfS s).2)) := Lib.hid fun V hV => by unfold Cod.mfS; exact num_all B _ _ V hV (by omega) (by omega)
  have C3 : Hid (∀ V : World, RdA V B (Cod.mfS s).2 → Calls Tryz.prog 30 #[.pointer (some ⟨B, 0, none⟩), .int .i64 63] V (GotA V B (.int .i64 (Cod.mtS s).1) (Cod.mtS s).2)) := Lib.hid fun V hV => by unfold Cod.mtS; exact num_all B _ _ V hV (by omega) (by omega)
  have C4 : Hid (∀ V : World, RdA V B (Cod.mtS s).2 → Calls Tryz.prog 31 #[.pointer (some ⟨B, 0, none⟩)] V fun e w' => e = .returned (.agg (vf (outV (Cod.mtS s).2))) ∧ RdA w' B (maS s) ∧ V.grownBy w' (some B)) := Lib.hid fun V hV => vread_is B _ V hV (by omega)
  have C5 : Hid (∀ V : World, RdA V B (maS s) → Calls Tryz.prog 31 #[.pointer (some ⟨B, 0, none⟩)] V fun e w' => e = .returned (.agg (vf (outV (maS s)))) ∧ RdA w' B (outS (maS s)) ∧ V.grownBy w' (some B)) := Lib.hid fun V hV => vread_is B _ V hV (by omega)
  have C6 : Hid (∀ V : World, (∀ w', V.grownBy w' (some B) → Shapes w') → RdA V B (outS (maS s)) → Calls Tryz.prog 32 #[.pointer (some ⟨B, 0, none⟩), .int .i64 1024] V (GotEvsA V B 1024 (lstO 9223372036854775807 1024 (outS (maS s))))) := Lib.hid fun V hs hV => readEvents_any B 1024 _ V hV (by omega) hs (by omega)
  have C7 : Hid (∀ V : World, (∀ w', V.grownBy w' (some B) → Shapes w') → RdA V B (maS s) → Calls Tryz.prog 33 #[.pointer (some ⟨B, 0, none⟩)] V (GotStA V B (stV (maS s)) (stL (maS s)) (stS (maS s)))) := Lib.hid fun V hs hV => readState_any B _ V hV hs (by omega)
  have C8 : Hid (∀ V : World, RdA V B (stS (maS s)) → Calls Tryz.prog 31 #[.pointer (some ⟨B, 0, none⟩)] V fun e w' => e = .returned (.agg (vf (outV (stS (maS s))))) ∧ RdA w' B (outS (stS (maS s))) ∧ V.grownBy w' (some B)) := Lib.hid fun V hV => vread_is B _ V hV (by omega)
  have C9 : Hid (∀ V : World, (∀ w', V.grownBy w' (some B) → Shapes w') → RdA V B (outS (stS (maS s))) → Calls Tryz.prog 32 #[.pointer (some ⟨B, 0, none⟩), .int .i64 1024] V (GotEvsA V B 1024 (lstO 9223372036854775807 1024 (outS (stS (maS s)))))) := Lib.hid fun V hs hV => readEvents_any B 1024 _ V hV (by omega) hs (by omega)
  have hk3 : (Cod.mkS s).1 ≤ 3 := by have := numS_small (many := 3) (s := s) (by omega); unfold Cod.mkS; omega
  obtain ⟨O, hO⟩ : ∃ O, msgO 9223372036854775807 1024 s = O := ⟨_, rfl⟩
  have F1 : Hid ((Cod.mkS s).1 ≠ 2 → (Cod.mkS s).1 ≠ 3 → Outc O (⟨(Cod.mkS s).1, (Cod.mfS s).1, (Cod.mtS s).1, outV (Cod.mtS s).2, fun _ => 0, [], fun _ => 0, [], fun _ => 0⟩ : MgV) (maS s)) := Lib.hid fun h2 h3 => by
    rw [← hO]; exact msgO_else h2 h3
  have F2 : Hid ((Cod.mkS s).1 = 2 → ∀ (es : List Ev) (st : Cod.S), Outc (lstO 9223372036854775807 1024 (outS (maS s))) es st → Outc O (⟨(Cod.mkS s).1, (Cod.mfS s).1, (Cod.mtS s).1, outV (Cod.mtS s).2, outV (maS s), es, fun _ => 0, [], fun _ => 0⟩ : MgV) st) := Lib.hid fun h2 es st h => by
    rw [← hO]; exact msgO_two h2 es st h
  have F3 : Hid ((Cod.mkS s).1 = 3 → ∀ (es : List Ev) (st : Cod.S), Outc (lstO 9223372036854775807 1024 (outS (stS (maS s)))) es st → Outc O (⟨(Cod.mkS s).1, (Cod.mfS s).1, (Cod.mtS s).1, outV (Cod.mtS s).2, fun _ => 0, es, stV (maS s), stL (maS s), outV (stS (maS s))⟩ : MgV) st) := Lib.hid fun h3 es st h => by
    rw [← hO]; exact msgO_three h3 es st h
  rw [hO]
  have H := Lib.hid h
  clear h hT n1 n2 n3 n4 n5 n6 n7 hl hO
  generalize lstO 9223372036854775807 1024 (outS (maS s)) = O2 at *
  generalize lstO 9223372036854775807 1024 (outS (stS (maS s))) = O3 at *
  generalize outV (stS (maS s)) = FF at *
  generalize outS (stS (maS s)) = S5 at *
  generalize stS (maS s) = S4 at *
  generalize stV (maS s) = FS at *
  generalize stL (maS s) = LS at *
  generalize outV (maS s) = FB at *
  generalize outS (maS s) = S3 at *
  generalize maS s = S2 at *
  generalize outV (Cod.mtS s).2 = FA at *
  generalize Cod.mtS s = D3 at *
  generalize Cod.mfS s = D2 at *
  generalize Cod.mkS s = D1 at *
  obtain ⟨d, t3⟩ := D3
  obtain ⟨r, t2⟩ := D2
  obtain ⟨k, t1⟩ := D1
  simp only at C1 C2 C3 C4 F1 F2 F3 hk3
  have K3 := Lib.hid hk3
  clear hk3
  go_enter Tryz.func13, Tryz.ntmps13
  go_wp2_with (refine wpList_galloc _ zeroMg rfl rfl ?_)
  intro g2 w1 l2 hx1 hb1
  have K1 : Hid (Mx w1 g2 (Mg.bare 0 0 0)) := Lib.hid hx1
  have G1 := Lib.hid (grown_less (R := some B) hb1)
  have R1 := Lib.hid (H.out.below hb1)
  clear hb1 hx1
  go_wp2_with fail
  refine (C1.out w1 R1.out).mono ?_
  rintro e w2 ⟨rfl, hr, hg⟩
  have G2 := Lib.hid (grown_trans G1.out hg)
  have K2 : Hid (Mx w2 g2 (Mg.bare 0 0 0)) := Lib.hid (grown_step G1.out hg HB.out l2 K1.out)
  have R2 := Lib.hid hr
  clear hr hg C1 K1 R1
  go_wp2_with fail
  refine (C2.out w2 R2.out).mono ?_
  rintro e w3 ⟨rfl, hr, hg⟩
  have G3 := Lib.hid (grown_trans G2.out hg)
  have K3 : Hid (Mx w3 g2 (Mg.bare 0 0 0)) := Lib.hid (grown_step G2.out hg HB.out l2 K2.out)
  have R3 := Lib.hid hr
  clear hr hg C2 K2 R2
  go_wp2_with fail
  refine (C3.out w3 R3.out).mono ?_
  rintro e w4 ⟨rfl, hr, hg⟩
  have G4 := Lib.hid (grown_trans G3.out hg)
  have K4 : Hid (Mx w4 g2 (Mg.bare 0 0 0)) := Lib.hid (grown_step G3.out hg HB.out l2 K3.out)
  have R4 := Lib.hid hr
  clear hr hg C3 K3 R3
  go_wp2_with fail
  refine (C4.out w4 R4.out).mono ?_
  rintro e w5 ⟨rfl, hr, hg⟩
  have G5 := Lib.hid (grown_trans G4.out hg)
  have K5 : Hid (Mx w5 g2 (Mg.bare 0 0 0)) := Lib.hid (grown_step G4.out hg HB.out l2 K4.out)
  have R5 := Lib.hid hr
  clear hr hg C4 K4 R4
  go_wp2_with (first | refine wpList_pbuild (by rfl) _ rfl ({ Mg.bare (k : Int) (r : Int) (d : Int) with ack := FA } : Mg).cells.toArray (by simp only [List.map_toArray, List.map_cons, List.map_nil]; exact builtMg4 _ _ _ _ _) ?_ | refine wpList_galloc _ zeroMg rfl rfl ?_)
  intro g3 w6 l3 hx6 hb6
  have hl3 : w.heap.size ≤ g3 := Nat.le_trans G5.out.size l3
  have G6 := Lib.hid (grown_on G5.out (hb6.mono G5.out.size))
  have K6 : Hid (Mx w6 g2 (Mg.bare 0 0 0)) := Lib.hid (K5.out.later hb6)
  have R6 := Lib.hid (R5.out.below hb6)
  have H6 := Lib.hid hx6
  have h23 : g2 ≠ g3 := by have := K5.out.lt; omega
  have hBg : B < g3 := Nat.lt_of_lt_of_le HB.out hl3
  have hB2 : B < g2 := Nat.lt_of_lt_of_le HB.out l2
  clear hx6 hb6 K5 R5 G5
  go_wp2_with (refine wpList_gstore rfl _ _ rfl g3 rfl ({ Mg.bare (k : Int) (r : Int) (d : Int) with ack := FA } : Mg).cells.toArray rfl _ _ H6.out (sizeMgA _) (by rw [mx_size, mx_size]) (Mg.one' _) ?_)
  intro w7 h7 g7
  have G7 := Lib.hid (grown_onE G6.out g7 hl3)
  have K7 : Hid (Mx w7 g2 (Mg.bare 0 0 0)) := Lib.hid ((g7.block _ K6.out.lt (by simpa using h23)).trans K6.out)
  have R7 := Lib.hid (R6.out.beside g7 hBg)
  obtain ⟨m1, hm1⟩ : ∃ x : Mg, x = { Mg.bare (k : Int) (r : Int) (d : Int) with ack := FA } := ⟨_, rfl⟩
  rw [← hm1] at h7 ⊢
  have X7 : Hid (Mx w7 g3 m1) := Lib.hid h7
  have HM1 := Lib.hid hm1
  have k1k : m1.kind = k := by rw [hm1]; rfl
  clear h7 g7 H6 K6 R6 G6 hm1
  have kk := X7.out.parts.kind
  rw [k1k] at kk
  by_cases q2 : k = 2
  · have e2 : ((k : Int) == 2) = true := by rw [q2]; rfl
    have F2' := Lib.hid (F2.out q2)
    clear q2 F1 F2 F3 C7 C8 C9
    go_wp2_with fail
    refine (C5.out w7 R7.out).mono ?_
    rintro e w8 ⟨rfl, hr, hg⟩
    have G8 := Lib.hid (grown_trans G7.out hg)
    have K8 : Hid (Mx w8 g2 (Mg.bare 0 0 0)) := Lib.hid (grown_step G7.out hg HB.out l2 K7.out)
    have X8 : Hid (Mx w8 g3 m1) := Lib.hid (grown_step G7.out hg HB.out hl3 X7.out)
    have R8 := Lib.hid hr
    clear hr hg C5 K7 X7 G7 R7 kk
    go_wp2_with (refine wpList_pset rfl _ _ _ rfl g3 67 rfl (vf FB) rfl (by rw [vf_size]; kernel_rfl) (vf_oneC _) X8.out (by rw [vf_size, mx_size]; omega) ?_)
    intro w9 hw9
    have gq := grown_setCells g3 (vf FB).toList w8 67
    have xq := X8.out.setBase FB
    rw [← hw9.out] at gq xq
    have G9 := Lib.hid (grown_onE G8.out gq hl3)
    have K9 : Hid (Mx w9 g2 (Mg.bare 0 0 0)) := Lib.hid ((gq.block _ K8.out.lt (by simpa using h23)).trans K8.out)
    have R9 := Lib.hid (R8.out.beside gq hBg)
    obtain ⟨m2, hm2⟩ : ∃ x : Mg, x = { m1 with base := FB } := ⟨_, rfl⟩
    rw [← hm2] at xq
    have X9 := Lib.hid xq
    have HM2 := Lib.hid hm2
    clear gq xq hm2 hw9 X8 K8 G8 R8
    have EV := Lib.hid (C6.out w9 (fun w' hg => HT.out w' (grown_trans G9.out hg)) R9.out)
    go_wp2_with fail
    refine EV.out.mono ?_
    rintro e w10 ⟨v10, ys, st, rfl, ho, hny, hr, hg, _, hoc⟩
    obtain ⟨p10, c10, rfl, _, _, _⟩ := ho.at
    have ho := OwnE.mk (own_base ho.row G9.out.size) (fun x hx => own_base (ho.gone x hx) G9.out.size)
    have G10 := Lib.hid (grown_trans G9.out hg)
    have K10 : Hid (Mx w10 g2 (Mg.bare 0 0 0)) := Lib.hid (grown_step G9.out hg HB.out l2 K9.out)
    have X10 : Hid (Mx w10 g3 m2) := Lib.hid (grown_step G9.out hg HB.out hl3 X9.out)
    have R10 := Lib.hid hr
    have O10 := Lib.hid ho
    clear hr hg ho EV K9 X9 G9 R9
    go_wp2_with (refine wpList_storeSl rfl _ _ _ rfl ⟨g3, 131, none⟩ rfl p10 ys.length c10 rfl (fun w => by kernel_rfl) _ X10.out.parts.evs (frozen_of_row _ g3 131 _ _ X10.out) ?_)
    intro w11 hw11
    have gq := grown_cell w10 g3 131 (.slice p10 ys.length c10)
    have xq := X10.out.setEvs p10 c10 ys
    rw [← hw11.out] at gq xq
    have GE := Lib.hid (grown_onE G10.out gq hl3)
    have KE : Hid (Mx w11 g2 (Mg.bare 0 0 0)) := Lib.hid ((gq.block _ K10.out.lt (by simpa using h23)).trans K10.out)
    have RE := Lib.hid (R10.out.beside gq hBg)
    have OE := Lib.hid (O10.out.off X10.out gq)
    obtain ⟨XX, hXX⟩ : ∃ x : Mg, x = { m2 with ep := p10, ec := c10, E := ys } := ⟨_, rfl⟩
    rw [← hXX] at xq
    have XE : Hid (Mx w11 g3 XX) := Lib.hid xq
    have HXX := Lib.hid hXX
    have EE : Hid (XX.E = ys ∧ XX.ep = p10 ∧ XX.ec = c10) := Lib.hid (by rw [hXX]; exact ⟨rfl, rfl, rfl⟩)
    clear gq xq hw11 hXX X10 K10 G10 R10 O10
    have EN : Hid (XX.L = [] ∧ XX.v = ⟨k, r, d, FA, FB, evs ys, fun _ => 0, [], fun _ => 0⟩) := Lib.hid (by rw [HXX.out, HM2.out, HM1.out]; exact ⟨rfl, rfl⟩)
    have OC := Lib.hid (F2'.out _ _ hoc)
    have NY : Hid (ys.length ≤ 1024) := Lib.hid (by omega)
    have WH := Lib.hid XE.out.whole
    clear XE HXX hoc hny
    go_wp2_with (first | refine wpList_gload rfl _ rfl g3 0 rfl _ WH.out _ Tryz.underlying31 rfl (sizeMg _) ?_ | refine wpList_gstore rfl _ _ rfl g2 rfl XX.cells.toArray rfl _ _ KE.out (sizeMgA _) (by rw [mx_size, mx_size]) (Mg.one' _) ?_)
    intro w99 h99 g99
    have G99 := Lib.hid (grown_onE GE.out g99 l2)
    have R99 := Lib.hid (RE.out.beside g99 hB2)
    have H99 := Lib.hid h99
    have FO : Hid (GotMgA w B O (.returned (.agg XX.cells.toArray)) w99) := Lib.hid ⟨XX, _, rfl, (by rw [EE.out.1, EE.out.2.1, EE.out.2.2]; exact OE.out.off KE.out g99), (by rw [EN.out.1]; exact wrs_nil _ _), (by rw [EE.out.1]; exact NY.out), R99.out, G99.out, (by rw [EN.out.2]; exact OC.out)⟩
    clear h99 g99 RE GE
    go_wp2
    exact bodyPost_ret (v := .agg XX.cells.toArray) (results_cell_row rfl _ w99 g2 _ _ (0, 0) _ rfl H99.out Tryz.underlying31 rfl (sizeMgA _)) rfl FO.out
  have e2 : ((k : Int) == 2) = false := beq_eq_false_iff_ne.2 (by omega)
  by_cases q3 : k = 3
  · have e3 : ((k : Int) == 3) = true := by rw [q3]; rfl
    have F3' := Lib.hid (F3.out q3)
    have C7w := Lib.hid (C7.out w7 (fun w' hg => HT.out w' (grown_trans G7.out hg)) R7.out)
    clear q2 q3 F1 F2 F3 C5 C6 C7
    go_wp2_with fail
    refine C7w.out.mono ?_
    rintro e w8 ⟨p8, c8, rfl, hW8, hr, hg⟩
    have G8 := Lib.hid (grown_trans G7.out hg)
    have K8 : Hid (Mx w8 g2 (Mg.bare 0 0 0)) := Lib.hid (grown_step G7.out hg HB.out l2 K7.out)
    have X8 : Hid (Mx w8 g3 m1) := Lib.hid (grown_step G7.out hg HB.out hl3 X7.out)
    have R8 := Lib.hid hr; have W8 := Lib.hid hW8
    clear hr hg hW8 C7w K7 X7 G7 R7 kk
    go_wp2_with (refine wpList_pset rfl _ _ _ rfl g3 132 rfl (scs FS (.slice p8 LS.length c8)) rfl (sizeSt _ _) (scs_one FS rfl) X8.out (by rw [scs_size, mx_size]; omega) ?_)
    intro w9 hw9
    have gq := grown_setCells g3 (scs FS (.slice p8 LS.length c8)).toList w8 132
    have xq := X8.out.setSt FS p8 c8 LS
    rw [← hw9.out] at gq xq
    have G9 := Lib.hid (grown_onE G8.out gq hl3)
    have K9 : Hid (Mx w9 g2 (Mg.bare 0 0 0)) := Lib.hid ((gq.block _ K8.out.lt (by simpa using h23)).trans K8.out)
    have R9 := Lib.hid (R8.out.beside gq hBg)
    have W9 := Lib.hid (wrs_off W8.out gq X8.out.nostr)
    obtain ⟨m3, hm3⟩ : ∃ x : Mg, x = { m1 with seen := FS, sp := p8, sc := c8, L := LS } := ⟨_, rfl⟩
    rw [← hm3] at xq
    have X9 := Lib.hid xq
    have HM3 := Lib.hid hm3
    clear gq xq hm3 hw9 X8 K8 G8 R8 W8
    go_wp2_with fail
    refine (C8.out w9 R9.out).mono ?_
    rintro e w12 ⟨rfl, hr, hg⟩
    have G12 := Lib.hid (grown_trans G9.out hg)
    have K12 : Hid (Mx w12 g2 (Mg.bare 0 0 0)) := Lib.hid (grown_step G9.out hg HB.out l2 K9.out)
    have X12 : Hid (Mx w12 g3 m3) := Lib.hid (grown_step G9.out hg HB.out hl3 X9.out)
    have W12 := Lib.hid (wrs_off W9.out hg R9.out.nostr)
    have R12 := Lib.hid hr
    clear hr hg C8 K9 X9 G9 R9 W9
    go_wp2_with (refine wpList_pset rfl _ _ _ rfl g3 197 rfl (vf FF) rfl (by rw [vf_size]; kernel_rfl) (vf_oneC _) X12.out (by rw [vf_size, mx_size]; omega) ?_)
    intro w9 hw9
    have gq := grown_setCells g3 (vf FF).toList w12 197
    have xq := X12.out.setFloor FF
    rw [← hw9.out] at gq xq
    have G9 := Lib.hid (grown_onE G12.out gq hl3)
    have K9 : Hid (Mx w9 g2 (Mg.bare 0 0 0)) := Lib.hid ((gq.block _ K12.out.lt (by simpa using h23)).trans K12.out)
    have R9 := Lib.hid (R12.out.beside gq hBg)
    have W9 := Lib.hid (wrs_off W12.out gq X12.out.nostr)
    obtain ⟨m2, hm2⟩ : ∃ x : Mg, x = { m3 with floor := FF } := ⟨_, rfl⟩
    rw [← hm2] at xq
    have X9 := Lib.hid xq
    have HM2 := Lib.hid hm2
    clear gq xq hm2 hw9 X12 K12 G12 R12 W12
    have EV := Lib.hid (C9.out w9 (fun w' hg => HT.out w' (grown_trans G9.out hg)) R9.out)
    go_wp2_with fail
    refine EV.out.mono ?_
    rintro e w10 ⟨v10, ys, st, rfl, ho, hny, hr, hg, _, hoc⟩
    obtain ⟨p10, c10, rfl, _, _, _⟩ := ho.at
    have ho := OwnE.mk (own_base ho.row G9.out.size) (fun x hx => own_base (ho.gone x hx) G9.out.size)
    have G10 := Lib.hid (grown_trans G9.out hg)
    have K10 : Hid (Mx w10 g2 (Mg.bare 0 0 0)) := Lib.hid (grown_step G9.out hg HB.out l2 K9.out)
    have X10 : Hid (Mx w10 g3 m2) := Lib.hid (grown_step G9.out hg HB.out hl3 X9.out)
    have R10 := Lib.hid hr
    have O10 := Lib.hid ho
    have W10 := Lib.hid (wrs_off W9.out hg R9.out.nostr)
    clear hr hg ho EV K9 X9 G9 R9
    go_wp2_with (refine wpList_storeSl rfl _ _ _ rfl ⟨g3, 131, none⟩ rfl p10 ys.length c10 rfl (fun w => by kernel_rfl) _ X10.out.parts.evs (frozen_of_row _ g3 131 _ _ X10.out) ?_)
    intro w11 hw11
    have gq := grown_cell w10 g3 131 (.slice p10 ys.length c10)
    have xq := X10.out.setEvs p10 c10 ys
    rw [← hw11.out] at gq xq
    have GE := Lib.hid (grown_onE G10.out gq hl3)
    have KE : Hid (Mx w11 g2 (Mg.bare 0 0 0)) := Lib.hid ((gq.block _ K10.out.lt (by simpa using h23)).trans K10.out)
    have RE := Lib.hid (R10.out.beside gq hBg)
    have OE := Lib.hid (O10.out.off X10.out gq)
    have W11 := Lib.hid (wrs_off W10.out gq X10.out.nostr)
    obtain ⟨XX, hXX⟩ : ∃ x : Mg, x = { m2 with ep := p10, ec := c10, E := ys } := ⟨_, rfl⟩
    rw [← hXX] at xq
    have XE : Hid (Mx w11 g3 XX) := Lib.hid xq
    have HXX := Lib.hid hXX
    have EE : Hid (XX.E = ys ∧ XX.ep = p10 ∧ XX.ec = c10) := Lib.hid (by rw [hXX]; exact ⟨rfl, rfl, rfl⟩)
    clear gq xq hw11 hXX X10 K10 G10 R10 O10
    have EN : Hid ((XX.L = LS ∧ XX.sp = p8) ∧ XX.v = ⟨k, r, d, FA, fun _ => 0, evs ys, FS, LS, FF⟩) := Lib.hid (by rw [HXX.out, HM2.out, HM3.out, HM1.out]; exact ⟨⟨rfl, rfl⟩, rfl⟩)
    have OC := Lib.hid (F3'.out _ _ hoc)
    have NY : Hid (ys.length ≤ 1024) := Lib.hid (by omega)
    have WH := Lib.hid XE.out.whole
    clear XE HXX hoc hny
    go_wp2_with (first | refine wpList_gload rfl _ rfl g3 0 rfl _ WH.out _ Tryz.underlying31 rfl (sizeMg _) ?_ | refine wpList_gstore rfl _ _ rfl g2 rfl XX.cells.toArray rfl _ _ KE.out (sizeMgA _) (by rw [mx_size, mx_size]) (Mg.one' _) ?_)
    intro w99 h99 g99
    have G99 := Lib.hid (grown_onE GE.out g99 l2)
    have R99 := Lib.hid (RE.out.beside g99 hB2)
    have H99 := Lib.hid h99
    have FO : Hid (GotMgA w B O (.returned (.agg XX.cells.toArray)) w99) := Lib.hid ⟨XX, _, rfl, (by rw [EE.out.1, EE.out.2.1, EE.out.2.2]; exact OE.out.off KE.out g99), (by rw [EN.out.1.1, EN.out.1.2]; exact wrs_off W11.out g99 KE.out.nostr), (by rw [EE.out.1]; exact NY.out), R99.out, G99.out, (by rw [EN.out.2]; exact OC.out)⟩
    clear h99 g99 RE GE
    go_wp2
    exact bodyPost_ret (v := .agg XX.cells.toArray) (results_cell_row rfl _ w99 g2 _ _ (0, 0) _ rfl H99.out Tryz.underlying31 rfl (sizeMgA _)) rfl FO.out
  have e3 : ((k : Int) == 3) = false := beq_eq_false_iff_ne.2 (by omega)
  have OC := Lib.hid (F1.out q2 q3)
  have EN : Hid (m1.E = [] ∧ m1.L = [] ∧ m1.ep = none ∧ m1.ec = 0 ∧ m1.v = ⟨k, r, d, FA, fun _ => 0, [], fun _ => 0, [], fun _ => 0⟩) := Lib.hid (by rw [HM1.out]; exact ⟨rfl, rfl, rfl, rfl, rfl⟩)
  have RE := R7
  have WH := Lib.hid X7.out.whole
  have KE := K7; have GE := G7
  clear q2 q3 F1 F2 F3 C5 C6 C7 C8 C9 R7 X7 K7 G7
  obtain ⟨XX, hXX⟩ : ∃ x, x = m1 := ⟨_, rfl⟩
  rw [← hXX] at EN WH
  clear hXX
  go_wp2_with (first | refine wpList_gload rfl _ rfl g3 0 rfl _ WH.out _ Tryz.underlying31 rfl (sizeMg _) ?_ | refine wpList_gstore rfl _ _ rfl g2 rfl XX.cells.toArray rfl _ _ KE.out (sizeMgA _) (by rw [mx_size, mx_size]) (Mg.one' _) ?_)
  intro w99 h99 g99
  have G99 := Lib.hid (grown_onE GE.out g99 l2)
  have R99 := Lib.hid (RE.out.beside g99 hB2)
  have H99 := Lib.hid h99
  have FO : Hid (GotMgA w B O (.returned (.agg XX.cells.toArray)) w99) := Lib.hid ⟨XX, _, rfl, (by rw [EN.out.1, EN.out.2.2.1, EN.out.2.2.2.1]; exact ⟨World.ownsRow_nil _ _ _ _, fun x h => absurd h List.not_mem_nil⟩), (by rw [EN.out.2.1]; exact wrs_nil _ _), (by rw [EN.out.1]; decide), R99.out, G99.out, (by rw [EN.out.2.2.2.2]; exact OC.out)⟩
  clear h99 g99 RE GE
  go_wp2
  exact bodyPost_ret (v := .agg XX.cells.toArray) (results_cell_row rfl _ w99 g2 _ _ (0, 0) _ rfl H99.out Tryz.underlying31 rfl (sizeMgA _)) rfl FO.out
end Go.Proofs.YtapmbankpbiglaaGreatDoor
/- wire.Decode of what Encode wrote. -/
namespace Go.Proofs.YtapmbankpbiglaaGreatDoor
open Go Go.RowKit
set_option linter.unusedVariables false
set_option maxRecDepth 1000000

theorem opens_sealed (l : List UInt8) : opens (sealed l) = (l, 0) := by
  have h1 : (sealed l).drop 4 = l := by simp [sealed, be4]
  have h2 : (sealed l).take 4 = be4 (Frm.crc l) := by simp [sealed, be4]
  unfold opens
  rw [if_neg (by rw [sealed_length]; omega), h1, if_pos h2]

theorem end_any (B : Nat) (w : World) (h : RdA w B ([], 0)) : Calls Tryz.prog 14 #[.pointer (some ⟨B, 0, none⟩)] w fun e w' => e = .returned (.int .i64 0) ∧ w = w' := by
  have E := Lib.hid (err_any B ([], 0) w h)
  have L := Lib.hid (left_any B ([], 0) w h)
  clear h
  go_enter Tryz.func14, Tryz.ntmps14
  go_wp2_with fail
  refine E.out.mono ?_
  rintro e w' ⟨rfl, rfl⟩
  go_wp2_with fail
  refine L.out.mono ?_
  rintro e w' ⟨rfl, rfl⟩
  go_wp2
  go_ret
  exact ⟨rfl, rfl⟩
/-- what decoding a message comes to -/
def DecR (w : World) (m : Mg) (e : Ending) (w' : World) : Prop := ∃ x : Mg, e = .returned (.tuple #[.agg x.cells.toArray, .int .i64 0]) ∧ m.Eq x ∧ EvsAt w' x.ep x.E ∧ WrsAt w' x.sp x.L ∧ Below w.heap.size w w'
set_option maxHeartbeats 16000000 in
theorem decode_is (m : Mg) (p : Option Addr) (c : Nat) (l : List UInt8) (w : World) (h : Lies w p l) (hlc : l.length ≤ c) (hS : Shapes w) (hT : Table w) (hM : mayM m = true) (hl : l = sealed (mgB m)) :
    Calls Tryz.prog 5 #[.slice p l.length c] w (DecR w m) := by
  have ML := mgB_len hM
  have pM : 0 < (mgB m).length := by
    unfold mgB
    simp only [List.length_append]
    have : 0 < (Cod.enc m.kind.toNat).length := by rw [Cod.enc_length]; omega
    omega
  have HS := Lib.hid hS; have HM := Lib.hid hM
  have nl : l.length ≤ 30000000 := by rw [hl, sealed_length]; omega
  have OP : Hid (∀ V : World, Below w.heap.size w V → Calls Tryz.prog 11 #[.slice p l.length c] V (RetTwo V (mgB m, 0))) := Lib.hid fun V hV => by
    have := open_any p c l V (h.below hV) hlc (hT.below hV) (by omega)
    rw [hl, opens_sealed] at this
    rw [hl]; exact this
  obtain ⟨LB, hLB⟩ : ∃ X, mgB m = X := ⟨_, rfl⟩
  rw [hLB] at OP ML pM
  have HLB := Lib.hid hLB
  clear h hS hT hM hl hLB hlc
  go_enter Tryz.func5, Tryz.ntmps5
  go_wp2_with (refine wpList_galloc _ zeroMg rfl rfl ?_)
  intro g2 w1 l2 h1 hb1
  have K1 : Hid (Mx w1 g2 (Mg.bare 0 0 0)) := Lib.hid h1
  have B1 := Lib.hid hb1
  clear h1 hb1
  go_wp2_with fail
  refine (OP.out w1 B1.out).mono ?_
  rintro e w2 ⟨p2, c2, rfl, le2, n2, lies2, hb2⟩
  have K2 := Lib.hid (K1.out.later hb2); have B2 := Lib.hid (thenBelow B1.out hb2)
  have RA := Lib.hid (read_any p2 c2 LB w2 ⟨lies2, le2, n2⟩ pM (by omega))
  clear hb2 K1 OP le2 n2 lies2
  go_wp2_with fail
  refine RA.out.mono ?_
  rintro e w3 ⟨B, rfl, hB, hr3, hb3⟩
  have K3 := Lib.hid (K2.out.later hb3); have B3 := Lib.hid (thenBelow B2.out hb3)
  have hBW : w.heap.size ≤ B := Nat.le_trans B2.out.size hB
  have h2B : g2 < B := Nat.lt_of_lt_of_le K2.out.lt hB
  rw [← HLB.out] at hr3
  have RM := Lib.hid (wireRead_live B m w3 hr3 HM.out (fun w' hg => HS.out.below (B3.out.grown hg B3.out.size (fun k hk => by have e2 : k = B := (Option.some.inj hk).symm; omega))))
  clear hr3 hb3 RA K2 hB
  go_wp2_with fail
  refine RM.out.mono ?_
  rintro e w4 ⟨x, rfl, hq, hmx, ho4, hw4, hr4, hg4⟩
  have B4 := Lib.hid (B3.out.grown hg4 B3.out.size (fun k hk => by have e2 : k = B := (Option.some.inj hk).symm; omega))
  have K4 : Hid (Mx w4 g2 (Mg.bare 0 0 0)) := Lib.hid ((hg4.block g2 K3.out.lt (fun e => by have e2 : g2 = B := Option.some.inj e; omega)).trans K3.out)
  have O4 := Lib.hid ho4; have W4 := Lib.hid hw4; have R4 := Lib.hid hr4
  have HQ := Lib.hid hq; have HX := Lib.hid hmx
  clear hq hmx ho4 hw4 hr4 hg4 RM K3
  go_wp2_with (refine wpList_galloc _ zeroMg rfl rfl ?_)
  intro g7 w5 l7 h5 hb5
  have H5 := Lib.hid h5
  have O5 := Lib.hid (O4.out.later hb5); have W5 := Lib.hid (W4.out.below hb5); have R5 := Lib.hid (R4.out.below hb5); have B5 := Lib.hid (thenBelow B4.out hb5); have K5 := Lib.hid (K4.out.later hb5)
  have l7W : w.heap.size ≤ g7 := Nat.le_trans B4.out.size l7
  have h27 : g2 ≠ g7 := by have := K4.out.lt; omega
  have hB7 : B < g7 := Nat.lt_of_lt_of_le R4.out.lt l7
  clear h5 hb5 O4 W4 R4 B4 K4
  go_wp2_with (refine wpList_gstore rfl _ _ rfl g7 rfl x.cells.toArray rfl _ _ H5.out (sizeMgA _) (by rw [mx_size, mx_size]) (Mg.one' _) ?_)
  intro w6 h6 g6
  have X6 : Hid (Mx w6 g7 x) := Lib.hid h6
  have hx5 : Mx w5 g7 (Mg.bare 0 0 0) := H5.out
  have O6 := Lib.hid (O5.out.off H5.out g6); have W6 := Lib.hid (wrs_off W5.out g6 hx5.nostr); have R6 := Lib.hid (R5.out.beside g6 hB7)
  have B6 := Lib.hid (B5.out.trans (grown_below g6 B5.out.size l7W))
  have K6 : Hid (Mx w6 g2 (Mg.bare 0 0 0)) := Lib.hid ((g6.block g2 K5.out.lt (by simpa using h27)).trans K5.out)
  have EN := Lib.hid (end_any B w6 R6.out)
  clear h6 g6 hx5 H5 O5 W5 R5 B5 K5
  go_wp2_with fail
  refine EN.out.mono ?_
  rintro e w7 ⟨rfl, rfl⟩
  have WH := Lib.hid X6.out.whole
  have EA : Hid (EvsAt w6 x.ep x.E) := Lib.hid (by obtain ⟨_, _, e9, _, h9, _⟩ := O6.out.at; injection e9 with e9 _ _; rw [e9]; exact h9)
  have hmE : mayE x = 0 := by unfold mayE; rw [if_pos HX.out]
  have CK := wireCheck_is x w6 EA.out W6.out (HS.out.below B6.out)
  rw [hmE] at CK
  have CK := Lib.hid CK
  clear hmE EN
  go_wp2_with (refine wpList_gloadG (by rfl) _ rfl g7 0 rfl _ WH.out _ Tryz.underlying31 rfl (sizeMg _) ?_)
  refine CK.out.mono ?_
  rintro e w8 ⟨rfl, hb8⟩
  have X8 := Lib.hid (X6.out.later hb8); have K8 := Lib.hid (K6.out.later hb8); have O8 := Lib.hid (O6.out.later hb8); have W8 := Lib.hid (W6.out.below hb8); have B8 := Lib.hid (thenBelow B6.out hb8)
  have WH := Lib.hid X8.out.whole
  clear hb8 CK X6 K6 O6 W6 B6 EA R6
  go_wp2_with (first | refine wpList_gload rfl _ rfl g7 0 rfl _ WH.out _ Tryz.underlying31 rfl (sizeMg _) ?_ | refine wpList_gstore rfl _ _ rfl g2 rfl x.cells.toArray rfl _ _ K8.out (sizeMgA _) (by rw [mx_size, mx_size]) (Mg.one' _) ?_)
  intro w9 h9 g9
  have H9 := Lib.hid h9
  have O9 := Lib.hid (O8.out.off K8.out g9); have W9 := Lib.hid (wrs_off W8.out g9 K8.out.nostr)
  have B9 := Lib.hid (B8.out.trans (grown_below g9 B8.out.size l2))
  have FO : Hid (DecR w m (.returned (.tuple #[.agg x.cells.toArray, .int .i64 0])) w9) := Lib.hid ⟨x, rfl, HQ.out, (by obtain ⟨_, _, e9, _, h9, _⟩ := O9.out.at; injection e9 with e9 _ _; rw [e9]; exact h9), W9.out, B9.out⟩
  clear h9 g9 O9 W9 B9 O8 W8 K8 X8
  go_wp2
  exact bodyPost_ret (v := .tuple #[.agg x.cells.toArray, .int .i64 0]) (results_cell_two (p := 2) (q := 3) rfl _ w9 g2 _ _ (0, 0) _ rfl H9.out Tryz.underlying31 rfl (sizeMgA _) (.int .i64 0) rfl) rfl FO.out
end Go.Proofs.YtapmbankpbiglaaGreatDoor
/- wire.Decode of any bytes. -/
namespace Go.Proofs.YtapmbankpbiglaaGreatDoor
open Go Go.RowKit
set_option linter.unusedVariables false
set_option maxRecDepth 1000000

/-- what End answers -/
def EndA (s : Cod.S) (w : World) (e : Ending) (w' : World) : Prop := (∃ k : Int, e = .returned (.int .i64 k) ∧ (k = 0 ↔ s = ([], 0))) ∧ w = w'
theorem endA_is (B : Nat) (s : Cod.S) (w : World) (h : RdA w B s) : Calls Tryz.prog 14 #[.pointer (some ⟨B, 0, none⟩)] w (EndA s w) := by
  have E := Lib.hid (err_any B s w h)
  have L := Lib.hid (left_any B s w h)
  obtain ⟨l, c⟩ := s
  clear h
  simp only at E L
  go_enter Tryz.func14, Tryz.ntmps14
  go_wp2_with fail
  refine E.out.mono ?_
  rintro e w' ⟨rfl, rfl⟩
  by_cases hc : c = 0
  · subst hc
    clear E
    go_wp2_with fail
    refine L.out.mono ?_
    rintro e w' ⟨rfl, rfl⟩
    clear L
    by_cases hl : 0 < l.length
    · have hl' : (l.length : Int) > 0 := by omega
      have FO : Hid (∀ w : World, EndA (l, 0) w (.returned (.int .i64 3)) w) := Lib.hid fun w => ⟨⟨3, rfl, ⟨fun h => by omega, fun h => by injection h with h1 _; subst h1; simp at hl⟩⟩, rfl⟩
      obtain ⟨n, hn⟩ : ∃ n, (l.length : Int) = n := ⟨_, rfl⟩
      rw [hn] at hl' ⊢
      clear hl hn
      go_wp2
      go_ret
      exact FO.out _
    · have hl2 : l = [] := List.eq_nil_of_length_eq_zero (by omega)
      subst hl2
      have FO : Hid (∀ w : World, EndA ([], 0) w (.returned (.int .i64 0)) w) := Lib.hid fun w => ⟨⟨0, rfl, ⟨fun _ => rfl, fun _ => rfl⟩⟩, rfl⟩
      clear hl
      go_wp2
      go_ret
      exact FO.out _
  · have hn : ((c : Int) != 0) = true := by simpa using hc
    have FO : Hid (∀ w : World, EndA (l, c) w (.returned (.int .i64 (c : Int))) w) := Lib.hid fun w => ⟨⟨c, rfl, ⟨fun h => absurd (by omega) hc, fun h => by injection h with _ h1; exact absurd h1 hc⟩⟩, rfl⟩
    clear hc E L
    go_wp2
    go_ret
    exact FO.out _
/-- is this the message of these bytes? -/
def GoodM (K most : Int) (s : Cod.S) (x : Mg) : Prop := msgO K most s = some (x.v, ([], 0)) ∧ mayM x = true
/-- how the answer stands to what may be read -/
def AnsM (K0 : Int) (G : Mg → Prop) (x : Mg) (k : Int) : Prop := (K0 ≠ 0 ∧ k = K0 ∧ x = Mg.bare 0 0 0) ∨ (K0 = 0 ∧ ((k = 0 ∧ G x) ∨ (k = 3 ∧ x = Mg.bare 0 0 0 ∧ ∀ y : Mg, ¬ G y)))
/-- what a decoding answers, by what may be read -/
def DecA (w : World) (l : List UInt8) (G : Mg → Prop) (e : Ending) (w' : World) : Prop :=
  ∃ (x : Mg) (k : Int), e = .returned (.tuple #[.agg x.cells.toArray, .int .i64 k]) ∧ EvsAt w' x.ep x.E ∧ WrsAt w' x.sp x.L ∧ x.E.length ≤ 1024 ∧ Below w.heap.size w w' ∧ AnsM (opens l).2 G x k
theorem mg_v_may {x y : Mg} (h : x.v = y.v) : mayM x = mayM y := by
  unfold Mg.v at h
  simp only [MgV.mk.injEq] at h
  obtain ⟨h1, h2, h3, h4, h5, h6, h7, h8, h9⟩ := h
  have hl : x.E.length = y.E.length := by have := congrArg List.length h6; simpa [evs] using this
  unfold mayM
  rw [haveM_evs, haveM_evs, h6]
  unfold goM kindM noBaseM noFullM
  rw [h1, h2, h3, h4, h5, h7, h8, h9, hl]
theorem opens_len (l : List UInt8) : (opens l).1.length ≤ l.length := by
  unfold opens
  split
  · exact Nat.zero_le _
  · split
    · rw [List.length_drop]; omega
    · exact Nat.zero_le _
set_option maxHeartbeats 16000000 in
theorem decodeA_is (p : Option Addr) (c : Nat) (l : List UInt8) (w : World) (h : Lies w p l) (hlc : l.length ≤ c) (hS : Shapes w) (hT : Table w) (hn : l.length ≤ 1000000) :
    Calls Tryz.prog 5 #[.slice p l.length c] w (DecA w l (GoodM 9223372036854775807 1024 ((opens l).1, 0))) := by
  have OP : Hid (∀ V : World, Below w.heap.size w V → Calls Tryz.prog 11 #[.slice p l.length c] V (RetTwo V ((opens l).1, (opens l).2))) := Lib.hid fun V hV => open_any p c l V (h.below hV) hlc (hT.below hV) (by omega)
  have HS := Lib.hid hS
  have nl := Nat.le_trans (opens_len l) hn
  have FIN : Hid (∀ (x : Mg) (k : Int) (W : World), EvsAt W x.ep x.E → WrsAt W x.sp x.L → x.E.length ≤ 1024 → Below w.heap.size w W → AnsM (opens l).2 (GoodM 9223372036854775807 1024 ((opens l).1, 0)) x k → DecA w l (GoodM 9223372036854775807 1024 ((opens l).1, 0)) (.returned (.tuple #[.agg x.cells.toArray, .int .i64 k])) W) := Lib.hid fun x k W h1 h2 h3 h4 h5 => ⟨x, k, rfl, h1, h2, h3, h4, h5⟩
  obtain ⟨D, hD⟩ : ∃ D, DecA w l (GoodM 9223372036854775807 1024 ((opens l).1, 0)) = D := ⟨_, rfl⟩
  rw [hD] at FIN ⊢
  clear hD h hS hT hn
  have RDW : Hid (∀ (B : Nat) (V : World), RdA V B ((opens l).1, 0) → (∀ w', V.grownBy w' (some B) → Shapes w') → Calls Tryz.prog 13 #[.pointer (some ⟨B, 0, none⟩)] V (GotMgA V B (msgO 9223372036854775807 1024 ((opens l).1, 0)))) := Lib.hid fun B V h1 h2 => wireRead_any B _ V h1 h2 nl
  have GM : Hid (∀ x, GoodM 9223372036854775807 1024 ((opens l).1, 0) x ↔ msgO 9223372036854775807 1024 ((opens l).1, 0) = some (x.v, ([], 0)) ∧ mayM x = true) := Lib.hid fun x => Iff.rfl
  generalize GoodM 9223372036854775807 1024 ((opens l).1, 0) = GG at FIN GM
  generalize msgO 9223372036854775807 1024 ((opens l).1, 0) = O at RDW GM
  generalize (opens l).1 = LB at OP nl RDW
  generalize (opens l).2 = K0 at OP FIN
  obtain ⟨n, hnl⟩ : ∃ n, l.length = n := ⟨_, rfl⟩
  rw [hnl] at OP ⊢
  clear hnl hlc
  go_enter Tryz.func5, Tryz.ntmps5
  go_wp2_with (refine wpList_galloc _ zeroMg rfl rfl ?_)
  intro g2 w1 l2 h1 hb1
  have K1 : Hid (Mx w1 g2 (Mg.bare 0 0 0)) := Lib.hid h1
  have B1 := Lib.hid hb1
  clear h1 hb1
  go_wp2_with fail
  refine (OP.out w1 B1.out).mono ?_
  rintro e w2 ⟨p2, c2, rfl, le2, n2, lies2, hb2⟩
  simp only at le2 n2 lies2
  have K2 := Lib.hid (K1.out.later hb2); have B2 := Lib.hid (thenBelow B1.out hb2)
  have GV : Hid (Given w2 p2 c2 LB) := Lib.hid ⟨lies2, le2, n2⟩
  clear hb2 K1 OP le2 n2 lies2
  have EN0 : Hid (∀ W : World, EvsAt W (Mg.bare 0 0 0).ep (Mg.bare 0 0 0).E ∧ WrsAt W (Mg.bare 0 0 0).sp (Mg.bare 0 0 0).L ∧ (Mg.bare 0 0 0).E.length ≤ 1024) := Lib.hid fun W => ⟨evs_nil _ _, wrs_nil _ _, by decide⟩
  by_cases hk0 : K0 = 0
  case neg =>
    have hk1 : (K0 != 0) = true := by simpa using hk0
    have FB := Lib.hid (fun W (hb : Below w.heap.size w W) => FIN.out (Mg.bare 0 0 0) K0 W (EN0.out W).1 (EN0.out W).2.1 (EN0.out W).2.2 hb (.inl ⟨hk0, rfl, rfl⟩))
    clear hk0 FIN GM RDW
    go_wp2_with (first | refine wpList_pbuild (by rfl) _ rfl (Mg.bare 0 0 0).cells.toArray (by simp only [List.map_toArray, List.map_nil]; exact builtMg _) ?_ | refine wpList_gstore rfl _ _ rfl g2 rfl (Mg.bare 0 0 0).cells.toArray rfl _ _ K2.out (sizeMgA _) rfl (Mg.one' _) ?_)
    intro w3 h3 g3
    have b3 := grown_below g3 B2.out.size l2
    have B3 := Lib.hid (B2.out.trans b3)
    have H3 := Lib.hid h3
    clear h3 g3 b3 K2
    go_wp2
    exact bodyPost_ret (v := .tuple #[.agg (Mg.bare 0 0 0).cells.toArray, .int .i64 K0]) (results_cell_two (p := 2) (q := 3) rfl _ w3 g2 _ _ (0, 0) _ rfl H3.out Tryz.underlying31 rfl (sizeMgA _) (.int .i64 K0) rfl) rfl (FB.out w3 B3.out)
  subst hk0
  have RA := Lib.hid (read_all p2 c2 LB w2 GV.out (by omega))
  go_wp2_with fail
  refine RA.out.mono ?_
  rintro e w3 ⟨B, rfl, hB, hr3, hb3⟩
  have K3 := Lib.hid (K2.out.later hb3); have B3 := Lib.hid (thenBelow B2.out hb3)
  have hBW : w.heap.size ≤ B := Nat.le_trans B2.out.size hB
  have h2B : g2 < B := Nat.lt_of_lt_of_le K2.out.lt hB
  have RM := Lib.hid (RDW.out B w3 hr3 (fun w' hg => HS.out.below (B3.out.grown hg B3.out.size (fun k hk => by have e2 : k = B := (Option.some.inj hk).symm; omega))))
  clear hr3 hb3 RA K2 hB RDW
  go_wp2_with fail
  refine RM.out.mono ?_
  rintro e w4 ⟨x, st, rfl, ho4, hw4, hny, hr4, hg4, hoc⟩
  have B4 := Lib.hid (B3.out.grown hg4 B3.out.size (fun k hk => by have e2 : k = B := (Option.some.inj hk).symm; omega))
  have K4 : Hid (Mx w4 g2 (Mg.bare 0 0 0)) := Lib.hid ((hg4.block g2 K3.out.lt (fun e => by have e2 : g2 = B := Option.some.inj e; omega)).trans K3.out)
  have O4 := Lib.hid ho4; have W4 := Lib.hid hw4; have R4 := Lib.hid hr4; have OC := Lib.hid hoc; have NY := Lib.hid hny
  clear ho4 hw4 hr4 hg4 RM K3 hoc hny
  go_wp2_with (refine wpList_galloc _ zeroMg rfl rfl ?_)
  intro g7 w5 l7 h5 hb5
  have H5 := Lib.hid h5
  have O5 := Lib.hid (O4.out.later hb5); have W5 := Lib.hid (W4.out.below hb5); have R5 := Lib.hid (R4.out.below hb5); have B5 := Lib.hid (thenBelow B4.out hb5); have K5 := Lib.hid (K4.out.later hb5)
  have l7W : w.heap.size ≤ g7 := Nat.le_trans B4.out.size l7
  have h27 : g2 ≠ g7 := by have := K4.out.lt; omega
  have hB7 : B < g7 := Nat.lt_of_lt_of_le R4.out.lt l7
  clear h5 hb5 O4 W4 R4 B4 K4
  go_wp2_with (refine wpList_gstore rfl _ _ rfl g7 rfl x.cells.toArray rfl _ _ H5.out (sizeMgA _) (by rw [mx_size, mx_size]) (Mg.one' _) ?_)
  intro w6 h6 g6
  have X6 : Hid (Mx w6 g7 x) := Lib.hid h6
  have hx5 : Mx w5 g7 (Mg.bare 0 0 0) := H5.out
  have O6 := Lib.hid (O5.out.off H5.out g6); have W6 := Lib.hid (wrs_off W5.out g6 hx5.nostr); have R6 := Lib.hid (R5.out.beside g6 hB7)
  have B6 := Lib.hid (B5.out.trans (grown_below g6 B5.out.size l7W))
  have K6 : Hid (Mx w6 g2 (Mg.bare 0 0 0)) := Lib.hid ((g6.block g2 K5.out.lt (by simpa using h27)).trans K5.out)
  have EN := Lib.hid (endA_is B st w6 R6.out)
  clear h6 g6 hx5 H5 O5 W5 R5 B5 K5
  go_wp2_with fail
  refine EN.out.mono ?_
  rintro e w7 ⟨⟨kE, rfl, hkE⟩, rfl⟩
  have WH := Lib.hid X6.out.whole
  have EA : Hid (EvsAt w6 x.ep x.E) := Lib.hid (by obtain ⟨_, _, e9, _, h9, _⟩ := O6.out.at; injection e9 with e9 _ _; rw [e9]; exact h9)
  have HKE := Lib.hid hkE
  clear hkE EN
  -- nothing may be read: the answer
  have BAD : Hid ((∀ y : Mg, ¬ GG y) → ∀ W : World, Below w.heap.size w W → D (.returned (.tuple #[.agg (Mg.bare 0 0 0).cells.toArray, .int .i64 3])) W) := Lib.hid fun hno W hb => FIN.out (Mg.bare 0 0 0) 3 W (EN0.out W).1 (EN0.out W).2.1 (EN0.out W).2.2 hb (.inr ⟨rfl, .inr ⟨rfl, rfl, hno⟩⟩)
  by_cases hk0 : kE = 0
  case neg =>
    have hnn : (kE != 0) = true := by simpa using hk0
    have FB := Lib.hid (BAD.out (fun y hy => by
      obtain ⟨h1, _⟩ := (GM.out y).1 hy
      rcases OC.out with ⟨h2, _⟩ | ⟨h2, _⟩
      · rw [h2] at h1
        injection h1 with h1
        injection h1 with _ h1
        exact hk0 (HKE.out.2 h1)
      · rw [h2] at h1; cases h1))
    clear hk0 FIN GM BAD OC HKE
    go_wp2_with (first | refine wpList_pbuild (by rfl) _ rfl (Mg.bare 0 0 0).cells.toArray (by simp only [List.map_toArray, List.map_nil]; exact builtMg _) ?_ | refine wpList_gstore rfl _ _ rfl g2 rfl (Mg.bare 0 0 0).cells.toArray rfl _ _ K6.out (sizeMgA _) rfl (Mg.one' _) ?_)
    intro w9 h9 g9
    have B9 := Lib.hid (B6.out.trans (grown_below g9 B6.out.size l2))
    have H9 := Lib.hid h9
    clear h9 g9
    go_wp2
    exact bodyPost_ret (v := .tuple #[.agg (Mg.bare 0 0 0).cells.toArray, .int .i64 3]) (results_cell_two (p := 2) (q := 3) rfl _ w9 g2 _ _ (0, 0) _ rfl H9.out Tryz.underlying31 rfl (sizeMgA _) (.int .i64 3) rfl) rfl (FB.out w9 B9.out)
  have HSt : Hid (st = ([], 0)) := Lib.hid (HKE.out.1 hk0)
  have OX : Hid (O = some (x.v, ([], 0))) := Lib.hid (by
    rcases OC.out with ⟨h2, _⟩ | ⟨_, h2⟩
    · rw [h2, HSt.out]
    · rw [HSt.out] at h2; exact absurd rfl h2)
  subst hk0
  clear OC HKE HSt
  have CK := Lib.hid (wireCheck_is x w6 EA.out W6.out (HS.out.below B6.out))
  cases hM : mayM x with
  | false =>
    have hmE : mayE x = 1 := by unfold mayE; rw [if_neg (by rw [hM]; decide)]
    rw [hmE] at CK
    have FB := Lib.hid (BAD.out (fun y hy => by
      obtain ⟨h1, h2⟩ := (GM.out y).1 hy
      rw [OX.out] at h1
      injection h1 with h1
      injection h1 with h1 _
      rw [← mg_v_may h1, hM] at h2
      cases h2))
    clear hM hmE FIN GM BAD OX
    go_wp2_with (refine wpList_gloadG (by rfl) _ rfl g7 0 rfl _ WH.out _ Tryz.underlying31 rfl (sizeMg _) ?_)
    refine CK.out.mono ?_
    rintro e w8 ⟨rfl, hb8⟩
    have K8 := Lib.hid (K6.out.later hb8); have B8 := Lib.hid (thenBelow B6.out hb8)
    clear hb8 CK X6 K6 O6 W6 B6 EA R6
    go_wp2_with (first | refine wpList_pbuild (by rfl) _ rfl (Mg.bare 0 0 0).cells.toArray (by simp only [List.map_toArray, List.map_nil]; exact builtMg _) ?_ | refine wpList_gstore rfl _ _ rfl g2 rfl (Mg.bare 0 0 0).cells.toArray rfl _ _ K8.out (sizeMgA _) rfl (Mg.one' _) ?_)
    intro w9 h9 g9
    have B9 := Lib.hid (B8.out.trans (grown_below g9 B8.out.size l2))
    have H9 := Lib.hid h9
    clear h9 g9
    go_wp2
    exact bodyPost_ret (v := .tuple #[.agg (Mg.bare 0 0 0).cells.toArray, .int .i64 3]) (results_cell_two (p := 2) (q := 3) rfl _ w9 g2 _ _ (0, 0) _ rfl H9.out Tryz.underlying31 rfl (sizeMgA _) (.int .i64 3) rfl) rfl (FB.out w9 B9.out)
  | true =>
    have hmE : mayE x = 0 := by unfold mayE; rw [if_pos hM]
    rw [hmE] at CK
    have GX : Hid (GG x) := Lib.hid ((GM.out x).2 ⟨OX.out, hM⟩)
    clear hM hmE GM BAD OX
    go_wp2_with (refine wpList_gloadG (by rfl) _ rfl g7 0 rfl _ WH.out _ Tryz.underlying31 rfl (sizeMg _) ?_)
    refine CK.out.mono ?_
    rintro e w8 ⟨rfl, hb8⟩
    have X8 := Lib.hid (X6.out.later hb8); have K8 := Lib.hid (K6.out.later hb8); have O8 := Lib.hid (O6.out.later hb8); have W8 := Lib.hid (W6.out.below hb8); have B8 := Lib.hid (thenBelow B6.out hb8)
    have WH := Lib.hid X8.out.whole
    clear hb8 CK X6 K6 O6 W6 B6 EA R6
    go_wp2_with (first | refine wpList_gload rfl _ rfl g7 0 rfl _ WH.out _ Tryz.underlying31 rfl (sizeMg _) ?_ | refine wpList_gstore rfl _ _ rfl g2 rfl x.cells.toArray rfl _ _ K8.out (sizeMgA _) (by rw [mx_size, mx_size]) (Mg.one' _) ?_)
    intro w9 h9 g9
    have H9 := Lib.hid h9
    have O9 := Lib.hid (O8.out.off K8.out g9); have W9 := Lib.hid (wrs_off W8.out g9 K8.out.nostr)
    have B9 := Lib.hid (B8.out.trans (grown_below g9 B8.out.size l2))
    have FO := Lib.hid (FIN.out x 0 w9 (by obtain ⟨_, _, e9, _, h9, _⟩ := O9.out.at; injection e9 with e9 _ _; rw [e9]; exact h9) W9.out NY.out B9.out (.inr ⟨rfl, .inl ⟨rfl, GX.out⟩⟩))
    clear h9 g9 O9 W9 B9 O8 W8 K8 X8 FIN
    go_wp2
    exact bodyPost_ret (v := .tuple #[.agg x.cells.toArray, .int .i64 0]) (results_cell_two (p := 2) (q := 3) rfl _ w9 g2 _ _ (0, 0) _ rfl H9.out Tryz.underlying31 rfl (sizeMgA _) (.int .i64 0) rfl) rfl FO.out
end Go.Proofs.YtapmbankpbiglaaGreatDoor
/- The document's Same of any two messages. -/
namespace Go.Proofs.YtapmbankpbiglaaGreatDoor
open Go Go.RowKit
set_option linter.unusedVariables false
set_option maxRecDepth 1000000

set_option maxHeartbeats 16000000 in
theorem refSame14_is (m x : Mg) (w : World) (hE : EvsAt w m.ep m.E) (hE2 : EvsAt w x.ep x.E) (hL : WrsAt w m.sp m.L) (hL2 : WrsAt w x.sp x.L) (hn : m.E.length ≤ 2000) (hn2 : x.E.length ≤ 2000) (hg : ∀ y ∈ m.E, y.e.gone.length ≤ 1000) (hg2 : ∀ y ∈ x.E, y.e.gone.length ≤ 1000) (hl : m.L.length ≤ 10000) :
    Calls Tryz.prog 7 #[.agg m.cells.toArray, .agg x.cells.toArray] w (Tells w (m.Same x)) := by
  have SE : Hid (∀ V : World, Below w.heap.size w V → Calls Tryz.prog 25 #[.slice m.ep m.E.length m.ec, .slice x.ep x.E.length x.ec] V (Tells V (evs m.E = evs x.E))) := Lib.hid fun V hV => refSameX_is m.ep m.ec m.E x.ep x.ec x.E V (hE.below hV) (hE2.below hV) hn hn2 hg hg2
  have DS : Hid (∀ V : World, Below w.heap.size w V → Calls Tryz.prog 24 #[.agg (scs m.seen (.slice m.sp m.L.length m.sc)), .agg (scs x.seen (.slice x.sp x.L.length x.sc))] V (RetBool V (sameB m.seen x.seen m.L x.L))) := Lib.hid fun V hV => sameSA_is m.seen x.seen m.sp x.sp m.sc x.sc m.L x.L V (hL.below hV) (hL2.below hV) (by omega)
  obtain ⟨V4, q4⟩ : ∃ V, veq m.ack x.ack = V := ⟨_, rfl⟩
  obtain ⟨V5, q5⟩ : ∃ V, veq m.base x.base = V := ⟨_, rfl⟩
  obtain ⟨V6, q6⟩ : ∃ V, veq m.floor x.floor = V := ⟨_, rfl⟩
  have E1 : Hid (∀ U : World, (binOp .eql 25 (.agg (vf m.ack)) (.agg (vf x.ack))).run Tryz.prog U = .ok (.bool V4) U) := Lib.hid fun U => by rw [vecI.eql m.ack x.ack U, q4]
  have E2 : Hid (∀ U : World, (binOp .eql 25 (.agg (vf m.base)) (.agg (vf x.base))).run Tryz.prog U = .ok (.bool V5) U) := Lib.hid fun U => by rw [vecI.eql m.base x.base U, q5]
  have E3 : Hid (∀ U : World, (binOp .eql 25 (.agg (vf m.floor)) (.agg (vf x.floor))).run Tryz.prog U = .ok (.bool V6) U) := Lib.hid fun U => by rw [vecI.eql m.floor x.floor U, q6]
  have Q4 := Lib.hid q4; have Q5 := Lib.hid q5; have Q6 := Lib.hid q6
  clear q4 q5 q6 hE hE2 hL hL2 hg hg2
  go_enter Tryz.func7, Tryz.ntmps7
  go_wp2_with (refine wpList_gbox rfl _ rfl m.cells.toArray rfl ?_)
  intro g2 w1 l2 h2 hb1
  have X1 : Hid (Mx w1 g2 m) := Lib.hid h2
  have B1 := Lib.hid hb1
  clear h2 hb1
  go_wp2_with (refine wpList_gbox rfl _ rfl x.cells.toArray rfl ?_)
  intro g3 w2 l3 h3 hb2
  have X2 := Lib.hid (X1.out.later hb2); have Y2 : Hid (Mx w2 g3 x) := Lib.hid h3
  have B2 := Lib.hid (thenBelow B1.out hb2)
  clear h3 hb2 X1 B1
  have a1 := X2.out.parts.kind; have a2 := X2.out.parts.src; have a3 := X2.out.parts.dst
  have b1 := Y2.out.parts.kind; have b2 := Y2.out.parts.src; have b3 := Y2.out.parts.dst
  have a4 := Lib.hid X2.out.parts.ack; have b4 := Lib.hid Y2.out.parts.ack
  have a5 := Lib.hid X2.out.parts.base; have b5 := Lib.hid Y2.out.parts.base
  have a6 := Lib.hid X2.out.parts.floor; have b6 := Lib.hid Y2.out.parts.floor
  have a7 := X2.out.parts.evs; have b7 := Y2.out.parts.evs
  have E1' := E1.out; have E2' := E2.out; have E3' := E3.out
  by_cases h1 : ¬ m.kind = x.kind
  · have e1 : (m.kind == x.kind) = false := beq_eq_false_iff_ne.2 h1
    go_wp2
    go_ret
    exact ⟨false, rfl, ⟨(fun h => by cases h), fun h => absurd h.kind h1⟩, B2.out⟩
  have h1 : m.kind = x.kind := Decidable.not_not.1 h1
  have e1 : (m.kind == x.kind) = true := beq_iff_eq.2 h1
  by_cases h2 : ¬ m.src = x.src
  · have e2 : (m.src == x.src) = false := beq_eq_false_iff_ne.2 h2
    go_wp2
    go_ret
    exact ⟨false, rfl, ⟨(fun h => by cases h), fun h => absurd h.src h2⟩, B2.out⟩
  have h2 : m.src = x.src := Decidable.not_not.1 h2
  have e2 : (m.src == x.src) = true := beq_iff_eq.2 h2
  by_cases h3 : ¬ m.dst = x.dst
  · have e3 : (m.dst == x.dst) = false := beq_eq_false_iff_ne.2 h3
    go_wp2
    go_ret
    exact ⟨false, rfl, ⟨(fun h => by cases h), fun h => absurd h.dst h3⟩, B2.out⟩
  have h3 : m.dst = x.dst := Decidable.not_not.1 h3
  have e3 : (m.dst == x.dst) = true := beq_iff_eq.2 h3
  have H123 := Lib.hid (And.intro h1 (And.intro h2 h3))
  clear h1 h2 h3
  cases V4 with
  | false =>
    go_wp2_with (first
      | refine wpList_gloadG (by rfl) _ rfl g2 3 rfl _ a4.out _ Tryz.underlying25 rfl (sizeVcl m.ack) ?_
      | refine wpList_gloadG (by rfl) _ rfl g3 3 rfl _ b4.out _ Tryz.underlying25 rfl (sizeVcl x.ack) ?_
      | refine wpList_gloadG (by rfl) _ rfl g2 67 rfl _ a5.out _ Tryz.underlying25 rfl (sizeVcl m.base) ?_
      | refine wpList_gloadG (by rfl) _ rfl g3 67 rfl _ b5.out _ Tryz.underlying25 rfl (sizeVcl x.base) ?_
      | refine wpList_gloadG (by rfl) _ rfl g2 197 rfl _ a6.out _ Tryz.underlying25 rfl (sizeVcl m.floor) ?_
      | refine wpList_gloadG (by rfl) _ rfl g3 197 rfl _ b6.out _ Tryz.underlying25 rfl (sizeVcl x.floor) ?_)
    go_ret
    exact ⟨false, rfl, ⟨(fun h => by cases h), fun h => by have := h.ack; rw [Q4.out] at this; cases this⟩, B2.out⟩
  | true =>
  cases V5 with
  | false =>
    go_wp2_with (first
      | refine wpList_gloadG (by rfl) _ rfl g2 3 rfl _ a4.out _ Tryz.underlying25 rfl (sizeVcl m.ack) ?_
      | refine wpList_gloadG (by rfl) _ rfl g3 3 rfl _ b4.out _ Tryz.underlying25 rfl (sizeVcl x.ack) ?_
      | refine wpList_gloadG (by rfl) _ rfl g2 67 rfl _ a5.out _ Tryz.underlying25 rfl (sizeVcl m.base) ?_
      | refine wpList_gloadG (by rfl) _ rfl g3 67 rfl _ b5.out _ Tryz.underlying25 rfl (sizeVcl x.base) ?_
      | refine wpList_gloadG (by rfl) _ rfl g2 197 rfl _ a6.out _ Tryz.underlying25 rfl (sizeVcl m.floor) ?_
      | refine wpList_gloadG (by rfl) _ rfl g3 197 rfl _ b6.out _ Tryz.underlying25 rfl (sizeVcl x.floor) ?_)
    go_ret
    exact ⟨false, rfl, ⟨(fun h => by cases h), fun h => by have := h.base; rw [Q5.out] at this; cases this⟩, B2.out⟩
  | true =>
  cases V6 with
  | false =>
    go_wp2_with (first
      | refine wpList_gloadG (by rfl) _ rfl g2 3 rfl _ a4.out _ Tryz.underlying25 rfl (sizeVcl m.ack) ?_
      | refine wpList_gloadG (by rfl) _ rfl g3 3 rfl _ b4.out _ Tryz.underlying25 rfl (sizeVcl x.ack) ?_
      | refine wpList_gloadG (by rfl) _ rfl g2 67 rfl _ a5.out _ Tryz.underlying25 rfl (sizeVcl m.base) ?_
      | refine wpList_gloadG (by rfl) _ rfl g3 67 rfl _ b5.out _ Tryz.underlying25 rfl (sizeVcl x.base) ?_
      | refine wpList_gloadG (by rfl) _ rfl g2 197 rfl _ a6.out _ Tryz.underlying25 rfl (sizeVcl m.floor) ?_
      | refine wpList_gloadG (by rfl) _ rfl g3 197 rfl _ b6.out _ Tryz.underlying25 rfl (sizeVcl x.floor) ?_)
    go_ret
    exact ⟨false, rfl, ⟨(fun h => by cases h), fun h => by have := h.floor; rw [Q6.out] at this; cases this⟩, B2.out⟩
  | true =>
  have a8 : Hid (w2.rangeAt g2 132 (scs m.seen (.slice m.sp m.L.length m.sc)).toList) := Lib.hid X2.out.parts.st
  have b8 : Hid (w2.rangeAt g3 132 (scs x.seen (.slice x.sp x.L.length x.sc)).toList) := Lib.hid Y2.out.parts.st
  go_wp2_with (first
    | refine wpList_gloadG (by rfl) _ rfl g2 3 rfl _ a4.out _ Tryz.underlying25 rfl (sizeVcl m.ack) ?_
    | refine wpList_gloadG (by rfl) _ rfl g3 3 rfl _ b4.out _ Tryz.underlying25 rfl (sizeVcl x.ack) ?_
    | refine wpList_gloadG (by rfl) _ rfl g2 67 rfl _ a5.out _ Tryz.underlying25 rfl (sizeVcl m.base) ?_
    | refine wpList_gloadG (by rfl) _ rfl g3 67 rfl _ b5.out _ Tryz.underlying25 rfl (sizeVcl x.base) ?_
    | refine wpList_gloadG (by rfl) _ rfl g2 197 rfl _ a6.out _ Tryz.underlying25 rfl (sizeVcl m.floor) ?_
    | refine wpList_gloadG (by rfl) _ rfl g3 197 rfl _ b6.out _ Tryz.underlying25 rfl (sizeVcl x.floor) ?_
    | refine wpList_gloadG (by rfl) _ rfl g2 132 rfl _ a8.out _ Tryz.underlying29 rfl (sizeStl _ _) ?_
    | refine wpList_gloadG (by rfl) _ rfl g3 132 rfl _ b8.out _ Tryz.underlying29 rfl (sizeStl _ _) ?_)
  refine (DS.out w2 B2.out).mono ?_
  rintro e w3 ⟨rfl, hb3⟩
  have X3 := Lib.hid (X2.out.later hb3); have Y3 := Lib.hid (Y2.out.later hb3); have B3 := Lib.hid (thenBelow B2.out hb3)
  obtain ⟨Z, hZ⟩ : ∃ Z, sameB m.seen x.seen m.L x.L = Z := ⟨_, rfl⟩
  have HZ := Lib.hid hZ
  rw [hZ]
  have a9 := X3.out.parts.evs; have b9 := Y3.out.parts.evs
  clear hb3 hZ X2 Y2 B2 a1 a2 a3 b1 b2 b3 a4 b4 a5 b5 a6 b6 a7 b7 a8 b8 E1' E2' E3' E1 E2 E3 DS e1 e2 e3
  cases Z with
  | false =>
    clear a9 b9
    go_wp2
    go_ret
    exact ⟨false, rfl, ⟨(fun h => by cases h), fun h => by have := h.st; rw [HZ.out] at this; cases this⟩, B3.out⟩
  | true =>
  go_wp2_with fail
  refine (SE.out w3 B3.out).mono ?_
  rintro e w4 ⟨b, rfl, hb, hb4⟩
  have B4 := Lib.hid (thenBelow B3.out hb4)
  have HB := Lib.hid hb
  clear hb4 hb SE a9 b9
  go_wp2
  go_ret
  exact ⟨b, rfl, ⟨fun h => ⟨H123.out.1, H123.out.2.1, H123.out.2.2, Q4.out, Q5.out, Q6.out, HB.out.1 h, HZ.out⟩, fun h => HB.out.2 h.evs⟩, B4.out⟩
end Go.Proofs.YtapmbankpbiglaaGreatDoor
