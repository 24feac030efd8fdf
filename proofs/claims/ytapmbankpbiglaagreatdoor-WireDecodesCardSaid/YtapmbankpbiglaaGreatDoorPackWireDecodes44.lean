/- The statement WireDecodes, proved for every input that its row reads: part 44 of 54. -/
import Derived.Test.YtapmbankpbiglaaGreatDoorPackWireDecodes43
import Derived.Test.YtapmbankpbiglaaGreatDoorPackWireDecodes39
/- The document's ReadState of any bytes. -/
namespace Go.Proofs.YtapmbankpbiglaaGreatDoor
open Go Go.RowKit
set_option linter.unusedVariables false
set_option maxRecDepth 1000000

section
variable {P : Program} {ops : Array Oper} {rest : List Oper} {o : Oper} {a : Act} {w : World} {Q : Exit → Act → World → Prop}
theorem wpList_skipTo (hg : o.guard = none) (w' : World) (hrun : (execOp a.eval o).run P w = .ok .skip w') (h : ∀ V, Hid (V = w') → wpList P ops Q rest (a.put o.dst undef) V) : wpList P ops Q (o :: rest) a w := by
  refine wpList_plain hg fun K hK => ?_
  unfold Oper.wp
  rw [hrun, Oper.upon_skip]
  exact hK _ _ (h _ (Lib.hid rfl))
theorem wpList_storeI (hg : o.guard = none) (t : TypeId) (x y : Operand) (ho : o.op = .store t x y) (p : Addr) (hx : a.eval x = .pointer (some p)) (k : IntKind) (v : Int) (hy : a.eval y = .int k v) (hsz : ∀ w : World, (sizeOf t).run P w = .ok 1 w) (old : Value) (hc : w.cell? p = some old) (hf : w.frozen? p = false)
    (h : ∀ V, Hid (V = w.setCell p (.int k v)) → wpList P ops Q rest (a.put o.dst undef) V) : wpList P ops Q (o :: rest) a w := wpList_skipTo hg _ (exec_storeI1 t x y ho hsz p k v old hx hy hc hf) h
theorem exec_storeStr (t : TypeId) (x y : Operand) (ho : o.op = .store t x y) (hsz : ∀ w : World, (sizeOf t).run P w = .ok 1 w) (p : Addr) (v : ByteArray) (old : Value) (hx : a.eval x = .pointer (some p)) (hy : a.eval y = .string v)
    (hc : w.cell? p = some old) (hf : w.frozen? p = false) : (execOp a.eval o).run P w = .ok .skip (w.setCell p (.string v)) := by
  unfold execOp
  simp only [ho, hx, hy]
  have hs := hsz w
  go_simp
theorem wpList_storeStr (hg : o.guard = none) (t : TypeId) (x y : Operand) (ho : o.op = .store t x y) (p : Addr) (hx : a.eval x = .pointer (some p)) (v : ByteArray) (hy : a.eval y = .string v) (hsz : ∀ w : World, (sizeOf t).run P w = .ok 1 w) (old : Value) (hc : w.cell? p = some old) (hf : w.frozen? p = false)
    (h : ∀ V, Hid (V = w.setCell p (.string v)) → wpList P ops Q rest (a.put o.dst undef) V) : wpList P ops Q (o :: rest) a w := wpList_skipTo hg _ (exec_storeStr t x y ho hsz p v old hx hy hc hf) h
theorem wpList_storeSl (hg : o.guard = none) (t : TypeId) (x y : Operand) (ho : o.op = .store t x y) (p : Addr) (hx : a.eval x = .pointer (some p)) (q : Option Addr) (n c : Nat) (hy : a.eval y = .slice q n c) (hsz : ∀ w : World, (sizeOf t).run P w = .ok 1 w) (old : Value) (hc : w.cell? p = some old) (hf : w.frozen? p = false)
    (h : ∀ V, Hid (V = w.setCell p (.slice q n c)) → wpList P ops Q rest (a.put o.dst undef) V) : wpList P ops Q (o :: rest) a w := wpList_skipTo hg _ (exec_storeV t x y ho hsz p q n c old hx hy hc hf) h
end
/-- a write in a block of its own -/
def Wx (w : World) (g : Nat) (y : Wr) : Prop := w.heap[g]? = some (.cells y.cells.toArray 83 (0, 0))
theorem Wx.lt {w : World} {g : Nat} {y : Wr} (h : Wx w g y) : g < w.heap.size := (Array.getElem?_eq_some_iff.1 h).1
theorem Wx.kept {w w' : World} {g : Nat} {y : Wr} (h : Wx w g y) {A : Nat} (hg : w.grownBy w' (some A)) (hne : g ≠ A) : Wx w' g y := (hg.block g h.lt (by simpa using hne)).trans h
theorem Wx.at {w : World} {g : Nat} {y : Wr} (h : Wx w g y) (i : Nat) {v : Value} (hv : y.cells[i]? = some v) : w.cell? ⟨g, i, none⟩ = some v := (cell_of_row w g i _ _ _ h).trans (by rw [List.getElem?_toArray]; exact hv)
theorem Wx.free {w : World} {g : Nat} {y : Wr} (h : Wx w g y) (i : Nat) : w.frozen? ⟨g, i, none⟩ = false := frozen_of_row w g i _ _ h
theorem Wx.set {w : World} {g i : Nat} {y z : Wr} {v : Value} (h : Wx w g y) (hz : y.cells.toArray.setIfInBounds i v = z.cells.toArray) : Wx (w.setCell ⟨g, i, none⟩ v) g z := by
  unfold Wx
  rw [block_setCell (j := i) h v, hz]
set_option maxHeartbeats 4000000 in
theorem refReadDot_any (A lo : Nat) (s : Cod.S) (w : World) (h : RRd w A lo s) (hl : s.1.length ≤ 1000000) :
    Calls Tryz.prog 43 #[.pointer (some ⟨A, 0, none⟩)] w (GotR w A lo (.agg (dcs (Cod.dotS s).1.1 (Cod.dotS s).1.2)) (Cod.dotS s).2) := by
  have HA := Lib.hid h.lt
  have H := Lib.hid h
  have hA := h.lt
  clear h
  have n1 := Cod.numS_len 63 s
  obtain ⟨N1v, hN1⟩ : ∃ X, Cod.numS 63 s = X := ⟨_, rfl⟩
  rw [hN1] at n1
  obtain ⟨N2v, hN2⟩ : ∃ X, Cod.numS 1073741824 N1v.2 = X := ⟨_, rfl⟩
  have hD : Cod.dotS s = (((N1v.1 : Int), (N2v.1 : Int)), N2v.2) := by unfold Cod.dotS; rw [hN1, hN2]
  rw [hD]
  have HN1 := Lib.hid hN1; have HN2 := Lib.hid hN2
  clear hN1 hN2 hD
  obtain ⟨a1, t1⟩ := N1v
  obtain ⟨a2, t2⟩ := N2v
  simp only at n1 HN2 ⊢
  have BD : ∀ V : World, (Instr.build 76 #[(0, .int .i64 (a1 : Int))]).run Tryz.prog V = .ok (.agg (dcs (a1 : Int) 0)) V := fun V => run_build V _ _ _ (by kernel_rfl)
  have SI : ∀ V : World, (sizeOf 3).run Tryz.prog V = .ok 1 V := fun V => by kernel_rfl
  have SZD : (Tryz.prog.info? 76).map (·.size) = some [Value.int .i64 (a1 : Int), .int .i64 (a2 : Int)].length := by kernel_rfl
  go_enter Tryz.func43, Tryz.ntmps43
  go_wp2_with (refine wpList_galloc _ zeroDtC rfl rfl ?_)
  intro g1 w1 lg1 h1 hb1
  have K1 := Lib.hid h1
  have G1 := Lib.hid (grown_less (R := some A) hb1)
  have C1 := Lib.hid (refNum_all A lo 63 s w1 (H.out.below hb1) (by omega) (by omega))
  rw [HN1.out] at C1
  clear hb1 h1
  go_wp2_with fail
  refine C1.out.mono ?_
  rintro e w2 ⟨rfl, hr, hg⟩
  have G2 := Lib.hid (grown_trans G1.out hg)
  have K2 := Lib.hid (grown_step G1.out hg HA.out lg1 K1.out)
  have R2 := Lib.hid hr
  clear hr hg C1 K1
  go_wp2_with (first | refine wpList_pbuild (by rfl) _ rfl (dcs (a1 : Int) 0) (by simp only [List.map_toArray, List.map_cons, List.map_nil]; exact BD _) ?_ | refine wpList_galloc _ zeroDtC rfl rfl ?_)
  intro g3 w4 lg3 h4 hb4
  have G4 := Lib.hid (grown_on G2.out (hb4.mono G2.out.size))
  have K4 := Lib.hid ((hb4.block _ (Array.getElem?_eq_some_iff.1 K2.out).1).trans K2.out)
  have R4 := Lib.hid (R2.out.below hb4)
  have hne : g1 ≠ g3 := by have := (Array.getElem?_eq_some_iff.1 K2.out).1; omega
  have hlw : w.heap.size ≤ g3 := Nat.le_trans G2.out.size lg3
  have H4 := Lib.hid h4
  clear h4 hb4 R2 K2
  go_wp2_with (refine wpList_gstore rfl _ _ rfl g3 rfl (dcs (a1 : Int) 0) rfl _ _ H4.out (sizeDt _ _) rfl (dcs_one _ _) ?_)
  intro w5 h5 g5
  have b5 := grown_below g5 G4.out.size hlw
  have R5 := Lib.hid (R4.out.under HA.out b5)
  have G5 := Lib.hid (grown_onE G4.out g5 hlw)
  have K5 := Lib.hid ((g5.block _ (Array.getElem?_eq_some_iff.1 K4.out).1 (by simpa using hne)).trans K4.out)
  have D5 : Hid (w5.heap[g3]? = some (.cells (dcs (a1 : Int) 0) 76 (0, 0))) := Lib.hid h5
  have C5 := Lib.hid (refNum_all A lo 1073741824 t1 w5 R5.out (by omega) (by omega))
  rw [HN2.out] at C5
  clear h5 g5 b5 H4 K4 R4 BD
  go_wp2_with fail
  refine C5.out.mono ?_
  rintro e w6 ⟨rfl, hr, hg⟩
  have G6 := Lib.hid (grown_trans G5.out hg)
  have K6 := Lib.hid (grown_step G5.out hg HA.out lg1 K5.out)
  have D6 := Lib.hid (grown_step G5.out hg HA.out hlw D5.out)
  have R6 := Lib.hid hr
  clear hr hg C5 K5 D5 R5
  go_wp2_with (refine wpList_storeI rfl _ _ _ rfl ⟨g3, 1, none⟩ rfl .i64 (a2 : Int) rfl SI (.int .i64 0) ((cell_of_row _ g3 1 _ _ _ D6.out).trans rfl) (frozen_of_row _ g3 1 _ _ D6.out) ?_)
  intro w7 hw7
  have g7 := grown_cell w6 g3 1 (.int .i64 (a2 : Int))
  have b7 := grown_below g7 G6.out.size hlw
  have R7 := Lib.hid (R6.out.under HA.out b7)
  have G7 := Lib.hid (grown_onE G6.out g7 hlw)
  have K7 := Lib.hid ((g7.block _ (Array.getElem?_eq_some_iff.1 K6.out).1 (by simpa using hne)).trans K6.out)
  have V7 : Hid ((w6.setCell ⟨g3, 1, none⟩ (.int .i64 (a2 : Int))).rangeAt g3 0 [.int .i64 (a1 : Int), .int .i64 (a2 : Int)]) := Lib.hid (range_of_block ((block_setCell (j := 1) D6.out (.int .i64 (a2 : Int))).trans rfl))
  rw [← hw7.out] at R7 G7 K7 V7
  clear g7 b7 D6 K6 R6 hw7
  go_wp2_with (first | refine wpList_gload rfl _ rfl g3 0 rfl _ V7.out _ Tryz.underlying76 rfl SZD ?_ | refine wpList_gstore rfl _ _ rfl g1 rfl (dcs (a1 : Int) (a2 : Int)) rfl _ _ K7.out (sizeDt _ _) rfl (dcs_one _ _) ?_)
  intro w8 h8 g8
  have b8 := grown_below g8 G7.out.size lg1
  have R8 := Lib.hid (R7.out.under HA.out b8)
  have G8 := Lib.hid (grown_onE G7.out g8 lg1)
  have H8 := Lib.hid h8
  clear h8 g8 b8
  go_wp2
  exact bodyPost_ret (v := .agg (dcs (a1 : Int) (a2 : Int))) (results_cell_row rfl _ w8 g1 _ _ (0, 0) _ rfl H8.out Tryz.underlying76 rfl (sizeDt _ _)) rfl ⟨rfl, R8.out, G8.out⟩
theorem Cod.wrS_fst (s : Cod.S) : (Cod.wrS s).1 = ⟨(Cod.dotS s).1.1, (Cod.dotS s).1.2, (Cod.timeS s).1, (Cod.docS s).1, (Cod.fldS s).1, (Cod.txtS s).1⟩ := by simp only [Cod.wrS]
def GotStR (w : World) (A lo : Nat) (F : Nat → Int) (L : List Wr) (s : Cod.S) (e : Ending) (w' : World) : Prop := ∃ p c, e = .returned (.agg (scs F (.slice p L.length c))) ∧ WrsAt w' p L ∧ RRd w' A lo s ∧ w.grownBy w' (some A)
set_option maxHeartbeats 8000000 in
theorem refReadState_any (A lo : Nat) (s : Cod.S) (w : World) (h : RRd w A lo s) (hl : s.1.length ≤ 1000000) :
    Calls Tryz.prog 20 #[.pointer (some ⟨A, 0, none⟩)] w (GotStR w A lo (stV s) (stL s) (stS s)) := by
  have HA := Lib.hid h.lt
  have hA := h.lt
  have V0 : Hid (∀ V : World, RRd V A lo s → Calls Tryz.prog 18 #[.pointer (some ⟨A, 0, none⟩)] V fun e w' => e = .returned (.agg (vf (outV s))) ∧ RRd w' A lo (outS s) ∧ V.grownBy w' (some A)) := Lib.hid fun V hV => refVread_is A lo s V hV (by omega)
  have N0 : Hid (∀ V : World, RRd V A lo (outS s) → Calls Tryz.prog 17 #[.pointer (some ⟨A, 0, none⟩), .int .i64 4096] V (GotR V A lo (.int .i64 (cntS s).1) (cntS s).2)) := Lib.hid fun V hV => by unfold cntS; exact refNum_all A lo _ _ V hV (Nat.le_trans (outS_len s) (by omega)) (by omega)
  have n4 := cnt_le s
  have n1 : (cntS s).2.1.length ≤ 1000000 := Nat.le_trans (cnt_len s) hl
  obtain ⟨F, hF⟩ : ∃ X, outV s = X := ⟨_, rfl⟩
  obtain ⟨O, hO⟩ : ∃ X, outS s = X := ⟨_, rfl⟩
  obtain ⟨C, hC⟩ : ∃ X, cntS s = X := ⟨_, rfl⟩
  obtain ⟨RF, hRF⟩ : ∃ X, stV s = X := ⟨_, rfl⟩
  obtain ⟨RL, hRL⟩ : ∃ X, stL s = X := ⟨_, rfl⟩
  obtain ⟨RS, hRS⟩ : ∃ X, stS s = X := ⟨_, rfl⟩
  have YES : Hid ((Cod.wrsS C.1 C.2).2.2 = 0 → canB F (Cod.wrsS C.1 C.2).1 = true → RF = F ∧ RL = (Cod.wrsS C.1 C.2).1 ∧ RS = (Cod.wrsS C.1 C.2).2) := Lib.hid fun h1 h2 => by
    have hk : okS s = true := by unfold okS rdW; rw [hC, hF, h1, h2]; simp
    rw [← hRF, ← hRL, ← hRS]
    unfold stV stL stS
    rw [if_pos hk, if_pos hk, if_pos hk]
    unfold rdW
    rw [hC, hF]
    exact ⟨rfl, rfl, rfl⟩
  have NO : Hid (((Cod.wrsS C.1 C.2).2.2 = 0 → canB F (Cod.wrsS C.1 C.2).1 = false) → RF = (fun _ => 0) ∧ RL = [] ∧ RS = Cod.failS 3 (Cod.wrsS C.1 C.2).2) := Lib.hid fun h1 => by
    have hk : ¬ okS s = true := by
      unfold okS rdW
      rw [hC, hF]
      intro h2
      simp only [Bool.and_eq_true, decide_eq_true_eq] at h2
      rw [h1 h2.1] at h2
      cases h2.2
    rw [← hRF, ← hRL, ← hRS]
    unfold stV stL stS
    rw [if_neg hk, if_neg hk, if_neg hk]
    unfold rdW
    rw [hC]
    exact ⟨rfl, rfl, rfl⟩
  rw [hF, hO] at V0
  rw [hO, hC] at N0
  rw [hC] at n4 n1
  rw [hRF, hRL, hRS]
  have H := Lib.hid h
  clear h hF hO hC hRF hRL hRS
  obtain ⟨N, S1⟩ := C
  simp only at N0 n4 n1 YES NO
  have N4 : Hid (N ≤ 4096) := Lib.hid n4
  have SI : ∀ V : World, (sizeOf 3).run Tryz.prog V = .ok 1 V := fun V => by kernel_rfl
  have SS : ∀ V : World, (sizeOf 9).run Tryz.prog V = .ok 1 V := fun V => by kernel_rfl
  have SL : ∀ V : World, (sizeOf 27).run Tryz.prog V = .ok 1 V := fun V => by kernel_rfl
  have BW : ∀ (r n : Int) (V : World), (Instr.build 83 #[(0, .agg (dcs r n))]).run Tryz.prog V = .ok (.agg (Wr.cells ⟨r, n, 0, ByteArray.empty, 0, ByteArray.empty⟩).toArray) V := fun r n V => run_build V _ _ _ (by kernel_rfl)
  have HSI := Lib.hid SI; have HSS := Lib.hid SS; have HSL := Lib.hid SL; have HBW := Lib.hid BW
  clear SI SS SL BW
  go_enter Tryz.func20, Tryz.ntmps20
  go_wp2_with (refine wpList_galloc _ zeroSt rfl rfl ?_)
  intro g2 w1 l2 h2 hb1
  have K1 : Hid (Sx w1 g2 (fun _ => 0) (.slice none 0 0)) := Lib.hid h2
  have V2 := Lib.hid (V0.out w1 (H.out.below hb1))
  have G1 := Lib.hid (grown_less (R := some A) hb1)
  clear hb1 h2 V0
  go_wp2_with fail
  refine V2.out.mono ?_
  rintro e w2 ⟨rfl, hr, hg⟩
  have G2 := Lib.hid (grown_trans G1.out hg)
  have K2 : Hid (Sx w2 g2 (fun _ => 0) (.slice none 0 0)) := Lib.hid (grown_step G1.out hg HA.out l2 K1.out)
  have R2 := Lib.hid hr
  clear hr hg V2 K1
  go_wp2_with (first | refine wpList_pbuild (by rfl) _ rfl (scs F (.slice none 0 0)) (by simp only [List.map_toArray, List.map_cons, List.map_nil]; exact builtSt1 F _) ?_ | refine wpList_galloc _ zeroSt rfl rfl ?_)
  intro g3 w8 l8 h8 hb8
  have hl3 : w.heap.size ≤ g3 := Nat.le_trans G2.out.size l8
  have G8 := Lib.hid (grown_on G2.out (hb8.mono G2.out.size))
  have K8 : Hid (Sx w8 g2 (fun _ => 0) (.slice none 0 0)) := Lib.hid (K2.out.later hb8)
  have R8 := Lib.hid (R2.out.below hb8)
  have h23 : g2 ≠ g3 := by have := K2.out.lt; omega
  have H8 := Lib.hid h8
  clear hb8 h8 R2 K2 l8
  go_wp2_with (refine wpList_gstore rfl _ _ rfl g3 rfl (scs F (.slice none 0 0)) rfl _ _ H8.out (sizeSt _ _) (by rw [scs_size, scs_size]) (scs_one F rfl) ?_)
  intro w9 h9 g9
  have B9 : Below w.heap.size w8 w9 := grown_below g9 G8.out.size hl3
  have G9 := Lib.hid (grown_onE G8.out g9 hl3)
  have K9 : Hid (Sx w9 g2 (fun _ => 0) (.slice none 0 0)) := Lib.hid ((g9.block _ K8.out.lt (by simpa using h23)).trans K8.out)
  have R9 := Lib.hid (R8.out.under HA.out B9)
  have H9 : Hid (Sx w9 g3 F (.slice none 0 0)) := Lib.hid h9
  clear h9 g9 B9 H8 K8 R8
  have N9 := Lib.hid (N0.out w9 R9.out)
  obtain ⟨AG, hAG⟩ : ∃ v, Value.agg (scs F (.slice none 0 0)) = v := ⟨_, rfl⟩
  rw [hAG]
  clear hAG N0
  go_wp2_with fail
  refine N9.out.mono ?_
  rintro e w10 ⟨rfl, hr, hg⟩
  have G10 := Lib.hid (grown_trans G9.out hg)
  have K10 : Hid (Sx w10 g2 (fun _ => 0) (.slice none 0 0)) := Lib.hid (grown_step G9.out hg HA.out l2 K9.out)
  have H10 : Hid (Sx w10 g3 F (.slice none 0 0)) := Lib.hid (grown_step G9.out hg HA.out hl3 H9.out)
  have R10 := Lib.hid hr
  clear hr hg N9 K9 H9 R9
  go_wp2
  go_loopw [12] (fun i wr => ∃ (j : Nat) (u : Value) (ys : List Wr) (st : Cod.S), j ≤ N ∧ i = .int .i64 j ∧ ys.length = j ∧ Hid (st = (Cod.wrsS j S1).2) ∧ Hid (ys = (Cod.wrsS j S1).1) ∧ Hid (j = 0 ∨ st.2 = 0) ∧ Sx wr g3 F u ∧ wr.ownsRow w.heap.size 83 6 u j (wcl ys) ∧ RRd wr A lo st ∧ w.grownBy wr (some A) ∧ Sx wr g2 (fun _ => 0) (.slice none 0 0)) (fun i _ => N - (intOf i).toNat)
  case atStart => exact ⟨0, _, [], S1, Nat.zero_le _, rfl, rfl, Lib.hid (by simp only [Cod.wrsS]), Lib.hid (by simp only [Cod.wrsS]), Lib.hid (.inl rfl), H10.out, World.ownsRow_nil _ _ _ _, R10.out, G10.out, K10.out⟩
  case round =>
    clear H10 R10 G10 K10
    obtain ⟨j, u, ys, st, hj, rfl, hys, HST, HYS, HZ, hh, hown, hrd, hgr, hk⟩ := hrel
    have H0 := Lib.hid hh; have OW := Lib.hid hown; have RD := Lib.hid hrd; have GR := Lib.hid hgr; have KK := Lib.hid hk
    have HLen := Lib.hid hys
    clear hh hown hrd hgr hk hys
    by_cases hjk : j < N
    · have hjk' : (j : Int) < N := by omega
      have nT : st.1.length ≤ 1000000 := by
        have := Cod.wrsS_len j S1
        rw [HST.out]; omega
      have n1 := Cod.dotS_len st; have n2 := Cod.timeS_len st; have n3 := Cod.docS_len st; have n4' := Cod.fldS_len st
      have C1 : Hid (∀ V : World, RRd V A lo st → Calls Tryz.prog 43 #[.pointer (some ⟨A, 0, none⟩)] V (GotR V A lo (.agg (dcs (Cod.dotS st).1.1 (Cod.dotS st).1.2)) (Cod.dotS st).2)) := Lib.hid fun V hV => refReadDot_any A lo st V hV nT
      have C2 : Hid (∀ V : World, RRd V A lo (Cod.dotS st).2 → Calls Tryz.prog 17 #[.pointer (some ⟨A, 0, none⟩), .int .i64 1099511627776] V (GotR V A lo (.int .i64 (Cod.timeS st).1) (Cod.timeS st).2)) := Lib.hid fun V hV => by unfold Cod.timeS; exact refNum_all A lo _ _ V hV (by omega) (by omega)
      have C3 : Hid (∀ V : World, RRd V A lo (Cod.timeS st).2 → Calls Tryz.prog 44 #[.pointer (some ⟨A, 0, none⟩), .int .i64 12] V (GotR V A lo (.string (Cod.docS st).1) (Cod.docS st).2)) := Lib.hid fun V hV => by unfold Cod.docS; exact refText_all A lo _ _ V hV (by omega) (by omega)
      have C4 : Hid (∀ V : World, RRd V A lo (Cod.docS st).2 → Calls Tryz.prog 17 #[.pointer (some ⟨A, 0, none⟩), .int .i64 4] V (GotR V A lo (.int .i64 (Cod.fldS st).1) (Cod.fldS st).2)) := Lib.hid fun V hV => by unfold Cod.fldS; exact refNum_all A lo _ _ V hV (by omega) (by omega)
      have C5 : Hid (∀ V : World, RRd V A lo (Cod.fldS st).2 → Calls Tryz.prog 44 #[.pointer (some ⟨A, 0, none⟩), .int .i64 160] V (GotR V A lo (.string (Cod.txtS st).1) (Cod.txtS st).2)) := Lib.hid fun V hV => by unfold Cod.txtS; exact refText_all A lo _ _ V hV (by omega) (by omega)
      have ST2 : Hid ((Cod.txtS st).2 = (Cod.wrsS (j + 1) S1).2) := Lib.hid (by rw [(Cod.wrsS_step j S1).1, ← HST.out, Cod.wrS_eq])
      have YS2 : Hid (ys ++ [⟨(Cod.dotS st).1.1, (Cod.dotS st).1.2, ((Cod.timeS st).1 : Int), (Cod.docS st).1, ((Cod.fldS st).1 : Int), (Cod.txtS st).1⟩] = (Cod.wrsS (j + 1) S1).1) := Lib.hid (by
        rw [(Cod.wrsS_step j S1).2, ← HST.out, ← HYS.out, Cod.wrS_fst])
      clear n1 n2 n3 n4' nT
      generalize Cod.dotS st = D1 at C1 C2 YS2
      generalize Cod.timeS st = D2 at C2 C3 YS2
      generalize Cod.docS st = D3 at C3 C4 YS2
      generalize Cod.fldS st = D4 at C4 C5 YS2
      generalize Cod.txtS st = D5 at C5 YS2 ST2
      obtain ⟨⟨r, n⟩, t1⟩ := D1
      obtain ⟨t, t2⟩ := D2
      obtain ⟨d, t3⟩ := D3
      obtain ⟨f, t4⟩ := D4
      obtain ⟨x, t5⟩ := D5
      simp only at C1 C2 C3 C4 C5 ST2 YS2
      go_wp2_with fail
      refine (C1.out wr RD.out).mono ?_
      rintro e v1 ⟨rfl, hr, hg⟩
      have G1' := Lib.hid (grown_trans GR.out hg)
      have K1' : Hid (Sx v1 g2 (fun _ => 0) (.slice none 0 0)) := Lib.hid (grown_step GR.out hg HA.out l2 KK.out)
      have H1' : Hid (Sx v1 g3 F u) := Lib.hid (grown_step GR.out hg HA.out hl3 H0.out)
      have O1' := Lib.hid (own_keep OW.out hg (own_above OW.out HA.out))
      have R1' := Lib.hid hr
      clear hr hg C1 GR KK H0 OW RD
      go_wp2_with (first | refine wpList_pbuild (by rfl) _ rfl (Wr.cells ⟨r, n, 0, ByteArray.empty, 0, ByteArray.empty⟩).toArray (by simp only [List.map_toArray, List.map_cons, List.map_nil]; exact HBW.out _ _ _) ?_ | refine wpList_galloc _ zeroWrC rfl rfl ?_)
      intro g5 v2 lg5 hx2 hb2
      have hl5 : w.heap.size ≤ g5 := Nat.le_trans G1'.out.size lg5
      have h25 : g2 ≠ g5 := by have := K1'.out.lt; omega
      have h35 : g3 ≠ g5 := by have := H1'.out.lt; omega
      have G2' := Lib.hid (grown_on G1'.out (hb2.mono G1'.out.size))
      have K2' : Hid (Sx v2 g2 (fun _ => 0) (.slice none 0 0)) := Lib.hid (K1'.out.later hb2)
      have H2' : Hid (Sx v2 g3 F u) := Lib.hid (H1'.out.later hb2)
      have O2' := Lib.hid (own_later O1'.out hb2)
      have R2' := Lib.hid (R1'.out.below hb2)
      have X2' := Lib.hid hx2
      have NB : Hid (u.ownBlock = none ∨ u.ownBlock ≠ some g5) := Lib.hid (.inr fun e => by have := (O1'.out.lt g5 e).2; omega)
      clear hb2 hx2 lg5 G1' K1' H1' O1' R1'
      go_wp2_with (refine wpList_gstore rfl _ _ rfl g5 rfl (Wr.cells ⟨r, n, 0, ByteArray.empty, 0, ByteArray.empty⟩).toArray rfl _ _ X2'.out (by kernel_rfl) (by rfl) (fun v hv => Wr.cells_one _ v (by simpa using hv)) ?_)
      intro v3 hx3 g3'
      have G3' := Lib.hid (grown_onE G2'.out g3' hl5)
      have R3' := Lib.hid (R2'.out.under HA.out (grown_below g3' G2'.out.size hl5))
      have K3' : Hid (Sx v3 g2 (fun _ => 0) (.slice none 0 0)) := Lib.hid ((g3'.block _ K2'.out.lt (by simpa using h25)).trans K2'.out)
      have H3' : Hid (Sx v3 g3 F u) := Lib.hid ((g3'.block _ H2'.out.lt (by simpa using h35)).trans H2'.out)
      have O3' := Lib.hid (own_keep O2'.out g3' NB.out)
      have X3' : Hid (Wx v3 g5 ⟨r, n, 0, ByteArray.empty, 0, ByteArray.empty⟩) := Lib.hid hx3
      clear hx3 g3' G2' K2' H2' O2' R2' X2'
      go_wp2_with fail
      refine (C2.out v3 R3'.out).mono ?_
      rintro e v4 ⟨rfl, hr, hg⟩
      have G4p := Lib.hid (grown_trans G3'.out hg)
      have K4p : Hid (Sx v4 g2 (fun _ => 0) (.slice none 0 0)) := Lib.hid (grown_step G3'.out hg HA.out l2 K3'.out)
      have H4p : Hid (Sx v4 g3 F u) := Lib.hid (grown_step G3'.out hg HA.out hl3 H3'.out)
      have X4p : Hid (Wx v4 g5 ⟨r, n, 0, ByteArray.empty, 0, ByteArray.empty⟩) := Lib.hid (X3'.out.kept hg (by omega))
      have O4p := Lib.hid (own_keep O3'.out hg (own_above O3'.out HA.out))
      have R4p := Lib.hid hr
      clear hr hg C2 G3' K3' H3' X3' O3' R3'
      go_wp2_with (refine wpList_storeI rfl _ _ _ rfl ⟨g5, 2, none⟩ rfl .i64 (t : Int) rfl HSI.out (.int .i64 0) (X4p.out.at 2 rfl) (X4p.out.free 2) ?_)
      intro v4s hvs
      have gs := grown_cell v4 g5 2 (.int .i64 (t : Int))
      have G4' := Lib.hid (grown_onE G4p.out gs hl5)
      have R4' := Lib.hid (R4p.out.under HA.out (grown_below gs G4p.out.size hl5))
      have K4' : Hid (Sx (v4.setCell ⟨g5, 2, none⟩ (.int .i64 (t : Int))) g2 (fun _ => 0) (.slice none 0 0)) := Lib.hid ((gs.block _ K4p.out.lt (by simpa using h25)).trans K4p.out)
      have H4' : Hid (Sx (v4.setCell ⟨g5, 2, none⟩ (.int .i64 (t : Int))) g3 F u) := Lib.hid ((gs.block _ H4p.out.lt (by simpa using h35)).trans H4p.out)
      have O4' := Lib.hid (own_keep O4p.out gs NB.out)
      have X4' : Hid (Wx (v4.setCell ⟨g5, 2, none⟩ (.int .i64 (t : Int))) g5 ⟨r, n, (t : Int), ByteArray.empty, 0, ByteArray.empty⟩) := Lib.hid (X4p.out.set (i := 2) rfl)
      clear gs G4p R4p K4p H4p O4p X4p
      rw [← hvs.out] at G4' R4' K4' H4' O4' X4'
      clear hvs
      go_wp2_with fail
      refine (C3.out v4s R4'.out).mono ?_
      rintro e v5 ⟨rfl, hr, hg⟩
      have G5p := Lib.hid (grown_trans G4'.out hg)
      have K5p : Hid (Sx v5 g2 (fun _ => 0) (.slice none 0 0)) := Lib.hid (grown_step G4'.out hg HA.out l2 K4'.out)
      have H5p : Hid (Sx v5 g3 F u) := Lib.hid (grown_step G4'.out hg HA.out hl3 H4'.out)
      have X5p : Hid (Wx v5 g5 ⟨r, n, (t : Int), ByteArray.empty, 0, ByteArray.empty⟩) := Lib.hid (X4'.out.kept hg (by omega))
      have O5p := Lib.hid (own_keep O4'.out hg (own_above O4'.out HA.out))
      have R5p := Lib.hid hr
      clear hr hg C3 G4' K4' H4' X4' O4' R4'
      go_wp2_with (refine wpList_storeStr rfl _ _ _ rfl ⟨g5, 3, none⟩ rfl d rfl HSS.out (.string ByteArray.empty) (X5p.out.at 3 rfl) (X5p.out.free 3) ?_)
      intro v5s hvs
      have gs := grown_cell v5 g5 3 (.string d)
      have G5' := Lib.hid (grown_onE G5p.out gs hl5)
      have R5' := Lib.hid (R5p.out.under HA.out (grown_below gs G5p.out.size hl5))
      have K5' : Hid (Sx (v5.setCell ⟨g5, 3, none⟩ (.string d)) g2 (fun _ => 0) (.slice none 0 0)) := Lib.hid ((gs.block _ K5p.out.lt (by simpa using h25)).trans K5p.out)
      have H5' : Hid (Sx (v5.setCell ⟨g5, 3, none⟩ (.string d)) g3 F u) := Lib.hid ((gs.block _ H5p.out.lt (by simpa using h35)).trans H5p.out)
      have O5' := Lib.hid (own_keep O5p.out gs NB.out)
      have X5' : Hid (Wx (v5.setCell ⟨g5, 3, none⟩ (.string d)) g5 ⟨r, n, (t : Int), d, 0, ByteArray.empty⟩) := Lib.hid (X5p.out.set (i := 3) rfl)
      clear gs G5p R5p K5p H5p O5p X5p
      rw [← hvs.out] at G5' R5' K5' H5' O5' X5'
      clear hvs
      go_wp2_with fail
      refine (C4.out v5s R5'.out).mono ?_
      rintro e v6 ⟨rfl, hr, hg⟩
      have G6p := Lib.hid (grown_trans G5'.out hg)
      have K6p : Hid (Sx v6 g2 (fun _ => 0) (.slice none 0 0)) := Lib.hid (grown_step G5'.out hg HA.out l2 K5'.out)
      have H6p : Hid (Sx v6 g3 F u) := Lib.hid (grown_step G5'.out hg HA.out hl3 H5'.out)
      have X6p : Hid (Wx v6 g5 ⟨r, n, (t : Int), d, 0, ByteArray.empty⟩) := Lib.hid (X5'.out.kept hg (by omega))
      have O6p := Lib.hid (own_keep O5'.out hg (own_above O5'.out HA.out))
      have R6p := Lib.hid hr
      clear hr hg C4 G5' K5' H5' X5' O5' R5'
      go_wp2_with (refine wpList_storeI rfl _ _ _ rfl ⟨g5, 4, none⟩ rfl .i64 (f : Int) rfl HSI.out (.int .i64 0) (X6p.out.at 4 rfl) (X6p.out.free 4) ?_)
      intro v6s hvs
      have gs := grown_cell v6 g5 4 (.int .i64 (f : Int))
      have G6' := Lib.hid (grown_onE G6p.out gs hl5)
      have R6' := Lib.hid (R6p.out.under HA.out (grown_below gs G6p.out.size hl5))
      have K6' : Hid (Sx (v6.setCell ⟨g5, 4, none⟩ (.int .i64 (f : Int))) g2 (fun _ => 0) (.slice none 0 0)) := Lib.hid ((gs.block _ K6p.out.lt (by simpa using h25)).trans K6p.out)
      have H6' : Hid (Sx (v6.setCell ⟨g5, 4, none⟩ (.int .i64 (f : Int))) g3 F u) := Lib.hid ((gs.block _ H6p.out.lt (by simpa using h35)).trans H6p.out)
      have O6' := Lib.hid (own_keep O6p.out gs NB.out)
      have X6' : Hid (Wx (v6.setCell ⟨g5, 4, none⟩ (.int .i64 (f : Int))) g5 ⟨r, n, (t : Int), d, (f : Int), ByteArray.empty⟩) := Lib.hid (X6p.out.set (i := 4) rfl)
      clear gs G6p R6p K6p H6p O6p X6p
      rw [← hvs.out] at G6' R6' K6' H6' O6' X6'
      clear hvs
      go_wp2_with fail
      refine (C5.out v6s R6'.out).mono ?_
      rintro e v7 ⟨rfl, hr, hg⟩
      have G7p := Lib.hid (grown_trans G6'.out hg)
      have K7p : Hid (Sx v7 g2 (fun _ => 0) (.slice none 0 0)) := Lib.hid (grown_step G6'.out hg HA.out l2 K6'.out)
      have H7p : Hid (Sx v7 g3 F u) := Lib.hid (grown_step G6'.out hg HA.out hl3 H6'.out)
      have X7p : Hid (Wx v7 g5 ⟨r, n, (t : Int), d, (f : Int), ByteArray.empty⟩) := Lib.hid (X6'.out.kept hg (by omega))
      have O7p := Lib.hid (own_keep O6'.out hg (own_above O6'.out HA.out))
      have R7p := Lib.hid hr
      clear hr hg C5 G6' K6' H6' X6' O6' R6'
      go_wp2_with (refine wpList_storeStr rfl _ _ _ rfl ⟨g5, 5, none⟩ rfl x rfl HSS.out (.string ByteArray.empty) (X7p.out.at 5 rfl) (X7p.out.free 5) ?_)
      intro v7s hvs
      have gs := grown_cell v7 g5 5 (.string x)
      have G7' := Lib.hid (grown_onE G7p.out gs hl5)
      have R7' := Lib.hid (R7p.out.under HA.out (grown_below gs G7p.out.size hl5))
      have K7' : Hid (Sx (v7.setCell ⟨g5, 5, none⟩ (.string x)) g2 (fun _ => 0) (.slice none 0 0)) := Lib.hid ((gs.block _ K7p.out.lt (by simpa using h25)).trans K7p.out)
      have H7' : Hid (Sx (v7.setCell ⟨g5, 5, none⟩ (.string x)) g3 F u) := Lib.hid ((gs.block _ H7p.out.lt (by simpa using h35)).trans H7p.out)
      have O7' := Lib.hid (own_keep O7p.out gs NB.out)
      have X7' : Hid (Wx (v7.setCell ⟨g5, 5, none⟩ (.string x)) g5 ⟨r, n, (t : Int), d, (f : Int), x⟩) := Lib.hid (X7p.out.set (i := 5) rfl)
      clear gs G7p R7p K7p H7p O7p X7p
      rw [← hvs.out] at G7' R7' K7' H7' O7' X7'
      clear hvs
      have er := R7'.out.err
      by_cases he : t5.2 = 0
      · rw [he] at er
        have HZ2 := Lib.hid he
        clear he
        have k64 := H7'.out.slot
        have HL3 := Lib.hid hl3
        obtain ⟨c0, c1, c2, c3, c4, c5⟩ := wr_cells (range_of_block X7'.out : v7s.rangeAt g5 0 (Wr.cells ⟨r, n, (t : Int), d, (f : Int), x⟩))
        simp only [Nat.zero_add] at c0 c1 c2 c3 c4 c5
        go_wp2_with (at_builtin; refine wpList_wr v7s rfl _ _ rfl w.heap.size j (wcl ys) u rfl O7'.out ⟨r, n, (t : Int), d, (f : Int), x⟩ rfl (by omega) G7'.out.size ?_)
        clear c0 c1 c2 c3 c4 c5 k64
        intro v' w' o' q'
        have b' : Below w.heap.size v7s w' := (Below.refl _ _).grown q' G7'.out.size (fun k hk => (O7'.out.lt k hk).1)
        have G8' := Lib.hid (grown_on G7'.out b')
        have R8' := Lib.hid (R7'.out.under HA.out b')
        have K8' : Hid (Sx w' g2 (fun _ => 0) (.slice none 0 0)) := Lib.hid ((q'.block g2 K7'.out.lt (own_not O7'.out K7'.out (by decide))).trans K7'.out)
        have H8' : Hid (Sx w' g3 F u) := Lib.hid ((q'.block g3 H7'.out.lt (own_not O7'.out H7'.out (by decide))).trans H7'.out)
        obtain ⟨pv, cv, hv1⟩ := own_slice o'
        subst hv1
        have O8' := Lib.hid o'
        clear o' q' b' G7' R7' K7' H7' O7' X7'
        go_wp2_with (refine wpList_storeSl rfl _ _ _ rfl ⟨g3, 64, none⟩ rfl pv (j + 1) cv rfl HSL.out u H8'.out.slot (frozen_of_row _ g3 64 _ _ H8'.out) ?_)
        intro w9' hv9
        have gs := grown_cell w' g3 64 (.slice pv (j + 1) cv)
        have G9' := Lib.hid (grown_onE G8'.out gs hl3)
        have R9' := Lib.hid (R8'.out.under HA.out (grown_below gs G8'.out.size hl3))
        have K9' : Hid (Sx (w'.setCell ⟨g3, 64, none⟩ (.slice pv (j + 1) cv)) g2 (fun _ => 0) (.slice none 0 0)) := Lib.hid ((gs.block _ K8'.out.lt (by simpa using h23)).trans K8'.out)
        have H9' := Lib.hid (H8'.out.setSlot (.slice pv (j + 1) cv))
        have O9' := Lib.hid (own_keep O8'.out gs (.inr fun e => own_not O8'.out H8'.out (by decide) e.symm))
        rw [← hv9.out] at G9' R9' K9' H9' O9'
        clear gs G8' R8' K8' H8' O8' hv9 er
        have XN : Hid (wcl ys ++ (Wr.cells ⟨r, n, (t : Int), d, (f : Int), x⟩) = wcl (ys ++ [⟨r, n, (t : Int), d, (f : Int), x⟩])) := Lib.hid (wcl_snoc ys _).symm
        rw [XN.out] at O9'
        have LN2 : Hid ((ys ++ [(⟨r, n, (t : Int), d, (f : Int), x⟩ : Wr)]).length = j + 1) := Lib.hid (by rw [List.length_append, HLen.out]; rfl)
        obtain ⟨ys2, hys2⟩ : ∃ X, ys ++ [(⟨r, n, (t : Int), d, (f : Int), x⟩ : Wr)] = X := ⟨_, rfl⟩
        rw [hys2] at YS2 O9' LN2
        clear hys2 XN
        go_wp2
        go_roundw
        case rel => exact ⟨j + 1, .slice pv (j + 1) cv, ys2, t5, by omega, by go_num, LN2.out, ST2, YS2, Lib.hid (.inr HZ2.out), H9'.out, O9'.out, R9'.out, G9'.out, K9'.out⟩
        case measure => simp [intOf]; omega
      · have hne2 : (((t5.2 : Nat) : Int) != 0) = true := by simpa using he
        have ALL : Hid (RF = (fun _ => 0) ∧ RL = [] ∧ RS = t5) := Lib.hid (by
          obtain ⟨dd, rfl⟩ : ∃ dd, N = j + 1 + dd := ⟨N - (j + 1), by omega⟩
          have hs : (Cod.wrsS (j + 1 + dd) S1).2 = t5 := by rw [Cod.wrsS_stuck (by rw [← ST2.out]; exact he), ST2.out]
          have := NO.out fun h0 => absurd (by rw [← hs]; exact h0) he
          rw [hs] at this
          unfold Cod.failS at this
          rw [if_neg he] at this
          exact this)
        clear he YES NO
        generalize ((t5.2 : Nat) : Int) = ee at er hne2
        go_wp2_with (first | refine wpList_pbuild (by rfl) _ rfl (scs (fun _ => 0) (.slice none 0 0)) (by simp only [List.map_toArray, List.map_nil]; exact builtSt0 _) ?_ | refine wpList_gstore rfl _ _ rfl g2 rfl (scs (fun _ => 0) (.slice none 0 0)) rfl _ _ K7'.out (sizeSt _ _) (by rw [scs_size]) (scs_one (fun _ => 0) rfl) ?_)
        intro w15 h15 g15
        have H15 := Lib.hid h15
        have G15 := Lib.hid (grown_onE G7'.out g15 l2)
        have R15 := Lib.hid (R7'.out.under HA.out (grown_below g15 G7'.out.size l2))
        clear h15 g15 er
        go_wp2
        exact bodyPost_ret (v := .agg (scs (fun _ => 0) (.slice none 0 0))) (results_cell_row rfl _ w15 g2 _ _ (0, 0) _ rfl H15.out Tryz.underlying29 rfl (sizeSt _ _)) rfl ⟨none, 0, by rw [ALL.out.1, ALL.out.2.1]; rfl, by rw [ALL.out.2.1]; exact ⟨fun h => absurd rfl h, fun _ => rfl⟩, by rw [ALL.out.2.2]; exact R15.out, G15.out⟩
    · obtain rfl : j = N := by omega
      have hjk' : ¬ ((j : Nat) : Int) < j := by omega
      obtain ⟨pu, cu, hu, _, wat, off⟩ := own_wat (L := ys) (by rw [HLen.out]; exact OW.out)
      rw [HLen.out] at hu
      subst hu
      have WA := Lib.hid wat
      clear wat off
      have er := RD.out.err
      have R0 := Lib.hid (H0.out.whole)
      have CK := Lib.hid (refCan_is F pu cu ys wr WA.out)
      rw [HLen.out] at CK
      have FINZ : Hid (RF = (fun _ => 0) ∧ RL = [] ∧ RS = Cod.failS 3 st → ∀ W : World, Sx W g2 (fun _ => 0) (.slice none 0 0) → RRd W A lo (Cod.failS 3 st) → w.grownBy W (some A) → GotStR w A lo RF RL RS (.returned (.agg (scs (fun _ => 0) (.slice none 0 0)))) W) := Lib.hid fun ⟨h1, h2, h3⟩ W q1 q2 q3 => by
        rw [h1, h2, h3]
        exact ⟨none, 0, rfl, ⟨fun h => absurd rfl h, fun _ => rfl⟩, q2, q3⟩
      by_cases he : st.2 = 0
      · rw [he] at er
        cases hcan : canB F ys with
        | true =>
          rw [hcan] at CK
          have ALL : Hid (RF = F ∧ RL = ys ∧ RS = st) := Lib.hid (by
            have := YES.out (by rw [← HST.out]; exact he) (by rw [← HYS.out]; exact hcan)
            rw [← HYS.out, ← HST.out] at this; exact this)
          clear hcan YES NO FINZ
          go_wp2_with (refine wpList_gloadG (by rfl) _ rfl g3 0 rfl _ R0.out _ Tryz.underlying29 rfl (sizeStl _ _) ?_)
          refine CK.out.mono ?_
          rintro e w12 ⟨rfl, hb12⟩
          have RD12 := Lib.hid (RD.out.below hb12)
          have R12 := Lib.hid (range_below R0.out hb12)
          have K12 : Hid (Sx w12 g2 (fun _ => 0) (.slice none 0 0)) := Lib.hid (KK.out.later hb12)
          have G12 := Lib.hid (grown_on GR.out (hb12.mono GR.out.size))
          have OW12 := Lib.hid (own_later OW.out hb12)
          have er2 := RD12.out.err
          rw [he] at er2
          clear hb12 CK er
          go_wp2_with (first | refine wpList_gload rfl _ rfl g3 0 rfl _ R12.out _ Tryz.underlying29 rfl (sizeStl _ _) ?_ | refine wpList_gstore rfl _ _ rfl g2 rfl (scs F (.slice pu j cu)) rfl _ _ K12.out (sizeSt _ _) (by rw [scs_size, scs_size]) (scs_one F rfl) ?_)
          intro w14 h14 g14
          have H14 := Lib.hid h14
          have G14 := Lib.hid (grown_onE G12.out g14 l2)
          have B14 := grown_below g14 G12.out.size l2
          have R14 := Lib.hid (RD12.out.under HA.out B14)
          have O14 := own_keep OW12.out g14 (.inr fun e => own_not OW12.out K12.out (by decide) e.symm)
          obtain ⟨p9, c9, e9, _, wat9, _⟩ := own_wat (L := ys) (by rw [HLen.out]; exact O14)
          injection e9 with e9 _ _
          subst e9
          have W14 := Lib.hid wat9
          clear h14 g14 B14 O14 wat9 er2
          go_wp2
          exact bodyPost_ret (v := .agg (scs F (.slice pu j cu))) (results_cell_row rfl _ w14 g2 _ _ (0, 0) _ rfl H14.out Tryz.underlying29 rfl (sizeSt _ _)) rfl ⟨pu, cu, by rw [ALL.out.1, ALL.out.2.1, HLen.out], by rw [ALL.out.2.1]; exact W14.out, by rw [ALL.out.2.2]; exact R14.out, G14.out⟩
        | false =>
          rw [hcan] at CK
          have ALL := Lib.hid (FINZ.out (by
            have := NO.out fun _ => by rw [← HYS.out]; exact hcan
            rw [← HST.out] at this; exact this))
          clear hcan YES NO FINZ
          go_wp2_with (refine wpList_gloadG (by rfl) _ rfl g3 0 rfl _ R0.out _ Tryz.underlying29 rfl (sizeStl _ _) ?_)
          refine CK.out.mono ?_
          rintro e w12 ⟨rfl, hb12⟩
          have FL := Lib.hid (refFail_any A lo 3 st w12 (RD.out.below hb12) (by omega))
          have K12 : Hid (Sx w12 g2 (fun _ => 0) (.slice none 0 0)) := Lib.hid (KK.out.later hb12)
          have G12 := Lib.hid (grown_on GR.out (hb12.mono GR.out.size))
          clear hb12 CK er
          go_wp2_with fail
          refine FL.out.mono ?_
          rintro e w13 ⟨rfl, hr13, hg13⟩
          have K13 : Hid (Sx w13 g2 (fun _ => 0) (.slice none 0 0)) := Lib.hid (grown_step G12.out hg13 HA.out l2 K12.out)
          have G13 := Lib.hid (grown_trans G12.out hg13)
          have R13 := Lib.hid hr13
          have er3 := hr13.err
          have h3 : (Cod.failS 3 st).2 = 3 := by unfold Cod.failS; rw [if_pos he]
          rw [h3] at er3
          clear hr13 hg13 FL h3 he
          go_wp2_with (first | refine wpList_pbuild (by rfl) _ rfl (scs (fun _ => 0) (.slice none 0 0)) (by simp only [List.map_toArray, List.map_nil]; exact builtSt0 _) ?_ | refine wpList_gstore rfl _ _ rfl g2 rfl (scs (fun _ => 0) (.slice none 0 0)) rfl _ _ K13.out (sizeSt _ _) (by rw [scs_size]) (scs_one (fun _ => 0) rfl) ?_)
          intro w15 h15 g15
          have H15 := Lib.hid h15
          have G15 := Lib.hid (grown_onE G13.out g15 l2)
          have R15 := Lib.hid (R13.out.under HA.out (grown_below g15 G13.out.size l2))
          clear h15 g15
          go_wp2
          exact bodyPost_ret (v := .agg (scs (fun _ => 0) (.slice none 0 0))) (results_cell_row rfl _ w15 g2 _ _ (0, 0) _ rfl H15.out Tryz.underlying29 rfl (sizeSt _ _)) rfl (ALL.out w15 H15.out R15.out G15.out)
      · have ALL := Lib.hid (FINZ.out (by
          have := NO.out fun h0 => absurd (by rw [HST.out]; exact h0) he
          rw [← HST.out] at this; exact this))
        have hF3 : Cod.failS 3 st = st := by unfold Cod.failS; rw [if_neg he]
        rw [hF3] at ALL
        have hne : (((st.2 : Nat) : Int) == 0) = false := by simpa using he
        have hne2 : (((st.2 : Nat) : Int) != 0) = true := by simpa using he
        have K13 := KK; have G13 := GR; have R13 := RD
        clear he hF3 YES NO FINZ CK
        generalize ((st.2 : Nat) : Int) = ee at er hne hne2
        go_wp2_with (first | refine wpList_pbuild (by rfl) _ rfl (scs (fun _ => 0) (.slice none 0 0)) (by simp only [List.map_toArray, List.map_nil]; exact builtSt0 _) ?_ | refine wpList_gstore rfl _ _ rfl g2 rfl (scs (fun _ => 0) (.slice none 0 0)) rfl _ _ K13.out (sizeSt _ _) (by rw [scs_size]) (scs_one (fun _ => 0) rfl) ?_)
        intro w15 h15 g15
        have H15 := Lib.hid h15
        have G15 := Lib.hid (grown_onE G13.out g15 l2)
        have R15 := Lib.hid (R13.out.under HA.out (grown_below g15 G13.out.size l2))
        clear h15 g15
        go_wp2
        exact bodyPost_ret (v := .agg (scs (fun _ => 0) (.slice none 0 0))) (results_cell_row rfl _ w15 g2 _ _ (0, 0) _ rfl H15.out Tryz.underlying29 rfl (sizeSt _ _)) rfl (ALL.out w15 H15.out R15.out G15.out)
end Go.Proofs.YtapmbankpbiglaaGreatDoor
