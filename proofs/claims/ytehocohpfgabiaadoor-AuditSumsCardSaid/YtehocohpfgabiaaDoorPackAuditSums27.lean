/- The statement AuditSums, proved for every input that its row reads: part 27 of 54. -/
import Derived.Test.YtehocohpfgabiaaDoorPackAuditSums19
import Derived.Test.YtehocohpfgabiaaDoorPackAuditSums26
import Derived.Test.YtehocohpfgabiaaDoorPackAuditSums11
/- audit.Sums and the document's. -/
namespace Go.Proofs.YtehocohpfgabiaaDoor
open Go Go.RowKit
set_option linter.unusedVariables false
set_option maxRecDepth 1000000

set_option maxHeartbeats 2000000 in
theorem audCnt_is (f : Nat → Int) (r n : Int) (w : World) (hf : ∀ i, i < 64 → 0 ≤ f i ∧ f i ≤ 1000000) : Calls Tryd.prog 14 #[.agg (vf f), .agg (dcs r n)] w (RetVec w (cntF f r n)) := by
  have HF := Lib.hid hf
  clear hf
  go_enter Tryd.func14, Tryd.ntmps14
  go_wp2_with (refine wpList_vbox vecI rfl _ rfl f rfl ?_)
  intro gv w1 lv rv hb1
  have B1 := Lib.hid hb1; have RV1 := Lib.hid rv
  clear hb1 rv
  go_wp2_with (refine wpList_gbox rfl _ rfl (dcs r n) rfl ?_)
  intro gd w2 ld hD hb2
  have B2 := Lib.hid (thenBelow B1.out hb2); have RV2 := Lib.hid (RV1.out.later hb2)
  have DW2 : Hid (w2.rangeAt gd 0 [.int .i64 r, .int .i64 n]) := Lib.hid (range_of_block hD)
  clear hD hb2
  go_wp2_with (refine wpList_valloc vecI zeroV rfl rfl ?_)
  intro gr w3 lr rr hb3
  have B3 := Lib.hid (thenBelow B2.out hb3); have RV3 := Lib.hid (RV2.out.later hb3); have RR3 := Lib.hid rr
  have DW3 := Lib.hid (range_below DW2.out hb3)
  have hvr : gv < gr := Nat.lt_of_lt_of_le RV2.out.lt lr
  have lwr := Nat.le_trans B2.out.size lr
  have lwv : w.heap.size ≤ gv := lv
  have VA := Lib.hid (valid_is r n w3)
  have SZD : (Tryd.prog.info? 39).map (·.size) = some [Value.int .i64 r, .int .i64 n].length := by kernel_rfl
  clear hb3 rr
  go_wp2_with (refine wpList_gload rfl _ rfl gd 0 rfl _ DW3.out _ Tryd.underlying39 rfl SZD ?_)
  refine VA.out.mono ?_
  rintro e w4 ⟨rfl, hb4⟩
  have B4 := Lib.hid (thenBelow B3.out hb4); have RV4 := Lib.hid (RV3.out.later hb4); have RR4 := Lib.hid (RR3.out.later hb4)
  have d0 := range_below DW3.out hb4 0 _ rfl
  rw [Nat.add_zero] at d0
  clear hb4 VA DW3 DW2 SZD
  cases e : vldB r n with
  | true =>
    have hv := (vld_iff r n).1 e
    obtain ⟨i, rfl⟩ : ∃ i : Nat, r = (i : Int) := ⟨r.toNat, by omega⟩
    have HB : Hid (cntF f i n = vset f i (f i + 1)) := Lib.hid (by unfold cntF; rw [if_pos e]; rfl)
    have hc := RV4.out.cell i (by omega)
    have hfr := RV4.out.free i
    have hi64 : (i : Int) < 64 := by omega
    have hb := HF.out i (by omega)
    clear e hv
    have hS := Lib.hid (RV4.out.set i (f i + 1))
    have hG := Lib.hid (grown_cell w4 gv i (.int .i64 (f i + 1)))
    have B6 := Lib.hid (B4.out.trans (grown_below hG.out B4.out.size lwv)); have RR6 := Lib.hid (RR4.out.kept hG.out (by simp; omega))
    go_wp2_with (first | refine wpList_vload vecI rfl _ rfl gv rfl _ _ hS.out ?_ | refine wpList_vstore vecI rfl _ _ rfl gr rfl _ rfl _ _ RR6.out ?_)
    intro w7 r7 g7 _
    have R7 := Lib.hid r7; have B7 := Lib.hid (B6.out.trans (grown_below g7 B6.out.size lwr))
    clear r7 g7
    go_wp2
    exact vec_ret vecI rfl rfl rfl R7.out (fun j _ => by rw [HB.out]) B7.out
  | false =>
    have HB : Hid (cntF f r n = f) := Lib.hid (by unfold cntF; rw [if_neg (by rw [e]; decide)])
    clear e
    go_wp2_with (first | refine wpList_vload vecI rfl _ rfl gv rfl _ _ RV4.out ?_ | refine wpList_vstore vecI rfl _ _ rfl gr rfl _ rfl _ _ RR4.out ?_)
    intro w7 r7 g7 _
    have R7 := Lib.hid r7; have B7 := Lib.hid (B4.out.trans (grown_below g7 B4.out.size lwr))
    clear r7 g7
    go_wp2
    exact vec_ret vecI rfl rfl rfl R7.out (fun j _ => by rw [HB.out]) B7.out
def dotsW (L : List Wr) : List Dt := L.map fun y => (y.rep, y.n)
def dotsE (E : List EvP) : List Dt := E.map fun x => (x.e.rep, x.e.n)
theorem dotsW_take (L : List Wr) (k : Nat) (h : k < L.length) : dotsW (L.take (k + 1)) = dotsW (L.take k) ++ [(L[k].rep, L[k].n)] := by
  unfold dotsW; rw [List.take_succ_eq_append_getElem h, List.map_append]; rfl
theorem dotsE_take (E : List EvP) (k : Nat) (h : k < E.length) : dotsE (E.take (k + 1)) = dotsE (E.take k) ++ [(E[k].e.rep, E[k].e.n)] := by
  unfold dotsE; rw [List.take_succ_eq_append_getElem h, List.map_append]; rfl
theorem dotsW_len (L : List Wr) : (dotsW L).length = L.length := by simp [dotsW]
theorem dotsE_len (E : List EvP) : (dotsE E).length = E.length := by simp [dotsE]
def cntV (l : List Dt) : Nat → Int := fun i => (numD l i : Int)
theorem cntV_ok (l : List Dt) (h : l.length ≤ 10000) : ∀ i, i < 64 → 0 ≤ cntV l i ∧ cntV l i ≤ 1000000 := fun i _ => by
  have := numD_le l i
  unfold cntV
  omega
theorem cntV_step (l : List Dt) (r n : Int) : cntF (cntV l) r n = cntV (l ++ [(r, n)]) := funext fun i => cnt_snoc l r n i
theorem results_two_rows {P : Program} {fn : Func} {p q : Tmp} {ty : TypeId} (h : fn.results = #[.cell p ty, .cell q ty]) (tmps : Array Value) (w : World) (g g' : Nat) (t : TypeId) (cs cs' : Array Value) (fr : Nat × Nat) (d : TypeDesc)
    (hp : tmps.getD p undef = .pointer (some ⟨g, 0, none⟩)) (hq : tmps.getD q undef = .pointer (some ⟨g', 0, none⟩)) (hg : w.heap[g]? = some (.cells cs t fr)) (hg' : w.heap[g']? = some (.cells cs' t fr))
    (hu : P.underlying ty = some d) (hd : (match d with | .struct _ | .array _ _ => true | _ => false) = true) (hi : (P.info? ty).map (·.size) = some cs.size) (hi' : (P.info? ty).map (·.size) = some cs'.size) :
    (results fn tmps).run P w = .ok (.tuple #[.agg cs, .agg cs']) w := by
  have hp' : tmps[p]?.getD undef = .pointer (some ⟨g, 0, none⟩) := by simpa using hp
  have hq' : tmps[q]?.getD undef = .pointer (some ⟨g', 0, none⟩) := by simpa using hq
  simp [results, h, hp', hq', asAddr, run_loadVar_row w g t ty cs fr d hg hu hd hi, run_loadVar_row w g' t ty cs' fr d hg' hu hd hi']
theorem row_set {w : World} {g : Nat} {t : TypeId} {f : Nat → Int} (h : Row w g t f) : Row (w.setCells g 0 (vf f).toList) g t f := set_whole h rfl
/-- what Sums answers -/
def SumsR (w : World) (F G : Nat → Int) (e : Ending) (w' : World) : Prop := e = .returned (.tuple #[.agg (vf F), .agg (vf G)]) ∧ Below w.heap.size w w'
set_option maxHeartbeats 4000000 in
theorem sums_is (F : Nat → Int) (sp : Option Addr) (sc : Nat) (L : List Wr) (ep : Option Addr) (ec : Nat) (E : List EvP) (fl : Nat → Int) (w : World) (hL : WrsAt w sp L) (hE : EvsAt w ep E) (hn : L.length ≤ 10000) (hm : E.length ≤ 10000) :
    Calls Tryd.prog 7 #[.agg (scs F (.slice sp L.length sc)), .agg (pcs (.slice ep E.length ec) fl)] w (SumsR w (cntV (dotsW L)) (cntV (dotsE E))) := by
  have HW := Lib.hid hL; have HE := Lib.hid hE
  clear hL hE
  go_enter Tryd.func7, Tryd.ntmps7
  go_wp2_with (refine wpList_gbox rfl _ rfl (scs F (.slice sp L.length sc)) rfl ?_)
  intro g2 w1 l2 h2 hb1
  have S1 : Hid (Sx w1 g2 F (.slice sp L.length sc)) := Lib.hid h2
  have B1 := Lib.hid hb1
  clear h2 hb1
  go_wp2_with (refine wpList_gbox rfl _ rfl (pcs (.slice ep E.length ec) fl) rfl ?_)
  intro g3 w2 l3 h3 hb2
  have P2 : Hid (Px w2 g3 (.slice ep E.length ec) fl) := Lib.hid h3
  have S2 := Lib.hid (S1.out.later hb2); have B2 := Lib.hid (thenBelow B1.out hb2)
  clear h3 hb2 S1 B1
  go_wp2_with (refine wpList_valloc vecI zeroV rfl rfl ?_)
  intro g4 w3 l4 r4 hb3
  have V3 := Lib.hid r4; have P3 := Lib.hid (P2.out.later hb3); have S3 := Lib.hid (S2.out.later hb3); have B3 := Lib.hid (thenBelow B2.out hb3)
  have h34 : g3 < g4 := Nat.lt_of_lt_of_le P2.out.lt l4
  have l4W := Nat.le_trans B2.out.size l4
  clear r4 hb3 P2 S2 B2
  go_wp2_with (refine wpList_valloc vecI zeroV rfl rfl ?_)
  intro g5 w4 l5 r5 hb4
  have U4 := Lib.hid r5; have V4 := Lib.hid (V3.out.later hb4); have P4 := Lib.hid (P3.out.later hb4); have S4 := Lib.hid (S3.out.later hb4); have B4 := Lib.hid (thenBelow B3.out hb4)
  have l5W := Nat.le_trans B3.out.size l5
  have h45 : g4 < g5 := Nat.lt_of_lt_of_le V3.out.lt l5
  have k64 := S4.out.slot
  clear r5 hb4 P3 V3 S3 B3
  have CT := Lib.hid (fun (f : Nat → Int) (r n : Int) (V : World) (h : ∀ i, i < 64 → 0 ≤ f i ∧ f i ≤ 1000000) => audCnt_is f r n V h)
  go_wp2
  clear k64 S4
  go_loopw [13] (fun i wr => ∃ k : Nat, k ≤ L.length ∧ i = .int .i64 k ∧ Row wr g4 23 (cntV (dotsW (L.take k))) ∧ Row wr g5 23 (fun _ => 0) ∧ Px wr g3 (.slice ep E.length ec) fl ∧ Below w.heap.size w wr) (fun i _ => L.length - (RowKit.intOf i).toNat)
  case atStart => exact ⟨0, Nat.zero_le _, rfl, V4.out, U4.out, P4.out, B4.out⟩
  case round =>
    obtain ⟨k, hk, rfl, v, u, pp, hb⟩ := hrel
    have VR := Lib.hid v; have UR := Lib.hid u; have PR := Lib.hid pp; have BR := Lib.hid hb
    clear v u pp hb
    by_cases hkl : k < L.length
    · have hkl' : (k : Int) < L.length := by omega
      have TK := Lib.hid (dotsW_take L k hkl)
      have OK := Lib.hid (cntV_ok (dotsW (L.take k)) (by rw [dotsW_len, List.length_take]; omega))
      obtain ⟨b, o, rfl, hlt, hq⟩ := (HW.out.below BR.out).at hkl
      obtain ⟨y, hy⟩ : ∃ y, L[k] = y := ⟨_, rfl⟩
      rw [hy] at hq TK
      obtain ⟨c0, c1, c2, c3, c4, c5⟩ := wr_cells hq
      clear hq hy
      obtain ⟨yr, yn, yt, yd, yf, ytx⟩ := y
      simp only at c0 c1 c2 c3 c4 c5 TK
      have ba := below_alloc wr (.cells #[.int .i64 yr, .int .i64 yn, .int .i64 yt, .string yd, .int .i64 yf, .string ytx] 44)
      have na := heap_alloc_new wr (.cells #[.int .i64 yr, .int .i64 yn, .int .i64 yt, .string yd, .int .i64 yf, .string ytx] 44)
      have R4 : (wr.alloc (.cells #[.int .i64 yr, .int .i64 yn, .int .i64 yt, .string yd, .int .i64 yf, .string ytx] 44)).rangeAt wr.heap.size 0 [.int .i64 yr, .int .i64 yn] := fun j u hu => by
        have h := range_of_block na
        match j, hu with
        | 0, hu => exact h 0 u hu
        | 1, hu => exact h 1 u hu
      have VA := Lib.hid (VR.out.later ba); have UA := Lib.hid (UR.out.later ba); have PA := Lib.hid (PR.out.later ba); have BA := Lib.hid (thenBelow BR.out ba); have DA := Lib.hid R4
      have SZD : (Tryd.prog.info? 39).map (·.size) = some [Value.int .i64 yr, .int .i64 yn].length := by kernel_rfl
      clear ba na R4 VR UR PR
      go_wp2_with (first | refine wpList_vload vecI rfl _ rfl g4 rfl _ _ VA.out ?_ | refine wpList_gload rfl _ rfl wr.heap.size 0 rfl _ DA.out _ Tryd.underlying39 rfl SZD ?_)
      refine (CT.out _ yr yn _ OK.out).mono ?_
      rintro e w6 ⟨rfl, hb6⟩
      rw [cntV_step]
      rw [← TK.out]
      have V6 := Lib.hid (VA.out.later hb6); have U6 := Lib.hid (UA.out.later hb6); have P6 := Lib.hid (PA.out.later hb6); have B6 := Lib.hid (thenBelow BA.out hb6)
      clear hb6 VA UA PA BA DA SZD c0 c1 c2 c3 c4 c5 OK TK
      go_wp2_with (refine wpList_vstore vecI rfl _ _ rfl g4 rfl _ rfl _ _ V6.out ?_)
      intro w7 r7 g7 _
      have V7 := Lib.hid r7; have U7 := Lib.hid (U6.out.kept g7 (by simp; omega)); have P7 := Lib.hid (P6.out.kept g7 (by simp; omega)); have B7 := Lib.hid (B6.out.trans (grown_below g7 B6.out.size l4W))
      clear r7 g7 V6 U6 P6 B6
      go_wp2
      go_roundw
      case rel => exact ⟨k + 1, by omega, by go_num, V7.out, U7.out, P7.out, B7.out⟩
      case measure => simp [intOf]; omega
    · obtain rfl : k = L.length := by omega
      have hkl' : ¬ ((L.length : Nat) : Int) < L.length := by omega
      rw [List.take_length] at VR
      have k0 := PR.out.slot
      go_wp2
      clear k0 PR hk hkl hkl'
      go_loopw [25] (fun i wr => ∃ k : Nat, k ≤ E.length ∧ i = .int .i64 k ∧ Row wr g4 23 (cntV (dotsW L)) ∧ Row wr g5 23 (cntV (dotsE (E.take k))) ∧ Below w.heap.size w wr) (fun i _ => E.length - (RowKit.intOf i).toNat)
      case atStart => exact ⟨0, Nat.zero_le _, rfl, VR.out, UR.out, BR.out⟩
      case round =>
        obtain ⟨k, hk, rfl, v, u, hb⟩ := hrel
        clear VR UR BR
        have VR := Lib.hid v; have UR := Lib.hid u; have BR := Lib.hid hb
        clear v u hb
        by_cases hkl : k < E.length
        · have hkl' : (k : Int) < E.length := by omega
          have TK := Lib.hid (dotsE_take E k hkl)
          have OK := Lib.hid (cntV_ok (dotsE (E.take k)) (by rw [dotsE_len, List.length_take]; omega))
          obtain ⟨b, o, rfl, hlt, hq⟩ := (HE.out.below BR.out).at hkl
          obtain ⟨y, hy⟩ : ∃ y, E[k] = y := ⟨_, rfl⟩
          rw [hy] at hq TK
          obtain ⟨c0, c1, c2, c3, c4, c5, c6, c7⟩ := ev_cells hq
          clear hq hy
          obtain ⟨⟨yr, yn, yt, yk, yd, yf, ytx, yg⟩, yp, yc⟩ := y
          simp only at c0 c1 c2 c3 c4 c5 c6 c7 TK
          obtain ⟨CL, hCL⟩ : ∃ CL : Array Value, CL = #[.int .i64 yr, .int .i64 yn, .int .i64 yt, .int .i64 yk, .string yd, .int .i64 yf, .string ytx, .slice yp yg.length yc] := ⟨_, rfl⟩
          have ba := below_alloc wr (.cells #[.int .i64 yr, .int .i64 yn, .int .i64 yt, .int .i64 yk, .string yd, .int .i64 yf, .string ytx, .slice yp yg.length yc] 48)
          have na := heap_alloc_new wr (.cells #[.int .i64 yr, .int .i64 yn, .int .i64 yt, .int .i64 yk, .string yd, .int .i64 yf, .string ytx, .slice yp yg.length yc] 48)
          clear hCL CL
          have R4 : (wr.alloc (.cells #[.int .i64 yr, .int .i64 yn, .int .i64 yt, .int .i64 yk, .string yd, .int .i64 yf, .string ytx, .slice yp yg.length yc] 48)).rangeAt wr.heap.size 0 [.int .i64 yr, .int .i64 yn] := fun j u hu => by
            have h := range_of_block na
            match j, hu with
            | 0, hu => exact h 0 u hu
            | 1, hu => exact h 1 u hu
          have VA := Lib.hid (VR.out.later ba); have UA := Lib.hid (UR.out.later ba); have BA := Lib.hid (thenBelow BR.out ba); have DA := Lib.hid R4
          have SZD : (Tryd.prog.info? 39).map (·.size) = some [Value.int .i64 yr, .int .i64 yn].length := by kernel_rfl
          clear ba na R4 VR UR
          go_wp2_with (first | refine wpList_vload vecI rfl _ rfl g5 rfl _ _ UA.out ?_ | refine wpList_gload rfl _ rfl wr.heap.size 0 rfl _ DA.out _ Tryd.underlying39 rfl SZD ?_)
          refine (CT.out _ yr yn _ OK.out).mono ?_
          rintro e w6 ⟨rfl, hb6⟩
          rw [cntV_step]
          rw [← TK.out]
          have V6 := Lib.hid (VA.out.later hb6); have U6 := Lib.hid (UA.out.later hb6); have B6 := Lib.hid (thenBelow BA.out hb6)
          clear hb6 VA UA BA DA SZD c0 c1 c2 c3 c4 c5 c6 c7 OK TK
          go_wp2_with (refine wpList_vstore vecI rfl _ _ rfl g5 rfl _ rfl _ _ U6.out ?_)
          intro w7 r7 g7 _
          have U7 := Lib.hid r7; have V7 := Lib.hid (V6.out.kept g7 (by simp; omega)); have B7 := Lib.hid (B6.out.trans (grown_below g7 B6.out.size l5W))
          clear r7 g7 V6 U6 B6
          go_wp2
          go_roundw
          case rel => exact ⟨k + 1, by omega, by go_num, V7.out, U7.out, B7.out⟩
          case measure => simp [intOf]; omega
        · obtain rfl : k = E.length := by omega
          have hkl' : ¬ ((E.length : Nat) : Int) < E.length := by omega
          rw [List.take_length] at UR
          go_wp2_with fail
          rename_i K3 hK3
          clear HW HE CT hk hkl hkl' hn hm
          obtain ⟨A, hA⟩ : ∃ A, cntV (dotsW L) = A := ⟨_, rfl⟩
          obtain ⟨B, hB⟩ : ∃ B, cntV (dotsE E) = B := ⟨_, rfl⟩
          rw [hA] at VR hK3; rw [hB] at UR hK3
          clear hA hB
          have m0 : Row wr.drew g4 23 A ∧ Row wr.drew g5 23 B ∧ Below w.heap.size w wr.drew := ⟨VR.out, UR.out, to_drew BR.out⟩
          have ne1 : some g5 ≠ some g4 := by simp; omega
          have ne2 : some g4 ≠ some g5 := by simp; omega
          refine rg_calm (by kernel_rfl) rfl (S := fun U => Row U g4 23 A ∧ Row U g5 23 B ∧ Below w.heap.size w U) ?_
          refine rgd_pureS 0 (some 34) rfl rfl (.agg (vf A)) (by kernel_rfl) (by kernel_rfl) (by kernel_rfl) (fun _ _ _ _ h => h) (by kernel_rfl) (fun U hU => exec_gload 23 _ rfl g4 0 (by kernel_rfl) _ (range_of_block hU.1) Tryd.underlying23 rfl (sizeVcl A)) m0 ?_
          refine rgd_pureS 1 (some 35) rfl rfl (.agg (vf B)) (by kernel_rfl) (by kernel_rfl) (by kernel_rfl) (fun _ _ _ _ h => h) (by kernel_rfl) (fun U hU => exec_gload 23 _ rfl g5 0 (by kernel_rfl) _ (range_of_block hU.2.1) Tryd.underlying23 rfl (sizeVcl B)) m0 ?_
          have n1 := grown_setCells g4 (vf A).toList wr.drew 0
          have m1 : Row (wr.drew.setCells g4 0 (vf A).toList) g4 23 A ∧ Row (wr.drew.setCells g4 0 (vf A).toList) g5 23 B ∧ Below w.heap.size w (wr.drew.setCells g4 0 (vf A).toList) := ⟨row_set m0.1, m0.2.1.kept n1 ne1, m0.2.2.trans (grown_below n1 m0.2.2.size l4W)⟩
          refine rgd_do 2 none (by kernel_rfl) rfl rfl (by kernel_rfl) _ (exec_wstore 23 _ _ rfl g4 (by kernel_rfl) (vf A) (by kernel_rfl) (sizeVc A) (by intro u hu; exact Array.all_eq_true_iff_forall_mem.1 (vf_one A) u (by simpa using hu)) m0.1 rfl) m1 ?_
          generalize wr.drew.setCells g4 0 (vf A).toList = U1 at m1 ⊢
          have n2 := grown_setCells g5 (vf B).toList U1 0
          have m2 : Row (U1.setCells g5 0 (vf B).toList) g4 23 A ∧ Row (U1.setCells g5 0 (vf B).toList) g5 23 B ∧ Below w.heap.size w (U1.setCells g5 0 (vf B).toList) := ⟨m1.1.kept n2 ne2, row_set m1.2.1, m1.2.2.trans (grown_below n2 m1.2.2.size l5W)⟩
          refine rgd_do 3 none (by kernel_rfl) rfl rfl (by kernel_rfl) _ (exec_wstore 23 _ _ rfl g5 (by kernel_rfl) (vf B) (by kernel_rfl) (sizeVc B) (by intro u hu; exact Array.all_eq_true_iff_forall_mem.1 (vf_one B) u (by simpa using hu)) m1.2.1 rfl) m2 ?_
          generalize U1.setCells g5 0 (vf B).toList = U2 at m2 ⊢
          have KE : K3 { tmps := #[.agg (scs F (.slice sp L.length sc)), .agg (pcs (.slice ep E.length ec) fl), .pointer (some ⟨g2, 0, none⟩), .pointer (some ⟨g3, 0, none⟩), .pointer (some ⟨g4, 0, none⟩), .pointer (some ⟨g5, 0, none⟩), undef, u7, undef, u9, .pointer (some ⟨g2, 64, none⟩), .slice sp L.length sc, .int .i64 L.length, .int .i64 L.length, .bool false, u15, u16, u17, u18, u19, u20, u21, .pointer (some ⟨g3, 0, none⟩), .slice ep E.length ec, .int .i64 E.length, .int .i64 E.length, .bool false, u27, u28, u29, u30, u31, u32, u33, .agg (vf A), .agg (vf B)], defers := [] } U2 := by
            refine hK3 _ _ ?_
            have M := Lib.hid m2
            clear hK3 m0 m1 m2 n1 n2 VR UR
            go_wp2
            exact bodyPost_ret (v := .tuple #[.agg (vf A), .agg (vf B)]) (results_two_rows (p := 4) (q := 5) rfl _ U2 g4 g5 _ _ _ (0, 0) _ rfl rfl M.out.1 M.out.2.1 Tryd.underlying23 rfl (sizeVc A) (sizeVc B)) rfl ⟨rfl, M.out.2.2⟩
          exact wpAnyH_done (by kernel_rfl) (Eq.mp (by kernel_rfl) KE) _
end Go.Proofs.YtehocohpfgabiaaDoor
