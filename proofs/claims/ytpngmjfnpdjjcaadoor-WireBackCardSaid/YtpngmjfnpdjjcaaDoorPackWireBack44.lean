/- The statement WireBack, proved for every input that its row reads: part 44 of 54. -/
import Derived.Test.YtpngmjfnpdjjcaaDoorPackWireBack39
import Derived.Test.YtpngmjfnpdjjcaaDoorPackWireBack43
import Derived.Test.YtpngmjfnpdjjcaaDoorPackWireBack41
/- docs.ReadState of any bytes. -/
namespace Go.Proofs.YtpngmjfnpdjjcaaDoor
open Go Go.RowKit
set_option linter.unusedVariables false
set_option maxRecDepth 1000000

/-- how many writes are to be read, and what is behind that -/
def cntS (s : Cod.S) : Nat × Cod.S := Cod.numS 4096 (outS s)
def rdW (s : Cod.S) : List Wr × Cod.S := Cod.wrsS (cntS s).1 (cntS s).2
/-- can what was read be a state? -/
noncomputable def okS (s : Cod.S) : Bool := decide ((rdW s).2.2 = 0) && canB (outV s) (rdW s).1
/-- what reading a state comes to -/
noncomputable def stV (s : Cod.S) : Nat → Int := if okS s = true then outV s else fun _ => 0
noncomputable def stL (s : Cod.S) : List Wr := if okS s = true then (rdW s).1 else []
noncomputable def stS (s : Cod.S) : Cod.S := if okS s = true then (rdW s).2 else Cod.failS 3 (rdW s).2
def GotStA (w : World) (B : Nat) (F : Nat → Int) (L : List Wr) (s : Cod.S) (e : Ending) (w' : World) : Prop := ∃ p c, e = .returned (.agg (scs F (.slice p L.length c))) ∧ WrsAt w' p L ∧ RdA w' B s ∧ w.grownBy w' (some B)
theorem wcl_snoc (l : List Wr) (y : Wr) : wcl (l ++ [y]) = wcl l ++ y.cells := by rw [wcl_append]; simp [wcl]
theorem cnt_le (s : Cod.S) : (cntS s).1 ≤ 4096 := by
  have h := numS_small (many := 4096) (s := outS s) (by omega)
  unfold cntS
  omega
theorem cnt_len (s : Cod.S) : (cntS s).2.1.length ≤ s.1.length := by
  unfold cntS
  exact Nat.le_trans (Cod.numS_len _ _) (outS_len s)
set_option maxHeartbeats 8000000 in
theorem readState_any (B : Nat) (s : Cod.S) (w : World) (h : RdA w B s) (hT : ∀ w', w.grownBy w' (some B) → Shapes w') (hl : s.1.length ≤ 1000000) :
    Calls Tryd.prog 34 #[.pointer (some ⟨B, 0, none⟩)] w (GotStA w B (stV s) (stL s) (stS s)) := by
  have HB := Lib.hid h.lt
  have HT := Lib.hid hT
  have hB := h.lt
  clear hT
  have V0 : Hid (∀ V : World, RdA V B s → Calls Tryd.prog 32 #[.pointer (some ⟨B, 0, none⟩)] V fun e w' => e = .returned (.agg (vf (outV s))) ∧ RdA w' B (outS s) ∧ V.grownBy w' (some B)) := Lib.hid fun V hV => vread_is B s V hV (by omega)
  have N0 : Hid (∀ V : World, RdA V B (outS s) → Calls Tryd.prog 31 #[.pointer (some ⟨B, 0, none⟩), .int .i64 4096] V (GotA V B (.int .i64 (cntS s).1) (cntS s).2)) := Lib.hid fun V hV => by unfold cntS; exact num_all B _ _ V hV (Nat.le_trans (outS_len s) (by omega)) (by omega)
  have n4 := cnt_le s
  have n1 : (cntS s).2.1.length ≤ 1000000 := Nat.le_trans (cnt_len s) hl
  obtain ⟨F, hF⟩ : ∃ X, outV s = X := ⟨_, rfl⟩
  obtain ⟨O, hO⟩ : ∃ X, outS s = X := ⟨_, rfl⟩
  obtain ⟨C, hC⟩ : ∃ X, cntS s = X := ⟨_, rfl⟩
  obtain ⟨RF, hRF⟩ : ∃ X, stV s = X := ⟨_, rfl⟩
  obtain ⟨RL, hRL⟩ : ∃ X, stL s = X := ⟨_, rfl⟩
  obtain ⟨RS, hRS⟩ : ∃ X, stS s = X := ⟨_, rfl⟩
  have YES : Hid ((Cod.wrsS C.1 C.2).2.2 = 0 → canB F (Cod.wrsS C.1 C.2).1 = true → RF = F ∧ RL = (Cod.wrsS C.1 C.2).1 ∧ RS = (Cod.wrsS C.1 C.2).2) := Lib.hid fun h1 h2 => by
    have hk : okS s = true := by unfold okS rdW; rw [hC, hF, h1, h2]; simp
    rw [← hRF, ← hRL, ← hRS]
    unfold stV stL stS
    rw [if_pos hk, if_pos hk, if_pos hk]
    unfold rdW
    rw [hC, hF]
    exact ⟨rfl, rfl, rfl⟩
  have NO : Hid (((Cod.wrsS C.1 C.2).2.2 = 0 → canB F (Cod.wrsS C.1 C.2).1 = false) → RF = (fun _ => 0) ∧ RL = [] ∧ RS = Cod.failS 3 (Cod.wrsS C.1 C.2).2) := Lib.hid fun h1 => by
    have hk : ¬ okS s = true := by
      unfold okS rdW
      rw [hC, hF]
      intro h2
      simp only [Bool.and_eq_true, decide_eq_true_eq] at h2
      rw [h1 h2.1] at h2
      cases h2.2
    rw [← hRF, ← hRL, ← hRS]
    unfold stV stL stS
    rw [if_neg hk, if_neg hk, if_neg hk]
    unfold rdW
    rw [hC]
    exact ⟨rfl, rfl, rfl⟩
  rw [hF, hO] at V0
  rw [hO, hC] at N0
  rw [hC] at n4 n1
  rw [hRF, hRL, hRS]
  have H := Lib.hid h
  clear h hF hO hC hRF hRL hRS
  obtain ⟨N, S1⟩ := C
  simp only at N0 n4 n1 YES NO
  have N4 : Hid (N ≤ 4096) := Lib.hid n4
  go_enter Tryd.func34, Tryd.ntmps34
  go_wp2_with (refine wpList_galloc _ zeroSt rfl rfl ?_)
  intro g2 w1 l2 h2 hb1
  have K1 : Hid (Sx w1 g2 (fun _ => 0) (.slice none 0 0)) := Lib.hid h2
  have V2 := Lib.hid (V0.out w1 (H.out.below hb1))
  have G1 := Lib.hid (grown_less (R := some B) hb1)
  clear hb1 h2 V0
  go_wp2_with fail
  refine V2.out.mono ?_
  rintro e w2 ⟨rfl, hr, hg⟩
  have G2 := Lib.hid (grown_trans G1.out hg)
  have K2 : Hid (Sx w2 g2 (fun _ => 0) (.slice none 0 0)) := Lib.hid (grown_step G1.out hg HB.out l2 K1.out)
  have R2 := Lib.hid hr
  clear hr hg V2 K1
  go_wp2_with (first | refine wpList_pbuild (by rfl) _ rfl (scs F (.slice none 0 0)) (by simp only [List.map_toArray, List.map_cons, List.map_nil]; exact builtSt1 F _) ?_ | refine wpList_galloc _ zeroSt rfl rfl ?_)
  intro g3 w8 l8 h8 hb8
  have hl3 : w.heap.size ≤ g3 := Nat.le_trans G2.out.size l8
  have G8 := Lib.hid (grown_on G2.out (hb8.mono G2.out.size))
  have K8 : Hid (Sx w8 g2 (fun _ => 0) (.slice none 0 0)) := Lib.hid (K2.out.later hb8)
  have R8 := Lib.hid (R2.out.below hb8)
  have h23 : g2 ≠ g3 := by have := K2.out.lt; omega
  have H8 := Lib.hid h8
  clear hb8 h8 R2 K2 l8
  go_wp2_with (refine wpList_gstore rfl _ _ rfl g3 rfl (scs F (.slice none 0 0)) rfl _ _ H8.out (sizeSt _ _) (by rw [scs_size, scs_size]) (scs_one F rfl) ?_)
  intro w9 h9 g9
  have B9 : Below w.heap.size w8 w9 := grown_below g9 G8.out.size hl3
  have G9 := Lib.hid (grown_onE G8.out g9 hl3)
  have K9 : Hid (Sx w9 g2 (fun _ => 0) (.slice none 0 0)) := Lib.hid ((g9.block _ K8.out.lt (by simpa using h23)).trans K8.out)
  have R9 := Lib.hid (R8.out.under HB.out B9)
  have H9 : Hid (Sx w9 g3 F (.slice none 0 0)) := Lib.hid h9
  clear h9 g9 B9 H8 K8 R8
  have N9 := Lib.hid (N0.out w9 R9.out)
  obtain ⟨AG, hAG⟩ : ∃ v, Value.agg (scs F (.slice none 0 0)) = v := ⟨_, rfl⟩
  rw [hAG]
  clear hAG N0
  go_wp2_with fail
  refine N9.out.mono ?_
  rintro e w10 ⟨rfl, hr, hg⟩
  have G10 := Lib.hid (grown_trans G9.out hg)
  have K10 : Hid (Sx w10 g2 (fun _ => 0) (.slice none 0 0)) := Lib.hid (grown_step G9.out hg HB.out l2 K9.out)
  have H10 : Hid (Sx w10 g3 F (.slice none 0 0)) := Lib.hid (grown_step G9.out hg HB.out hl3 H9.out)
  have R10 := Lib.hid hr
  clear hr hg N9 K9 H9 R9
  go_wp2
  go_loopw [9] (fun i wr => ∃ (j : Nat) (u : Value) (ys : List Wr) (st : Cod.S), j ≤ N ∧ i = .int .i64 j ∧ ys.length = j ∧ Hid (st = (Cod.wrsS j S1).2) ∧ Hid (st.2 = 0 → ys = (Cod.wrsS j S1).1) ∧ Sx wr g3 F u ∧ wr.ownsRow w.heap.size 55 6 u j (wcl ys) ∧ RdA wr B st ∧ w.grownBy wr (some B) ∧ Sx wr g2 (fun _ => 0) (.slice none 0 0)) (fun i _ => N - (intOf i).toNat)
  case atStart => exact ⟨0, _, [], S1, Nat.zero_le _, rfl, rfl, Lib.hid (by simp only [Cod.wrsS]), Lib.hid (fun _ => by simp only [Cod.wrsS]), H10.out, World.ownsRow_nil _ _ _ _, R10.out, G10.out, K10.out⟩
  case round =>
    clear H10 R10 G10 K10
    obtain ⟨j, u, ys, st, hj, rfl, hys, HST, HYS, hh, hown, hrd, hgr, hk⟩ := hrel
    have H0 := Lib.hid hh; have OW := Lib.hid hown; have RD := Lib.hid hrd; have GR := Lib.hid hgr; have KK := Lib.hid hk
    have HLen := Lib.hid hys
    clear hh hown hrd hgr hk hys
    by_cases hjk : j < N
    · have hjk' : (j : Int) < N := by omega
      have nT : st.1.length ≤ 1000000 := by
        have := Cod.wrsS_len j S1
        rw [HST.out]; omega
      have RDT : Hid (∀ W, Below wr.heap.size wr W → Calls Tryd.prog 55 #[.pointer (some ⟨B, 0, none⟩)] W (GotA W B (.agg (wrP st).cells.toArray) (Cod.wrS st).2)) := Lib.hid fun W hW => readWrite_any B st W (RD.out.below hW) nT
      have ST2 : Hid ((Cod.wrS st).2 = (Cod.wrsS (j + 1) S1).2) := Lib.hid (by rw [(Cod.wrsS_step j S1).1, HST.out])
      have YS2 : Hid ((Cod.wrS st).2.2 = 0 → ys ++ [wrP st] = (Cod.wrsS (j + 1) S1).1) := Lib.hid fun h0 => by
        rw [(Cod.wrsS_step j S1).2, wrP_ok h0, HYS.out (Cod.wrS_keep h0), HST.out]
      have XN : Hid (wcl ys ++ (wrP st).cells = wcl (ys ++ [wrP st])) := Lib.hid (wcl_snoc ys (wrP st)).symm
      have YO : ∀ v ∈ (wrP st).cells, v.oneCell' = true := (wrP st).cells_one
      generalize (Cod.wrS st).2 = TK at RDT ST2 YS2
      generalize wrP st = y at RDT YS2 XN YO
      have LN2 : Hid ((ys ++ [y]).length = j + 1) := Lib.hid (by rw [List.length_append, HLen.out]; rfl)
      obtain ⟨ys2, hys2⟩ : ∃ X, ys ++ [y] = X := ⟨_, rfl⟩
      rw [hys2] at YS2 XN LN2
      clear hys2
      obtain ⟨xs, hxs⟩ : ∃ X, wcl ys = X := ⟨_, rfl⟩
      rw [hxs] at XN OW
      clear hxs
      obtain ⟨yr, yn, yt, yd, yf, ytx⟩ := y
      have RDT : Hid (∀ W, Below wr.heap.size wr W → Calls Tryd.prog 55 #[.pointer (some ⟨B, 0, none⟩)] W (GotA W B (.agg #[.int .i64 yr, .int .i64 yn, .int .i64 yt, .string yd, .int .i64 yf, .string ytx]) TK)) := RDT
      have XN : Hid (xs ++ [.int .i64 yr, .int .i64 yn, .int .i64 yt, .string yd, .int .i64 yf, .string ytx] = wcl ys2) := XN
      have YO : Hid (∀ v ∈ ([.int .i64 yr, .int .i64 yn, .int .i64 yt, .string yd, .int .i64 yf, .string ytx] : List Value), v.oneCell' = true) := Lib.hid YO
      go_wp2_with fail
      rename_i K2 hK2
      have SZ : ∀ w : World, (sizeOf 25).run Tryd.prog w = .ok 1 w := fun w => by kernel_rfl
      have FIN : ∀ (X15 v' : Value) (W : World), Sx W g3 F v' → W.ownsRow w.heap.size 55 6 v' (j + 1) (xs ++ [.int .i64 yr, .int .i64 yn, .int .i64 yt, .string yd, .int .i64 yf, .string ytx]) → RdA W B TK → w.grownBy W (some B) → Sx W g2 (fun _ => 0) (.slice none 0 0) → K2 { tmps := #[.pointer (some ⟨B, 0, none⟩), undef, .pointer (some ⟨g2, 0, none⟩), .pointer (some ⟨g3, 0, none⟩), .pointer (some ⟨B, 0, none⟩), .agg (vf F), AG, .pointer (some ⟨B, 0, none⟩), .int .i64 (N : Int), .int .i64 (j : Int), .bool true, .pointer (some ⟨g3, 64, none⟩), u, .pointer (some ⟨B, 0, none⟩), .agg #[.int .i64 yr, .int .i64 yn, .int .i64 yt, .string yd, .int .i64 yf, .string ytx], X15, v', .pointer (some ⟨g3, 64, none⟩), u18, undef, undef, undef, undef, undef, undef, undef, undef, undef, undef, undef, undef, undef, undef, undef], defers := [] } W := by
        intro X15 v' W q1 q2 q3 q4 q5
        refine hK2 _ _ ?_
        clear hK2
        rw [XN.out] at q2
        have P1 := Lib.hid q1; have P2 := Lib.hid q2; have P3 := Lib.hid q3; have P4 := Lib.hid q4; have P5 := Lib.hid q5
        clear q1 q2 q3 q4 q5 RDT
        go_wp2
        go_roundw
        case rel => exact ⟨j + 1, v', ys2, TK, by omega, by go_num, LN2.out, ST2, YS2, P1.out, P2.out, P3.out, P4.out, P5.out⟩
        case measure => simp [intOf]; omega
      have GD := Lib.hid (grown_on GR.out (to_drew (Below.refl w.heap.size wr)))
      have HD : Hid (Sx wr.drew g3 F u) := Lib.hid H0.out
      have KD : Hid (Sx wr.drew g2 (fun _ => 0) (.slice none 0 0)) := Lib.hid KK.out
      have OD := Lib.hid (own_later OW.out (to_drew (Below.refl wr.heap.size wr)))
      obtain ⟨i0, hi, hz0, hz1, hz2⟩ := info_parts infoWr
      refine rg_last (by kernel_rfl) rfl (S := fun _ => True) ?_
      refine rgd_pure 0 (some 11) rfl rfl (.pointer (some ⟨g3, 64, none⟩)) (by kernel_rfl) (by kernel_rfl) (by kernel_rfl) (fun _ _ _ _ h => h) (by kernel_rfl) (fun w => by kernel_rfl) trivial ?_
      refine rgd_pure 2 (some 13) rfl rfl (.pointer (some ⟨B, 0, none⟩)) (by kernel_rfl) (by kernel_rfl) (by kernel_rfl) (fun _ _ _ _ h => h) (by kernel_rfl) (fun w => by kernel_rfl) trivial ?_
      refine rgd_two 1 3 (some 12) (some 14) (by kernel_rfl) rfl rfl (by kernel_rfl) u wr.drew (exec_load1 _ _ rfl Tryd.underlying25 rfl ⟨g3, 64, none⟩ u (by kernel_rfl) (Sx.slot HD.out)) rfl rfl (by kernel_rfl) 55 #[.pointer (some ⟨B, 0, none⟩)] (by kernel_rfl) (RDT.out wr.drew (to_drew (Below.refl _ _))) trivial ?_ ?_
      · refine rgd_call 3 (some 14) (by kernel_rfl) rfl rfl (by kernel_rfl) 55 #[.pointer (some ⟨B, 0, none⟩)] (by kernel_rfl) (RDT.out wr.drew (to_drew (Below.refl _ _))) ?_
        rintro e U1 ⟨rfl, r1, g1⟩
        refine ⟨_, rfl, trivial, ?_⟩
        have hU : Sx U1 g3 F u := grown_step GD.out g1 HB.out hl3 HD.out
        have kU : Sx U1 g2 (fun _ => 0) (.slice none 0 0) := grown_step GD.out g1 HB.out l2 KD.out
        have oU := own_keep OD.out g1 (own_above OD.out HB.out)
        have gU := grown_trans GD.out g1
        have bA := below_alloc U1 (.cells #[.int .i64 yr, .int .i64 yn, .int .i64 yt, .string yd, .int .i64 yf, .string ytx] 55)
        have rA := r1.below bA
        have hA : Sx (U1.alloc (.cells #[.int .i64 yr, .int .i64 yn, .int .i64 yt, .string yd, .int .i64 yf, .string ytx] 55)) g3 F u := hU.later bA
        have kA : Sx (U1.alloc (.cells #[.int .i64 yr, .int .i64 yn, .int .i64 yt, .string yd, .int .i64 yf, .string ytx] 55)) g2 (fun _ => 0) (.slice none 0 0) := kU.later bA
        have oA := own_later oU bA
        have gA := grown_on gU (bA.mono gU.size)
        have nA := heap_alloc_new U1 (.cells #[.int .i64 yr, .int .i64 yn, .int .i64 yt, .string yd, .int .i64 yf, .string ytx] 55)
        obtain ⟨v1, w1', hrun, o1, q1, _⟩ := run_append_own (P := Tryd.prog) (w := U1.alloc (.cells #[.int .i64 yr, .int .i64 yn, .int .i64 yt, .string yd, .int .i64 yf, .string ytx] 55)) w.heap.size 25 25 55 i0 _ 6 64 Tryd.underlying25 hi hz0 hz1 hz2 rfl (by decide) u j xs oA ⟨U1.heap.size, 0, none⟩ 1 1 [.int .i64 yr, .int .i64 yn, .int .i64 yt, .string yd, .int .i64 yf, .string ytx] rfl (fun k y hy => by rw [Addr.add_lit, Nat.zero_add, cell_of_row _ U1.heap.size k _ _ _ nA]; simpa using hy) YO.out (by unfold maxLen; have := N4.out; omega) (by have := N4.out; omega) gA.size
        have bW : Below w.heap.size (U1.alloc (.cells #[.int .i64 yr, .int .i64 yn, .int .i64 yt, .string yd, .int .i64 yf, .string ytx] 55)) w1' := (Below.refl _ _).grown q1 gA.size (fun k hk => (oA.lt k hk).1)
        have hW : Sx w1' g3 F u := (q1.block g3 hA.lt (own_not oA hA (by decide))).trans hA
        have kW : Sx w1' g2 (fun _ => 0) (.slice none 0 0) := (q1.block g2 kA.lt (own_not oA kA (by decide))).trans kA
        have rW := rA.under HB.out bW
        have gW := grown_on gA bW
        obtain ⟨pv, cv, hv1⟩ := own_slice o1
        subst hv1
        have gS := grown_cell w1' g3 64 (.slice pv (j + 1) cv)
        have hS := hW.setSlot (.slice pv (j + 1) cv)
        have kS : Sx _ g2 (fun _ => 0) (.slice none 0 0) := (gS.block g2 kW.lt (by simpa using h23)).trans kW
        have oS := own_keep o1 gS (.inr fun e => own_not o1 hW (by decide) e.symm)
        have rS := rW.under HB.out (grown_below gS gW.size hl3)
        have gE := grown_onE gW gS hl3
        have KE := FIN (.slice (some ⟨U1.heap.size, 0, none⟩) 1 1) (.slice pv (j + 1) cv) _ hS oS rS gE kS
        refine rgd_run 4 (some 15) (by kernel_rfl) rfl rfl (by kernel_rfl) (.slice (some ⟨U1.heap.size, 0, none⟩) 1 1) (U1.alloc (.cells #[.int .i64 yr, .int .i64 yn, .int .i64 yt, .string yd, .int .i64 yf, .string ytx] 55)) (by kernel_rfl) trivial ?_
        refine rgd_run 5 (some 16) (by kernel_rfl) rfl rfl (by kernel_rfl) (.slice pv (j + 1) cv) w1' (exec_appendV _ _ rfl _ _ (by kernel_rfl) (by kernel_rfl) hrun) trivial ?_
        refine rgd_pure 6 (some 17) rfl rfl (.pointer (some ⟨g3, 64, none⟩)) (by kernel_rfl) (by kernel_rfl) (by kernel_rfl) (fun _ _ _ _ h => h) (by kernel_rfl) (fun w => by kernel_rfl) trivial ?_
        refine rgd_do 7 none (by kernel_rfl) rfl rfl (by kernel_rfl) _ (exec_storeV _ _ _ rfl SZ ⟨g3, 64, none⟩ pv (j + 1) cv u (by kernel_rfl) (by kernel_rfl) hW.slot (frozen_of_row _ g3 64 _ _ hW)) trivial ?_
        exact wpAnyH_done (by kernel_rfl) (Eq.mp (by kernel_rfl) KE) _
      · rintro e U1 ⟨rfl, r1, g1⟩
        refine ⟨_, rfl, trivial, ?_⟩
        have hU : Sx U1 g3 F u := grown_step GD.out g1 HB.out hl3 HD.out
        have kU : Sx U1 g2 (fun _ => 0) (.slice none 0 0) := grown_step GD.out g1 HB.out l2 KD.out
        have oU := own_keep OD.out g1 (own_above OD.out HB.out)
        have gU := grown_trans GD.out g1
        have bA := below_alloc U1 (.cells #[.int .i64 yr, .int .i64 yn, .int .i64 yt, .string yd, .int .i64 yf, .string ytx] 55)
        have rA := r1.below bA
        have hA : Sx (U1.alloc (.cells #[.int .i64 yr, .int .i64 yn, .int .i64 yt, .string yd, .int .i64 yf, .string ytx] 55)) g3 F u := hU.later bA
        have kA : Sx (U1.alloc (.cells #[.int .i64 yr, .int .i64 yn, .int .i64 yt, .string yd, .int .i64 yf, .string ytx] 55)) g2 (fun _ => 0) (.slice none 0 0) := kU.later bA
        have oA := own_later oU bA
        have gA := grown_on gU (bA.mono gU.size)
        have nA := heap_alloc_new U1 (.cells #[.int .i64 yr, .int .i64 yn, .int .i64 yt, .string yd, .int .i64 yf, .string ytx] 55)
        obtain ⟨v1, w1', hrun, o1, q1, _⟩ := run_append_own (P := Tryd.prog) (w := U1.alloc (.cells #[.int .i64 yr, .int .i64 yn, .int .i64 yt, .string yd, .int .i64 yf, .string ytx] 55)) w.heap.size 25 25 55 i0 _ 6 64 Tryd.underlying25 hi hz0 hz1 hz2 rfl (by decide) u j xs oA ⟨U1.heap.size, 0, none⟩ 1 1 [.int .i64 yr, .int .i64 yn, .int .i64 yt, .string yd, .int .i64 yf, .string ytx] rfl (fun k y hy => by rw [Addr.add_lit, Nat.zero_add, cell_of_row _ U1.heap.size k _ _ _ nA]; simpa using hy) YO.out (by unfold maxLen; have := N4.out; omega) (by have := N4.out; omega) gA.size
        have bW : Below w.heap.size (U1.alloc (.cells #[.int .i64 yr, .int .i64 yn, .int .i64 yt, .string yd, .int .i64 yf, .string ytx] 55)) w1' := (Below.refl _ _).grown q1 gA.size (fun k hk => (oA.lt k hk).1)
        have hW : Sx w1' g3 F u := (q1.block g3 hA.lt (own_not oA hA (by decide))).trans hA
        have kW : Sx w1' g2 (fun _ => 0) (.slice none 0 0) := (q1.block g2 kA.lt (own_not oA kA (by decide))).trans kA
        have rW := rA.under HB.out bW
        have gW := grown_on gA bW
        obtain ⟨pv, cv, hv1⟩ := own_slice o1
        subst hv1
        have gS := grown_cell w1' g3 64 (.slice pv (j + 1) cv)
        have hS := hW.setSlot (.slice pv (j + 1) cv)
        have kS : Sx _ g2 (fun _ => 0) (.slice none 0 0) := (gS.block g2 kW.lt (by simpa using h23)).trans kW
        have oS := own_keep o1 gS (.inr fun e => own_not o1 hW (by decide) e.symm)
        have rS := rW.under HB.out (grown_below gS gW.size hl3)
        have gE := grown_onE gW gS hl3
        have KE := FIN (.slice (some ⟨U1.heap.size, 0, none⟩) 1 1) (.slice pv (j + 1) cv) _ hS oS rS gE kS
        refine rgd_acts 1 4 (some 12) (some 15) (by kernel_rfl) rfl rfl (by kernel_rfl) u U1 (exec_load1 _ _ rfl Tryd.underlying25 rfl ⟨g3, 64, none⟩ u (by kernel_rfl) (Sx.slot hU)) trivial rfl rfl (by kernel_rfl) (.slice (some ⟨U1.heap.size, 0, none⟩) 1 1) (U1.alloc (.cells #[.int .i64 yr, .int .i64 yn, .int .i64 yt, .string yd, .int .i64 yf, .string ytx] 55)) (by kernel_rfl) trivial ?_ ?_
        · refine rgd_run 4 (some 15) (by kernel_rfl) rfl rfl (by kernel_rfl) (.slice (some ⟨U1.heap.size, 0, none⟩) 1 1) (U1.alloc (.cells #[.int .i64 yr, .int .i64 yn, .int .i64 yt, .string yd, .int .i64 yf, .string ytx] 55)) (by kernel_rfl) trivial ?_
          refine rgd_run 5 (some 16) (by kernel_rfl) rfl rfl (by kernel_rfl) (.slice pv (j + 1) cv) w1' (exec_appendV _ _ rfl _ _ (by kernel_rfl) (by kernel_rfl) hrun) trivial ?_
          refine rgd_pure 6 (some 17) rfl rfl (.pointer (some ⟨g3, 64, none⟩)) (by kernel_rfl) (by kernel_rfl) (by kernel_rfl) (fun _ _ _ _ h => h) (by kernel_rfl) (fun w => by kernel_rfl) trivial ?_
          refine rgd_do 7 none (by kernel_rfl) rfl rfl (by kernel_rfl) _ (exec_storeV _ _ _ rfl SZ ⟨g3, 64, none⟩ pv (j + 1) cv u (by kernel_rfl) (by kernel_rfl) hW.slot (frozen_of_row _ g3 64 _ _ hW)) trivial ?_
          exact wpAnyH_done (by kernel_rfl) (Eq.mp (by kernel_rfl) KE) _
        · refine rgd_run 1 (some 12) (by kernel_rfl) rfl rfl (by kernel_rfl) u _ (exec_load1 _ _ rfl Tryd.underlying25 rfl ⟨g3, 64, none⟩ u (by kernel_rfl) (Sx.slot hA)) trivial ?_
          refine rgd_run 5 (some 16) (by kernel_rfl) rfl rfl (by kernel_rfl) (.slice pv (j + 1) cv) w1' (exec_appendV _ _ rfl _ _ (by kernel_rfl) (by kernel_rfl) hrun) trivial ?_
          refine rgd_pure 6 (some 17) rfl rfl (.pointer (some ⟨g3, 64, none⟩)) (by kernel_rfl) (by kernel_rfl) (by kernel_rfl) (fun _ _ _ _ h => h) (by kernel_rfl) (fun w => by kernel_rfl) trivial ?_
          refine rgd_do 7 none (by kernel_rfl) rfl rfl (by kernel_rfl) _ (exec_storeV _ _ _ rfl SZ ⟨g3, 64, none⟩ pv (j + 1) cv u (by kernel_rfl) (by kernel_rfl) hW.slot (frozen_of_row _ g3 64 _ _ hW)) trivial ?_
          exact wpAnyH_done (by kernel_rfl) (Eq.mp (by kernel_rfl) KE) _
    · obtain rfl : j = N := by omega
      have hjk' : ¬ ((j : Nat) : Int) < j := by omega
      obtain ⟨pu, cu, hu, _, wat, off⟩ := own_wat (L := ys) (by rw [HLen.out]; exact OW.out)
      rw [HLen.out] at hu
      subst hu
      have WA := Lib.hid wat
      clear wat off
      have ER := Lib.hid (err_any B st wr RD.out)
      have R0 := Lib.hid (H0.out.whole)
      have CK := Lib.hid (docCan_is F pu cu ys wr WA.out (HT.out wr GR.out))
      rw [HLen.out] at CK
      go_wp2_with fail
      refine ER.out.mono ?_
      rintro e w11 ⟨rfl, rfl⟩
      have FINZ : Hid (RF = (fun _ => 0) ∧ RL = [] ∧ RS = Cod.failS 3 st → ∀ W : World, Sx W g2 (fun _ => 0) (.slice none 0 0) → RdA W B (Cod.failS 3 st) → w.grownBy W (some B) → GotStA w B RF RL RS (.returned (.agg (scs (fun _ => 0) (.slice none 0 0)))) W) := Lib.hid fun ⟨h1, h2, h3⟩ W q1 q2 q3 => by
        rw [h1, h2, h3]
        exact ⟨none, 0, rfl, ⟨fun h => absurd rfl h, fun _ => rfl⟩, q2, q3⟩
      by_cases he : st.2 = 0
      · rw [he]
        have HYE := Lib.hid (HYS.out he)
        cases hcan : canB F ys with
        | true =>
          rw [hcan] at CK
          have ALL : Hid (RF = F ∧ RL = ys ∧ RS = st) := Lib.hid (by
            have := YES.out (by rw [← HST.out]; exact he) (by rw [← HYE.out]; exact hcan)
            rw [← HYE.out, ← HST.out] at this; exact this)
          clear hcan YES NO FINZ
          go_wp2_with (refine wpList_gloadG (by rfl) _ rfl g3 0 rfl _ R0.out _ Tryd.underlying27 rfl (sizeStl _ _) ?_)
          refine CK.out.mono ?_
          rintro e w12 ⟨rfl, hb12⟩
          have E12 := Lib.hid (err_any B st w12 (RD.out.below hb12))
          have R12 := Lib.hid (range_below R0.out hb12)
          have K12 : Hid (Sx w12 g2 (fun _ => 0) (.slice none 0 0)) := Lib.hid (KK.out.later hb12)
          have G12 := Lib.hid (grown_on GR.out (hb12.mono GR.out.size))
          have RD12 := Lib.hid (RD.out.below hb12)
          have OW12 := Lib.hid (own_later OW.out hb12)
          rw [he] at E12
          clear hb12 CK
          go_wp2_with fail
          refine E12.out.mono ?_
          rintro e w13 ⟨rfl, rfl⟩
          go_wp2_with (first | refine wpList_gload rfl _ rfl g3 0 rfl _ R12.out _ Tryd.underlying27 rfl (sizeStl _ _) ?_ | refine wpList_gstore rfl _ _ rfl g2 rfl (scs F (.slice pu j cu)) rfl _ _ K12.out (sizeSt _ _) (by rw [scs_size, scs_size]) (scs_one F rfl) ?_)
          intro w14 h14 g14
          have H14 := Lib.hid h14
          have G14 := Lib.hid (grown_onE G12.out g14 l2)
          have B14 := grown_below g14 G12.out.size l2
          have R14 := Lib.hid (RD12.out.under HB.out B14)
          have O14 := own_keep OW12.out g14 (.inr fun e => own_not OW12.out K12.out (by decide) e.symm)
          obtain ⟨p9, c9, e9, _, wat9, _⟩ := own_wat (L := ys) (by rw [HLen.out]; exact O14)
          injection e9 with e9 _ _
          subst e9
          have W14 := Lib.hid wat9
          clear h14 g14 B14 O14 wat9
          go_wp2
          exact bodyPost_ret (v := .agg (scs F (.slice pu j cu))) (results_cell_row rfl _ w14 g2 _ _ (0, 0) _ rfl H14.out Tryd.underlying27 rfl (sizeSt _ _)) rfl ⟨pu, cu, by rw [ALL.out.1, ALL.out.2.1, HLen.out], by rw [ALL.out.2.1]; exact W14.out, by rw [ALL.out.2.2]; exact R14.out, G14.out⟩
        | false =>
          rw [hcan] at CK
          have ALL := Lib.hid (FINZ.out (by
            have := NO.out fun _ => by rw [← HYE.out]; exact hcan
            rw [← HST.out] at this; exact this))
          clear hcan YES NO FINZ
          go_wp2_with (refine wpList_gloadG (by rfl) _ rfl g3 0 rfl _ R0.out _ Tryd.underlying27 rfl (sizeStl _ _) ?_)
          refine CK.out.mono ?_
          rintro e w12 ⟨rfl, hb12⟩
          have FL := Lib.hid (fail_any B 3 st w12 (RD.out.below hb12) (by omega))
          have K12 : Hid (Sx w12 g2 (fun _ => 0) (.slice none 0 0)) := Lib.hid (KK.out.later hb12)
          have G12 := Lib.hid (grown_on GR.out (hb12.mono GR.out.size))
          clear hb12 CK
          go_wp2_with fail
          refine FL.out.mono ?_
          rintro e w13 ⟨rfl, hr13, hg13⟩
          have K13 : Hid (Sx w13 g2 (fun _ => 0) (.slice none 0 0)) := Lib.hid (grown_step G12.out hg13 HB.out l2 K12.out)
          have G13 := Lib.hid (grown_trans G12.out hg13)
          have R13 := Lib.hid hr13
          have E13 := Lib.hid (err_any B _ w13 hr13)
          have h3 : (Cod.failS 3 st).2 = 3 := by unfold Cod.failS; rw [if_pos he]
          rw [h3] at E13
          clear hr13 hg13 FL h3 he
          go_wp2_with fail
          refine E13.out.mono ?_
          rintro e w14 ⟨rfl, rfl⟩
          go_wp2_with (first | refine wpList_pbuild (by rfl) _ rfl (scs (fun _ => 0) (.slice none 0 0)) (by simp only [List.map_toArray, List.map_nil]; exact builtSt0 _) ?_ | refine wpList_gstore rfl _ _ rfl g2 rfl (scs (fun _ => 0) (.slice none 0 0)) rfl _ _ K13.out (sizeSt _ _) (by rw [scs_size]) (scs_one (fun _ => 0) rfl) ?_)
          intro w15 h15 g15
          have H15 := Lib.hid h15
          have G15 := Lib.hid (grown_onE G13.out g15 l2)
          have R15 := Lib.hid (R13.out.under HB.out (grown_below g15 G13.out.size l2))
          clear h15 g15
          go_wp2
          exact bodyPost_ret (v := .agg (scs (fun _ => 0) (.slice none 0 0))) (results_cell_row rfl _ w15 g2 _ _ (0, 0) _ rfl H15.out Tryd.underlying27 rfl (sizeSt _ _)) rfl (ALL.out w15 H15.out R15.out G15.out)
      · have ALL := Lib.hid (FINZ.out (by
          have := NO.out fun h0 => absurd (by rw [HST.out]; exact h0) he
          rw [← HST.out] at this; exact this))
        have hF3 : Cod.failS 3 st = st := by unfold Cod.failS; rw [if_neg he]
        rw [hF3] at ALL
        have hne : (((st.2 : Nat) : Int) == 0) = false := by simpa using he
        have hne2 : (((st.2 : Nat) : Int) != 0) = true := by simpa using he
        have K13 := KK; have G13 := GR; have R13 := RD
        have E13 := Lib.hid (err_any B st wr RD.out)
        clear he hF3 YES NO FINZ CK
        generalize ((st.2 : Nat) : Int) = ee at E13 hne hne2 ⊢
        go_wp2_with fail
        refine E13.out.mono ?_
        rintro e w14 ⟨rfl, rfl⟩
        go_wp2_with (first | refine wpList_pbuild (by rfl) _ rfl (scs (fun _ => 0) (.slice none 0 0)) (by simp only [List.map_toArray, List.map_nil]; exact builtSt0 _) ?_ | refine wpList_gstore rfl _ _ rfl g2 rfl (scs (fun _ => 0) (.slice none 0 0)) rfl _ _ K13.out (sizeSt _ _) (by rw [scs_size]) (scs_one (fun _ => 0) rfl) ?_)
        intro w15 h15 g15
        have H15 := Lib.hid h15
        have G15 := Lib.hid (grown_onE G13.out g15 l2)
        have R15 := Lib.hid (R13.out.under HB.out (grown_below g15 G13.out.size l2))
        clear h15 g15
        go_wp2
        exact bodyPost_ret (v := .agg (scs (fun _ => 0) (.slice none 0 0))) (results_cell_row rfl _ w15 g2 _ _ (0, 0) _ rfl H15.out Tryd.underlying27 rfl (sizeSt _ _)) rfl (ALL.out w15 H15.out R15.out G15.out)
end Go.Proofs.YtpngmjfnpdjjcaaDoor
