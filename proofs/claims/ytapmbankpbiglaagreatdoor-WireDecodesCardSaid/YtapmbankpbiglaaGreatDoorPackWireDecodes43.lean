/- The statement WireDecodes, proved for every input that its row reads: part 43 of 54. -/
import Derived.Test.YtapmbankpbiglaaGreatDoorPackWireDecodes36
import Derived.Test.YtapmbankpbiglaaGreatDoorPackWireDecodes42
import Derived.Test.YtapmbankpbiglaaGreatDoorPackWireDecodes40
import Derived.Test.YtapmbankpbiglaaGreatDoorPackWireDecodes25
import Derived.Test.YtapmbankpbiglaaGreatDoorPackWireDecodes33
import Derived.Test.YtapmbankpbiglaaGreatDoorPackWireDecodes21
import Derived.Test.YtapmbankpbiglaaGreatDoorPackWireDecodes10
import Derived.Test.YtapmbankpbiglaaGreatDoorPackWireDecodes8
import Derived.Test.YtapmbankpbiglaaGreatDoorPackWireDecodes37
/- docs.ReadState of any bytes. -/
namespace Go.Proofs.YtapmbankpbiglaaGreatDoor
open Go Go.RowKit
set_option linter.unusedVariables false
set_option maxRecDepth 1000000

/-- how many writes are to be read, and what is behind that -/
def cntS (s : Cod.S) : Nat × Cod.S := Cod.numS 4096 (outS s)
def rdW (s : Cod.S) : List Wr × Cod.S := Cod.wrsS (cntS s).1 (cntS s).2
/-- can what was read be a state? -/
noncomputable def okS (s : Cod.S) : Bool := decide ((rdW s).2.2 = 0) && canB (outV s) (rdW s).1
/-- what reading a state comes to -/
noncomputable def stV (s : Cod.S) : Nat → Int := if okS s = true then outV s else fun _ => 0
noncomputable def stL (s : Cod.S) : List Wr := if okS s = true then (rdW s).1 else []
noncomputable def stS (s : Cod.S) : Cod.S := if okS s = true then (rdW s).2 else Cod.failS 3 (rdW s).2
def GotStA (w : World) (B : Nat) (F : Nat → Int) (L : List Wr) (s : Cod.S) (e : Ending) (w' : World) : Prop := ∃ p c, e = .returned (.agg (scs F (.slice p L.length c))) ∧ WrsAt w' p L ∧ RdA w' B s ∧ w.grownBy w' (some B)
theorem wcl_snoc (l : List Wr) (y : Wr) : wcl (l ++ [y]) = wcl l ++ y.cells := by rw [wcl_append]; simp [wcl]
theorem cnt_le (s : Cod.S) : (cntS s).1 ≤ 4096 := by
  have h := numS_small (many := 4096) (s := outS s) (by omega)
  unfold cntS
  omega
theorem cnt_len (s : Cod.S) : (cntS s).2.1.length ≤ s.1.length := by
  unfold cntS
  exact Nat.le_trans (Cod.numS_len _ _) (outS_len s)
set_option maxHeartbeats 8000000 in
theorem readState_any (B : Nat) (s : Cod.S) (w : World) (h : RdA w B s) (hT : ∀ w', w.grownBy w' (some B) → Shapes w') (hl : s.1.length ≤ 1000000) :
    Calls Tryz.prog 33 #[.pointer (some ⟨B, 0, none⟩)] w (GotStA w B (stV s) (stL s) (stS s)) := by
  have HB := Lib.hid h.lt
  have HT := Lib.hid hT
  have hB := h.lt
  clear hT
  have V0 : Hid (∀ V : World, RdA V B s → Calls Tryz.prog 31 #[.pointer (some ⟨B, 0, none⟩)] V fun e w' => e = .returned (.agg (vf (outV s))) ∧ RdA w' B (outS s) ∧ V.grownBy w' (some B)) := Lib.hid fun V hV => vread_is B s V hV (by omega)
  have N0 : Hid (∀ V : World, RdA V B (outS s) → Calls Tryz.prog 30 #[.pointer (some ⟨B, 0, none⟩), .int .i64 4096] V (GotA V B (.int .i64 (cntS s).1) (cntS s).2)) := Lib.hid fun V hV => by unfold cntS; exact num_all B _ _ V hV (Nat.le_trans (outS_len s) (by omega)) (by omega)
  have n4 := cnt_le s
  have n1 : (cntS s).2.1.length ≤ 1000000 := Nat.le_trans (cnt_len s) hl
  obtain ⟨F, hF⟩ : ∃ X, outV s = X := ⟨_, rfl⟩
  obtain ⟨O, hO⟩ : ∃ X, outS s = X := ⟨_, rfl⟩
  obtain ⟨C, hC⟩ : ∃ X, cntS s = X := ⟨_, rfl⟩
  obtain ⟨RF, hRF⟩ : ∃ X, stV s = X := ⟨_, rfl⟩
  obtain ⟨RL, hRL⟩ : ∃ X, stL s = X := ⟨_, rfl⟩
  obtain ⟨RS, hRS⟩ : ∃ X, stS s = X := ⟨_, rfl⟩
  have YES : Hid ((Cod.wrsS C.1 C.2).2.2 = 0 → canB F (Cod.wrsS C.1 C.2).1 = true → RF = F ∧ RL = (Cod.wrsS C.1 C.2).1 ∧ RS = (Cod.wrsS C.1 C.2).2) := Lib.hid fun h1 h2 => by
    have hk : okS s = true := by unfold okS rdW; rw [hC, hF, h1, h2]; simp
    rw [← hRF, ← hRL, ← hRS]
    unfold stV stL stS
    rw [if_pos hk, if_pos hk, if_pos hk]
    unfold rdW
    rw [hC, hF]
    exact ⟨rfl, rfl, rfl⟩
  have NO : Hid (((Cod.wrsS C.1 C.2).2.2 = 0 → canB F (Cod.wrsS C.1 C.2).1 = false) → RF = (fun _ => 0) ∧ RL = [] ∧ RS = Cod.failS 3 (Cod.wrsS C.1 C.2).2) := Lib.hid fun h1 => by
    have hk : ¬ okS s = true := by
      unfold okS rdW
      rw [hC, hF]
      intro h2
      simp only [Bool.and_eq_true, decide_eq_true_eq] at h2
      rw [h1 h2.1] at h2
      cases h2.2
    rw [← hRF, ← hRL, ← hRS]
    unfold stV stL stS
    rw [if_neg hk, if_neg hk, if_neg hk]
    unfold rdW
    rw [hC]
    exact ⟨rfl, rfl, rfl⟩
  rw [hF, hO] at V0
  rw [hO, hC] at N0
  rw [hC] at n4 n1
  rw [hRF, hRL, hRS]
  have H := Lib.hid h
  clear h hF hO hC hRF hRL hRS
  obtain ⟨N, S1⟩ := C
  simp only at N0 n4 n1 YES NO
  have N4 : Hid (N ≤ 4096) := Lib.hid n4
  go_enter Tryz.func33, Tryz.ntmps33
  go_wp2_with (refine wpList_galloc _ zeroSt rfl rfl ?_)
  intro g2 w1 l2 h2 hb1
  have K1 : Hid (Sx w1 g2 (fun _ => 0) (.slice none 0 0)) := Lib.hid h2
  have V2 := Lib.hid (V0.out w1 (H.out.below hb1))
  have G1 := Lib.hid (grown_less (R := some B) hb1)
  clear hb1 h2 V0
  go_wp2_with fail
  refine V2.out.mono ?_
  rintro e w2 ⟨rfl, hr, hg⟩
  have G2 := Lib.hid (grown_trans G1.out hg)
  have K2 : Hid (Sx w2 g2 (fun _ => 0) (.slice none 0 0)) := Lib.hid (grown_step G1.out hg HB.out l2 K1.out)
  have R2 := Lib.hid hr
  clear hr hg V2 K1
  go_wp2_with (first | refine wpList_pbuild (by rfl) _ rfl (scs F (.slice none 0 0)) (by simp only [List.map_toArray, List.map_cons, List.map_nil]; exact builtSt1 F _) ?_ | refine wpList_galloc _ zeroSt rfl rfl ?_)
  intro g3 w8 l8 h8 hb8
  have hl3 : w.heap.size ≤ g3 := Nat.le_trans G2.out.size l8
  have G8 := Lib.hid (grown_on G2.out (hb8.mono G2.out.size))
  have K8 : Hid (Sx w8 g2 (fun _ => 0) (.slice none 0 0)) := Lib.hid (K2.out.later hb8)
  have R8 := Lib.hid (R2.out.below hb8)
  have h23 : g2 ≠ g3 := by have := K2.out.lt; omega
  have H8 := Lib.hid h8
  clear hb8 h8 R2 K2 l8
  go_wp2_with (refine wpList_gstore rfl _ _ rfl g3 rfl (scs F (.slice none 0 0)) rfl _ _ H8.out (sizeSt _ _) (by rw [scs_size, scs_size]) (scs_one F rfl) ?_)
  intro w9 h9 g9
  have B9 : Below w.heap.size w8 w9 := grown_below g9 G8.out.size hl3
  have G9 := Lib.hid (grown_onE G8.out g9 hl3)
  have K9 : Hid (Sx w9 g2 (fun _ => 0) (.slice none 0 0)) := Lib.hid ((g9.block _ K8.out.lt (by simpa using h23)).trans K8.out)
  have R9 := Lib.hid (R8.out.under HB.out B9)
  have H9 : Hid (Sx w9 g3 F (.slice none 0 0)) := Lib.hid h9
  clear h9 g9 B9 H8 K8 R8
  have N9 := Lib.hid (N0.out w9 R9.out)
  obtain ⟨AG, hAG⟩ : ∃ v, Value.agg (scs F (.slice none 0 0)) = v := ⟨_, rfl⟩
  rw [hAG]
  clear hAG N0
  go_wp2_with fail
  refine N9.out.mono ?_
  rintro e w10 ⟨rfl, hr, hg⟩
  have G10 := Lib.hid (grown_trans G9.out hg)
  have K10 : Hid (Sx w10 g2 (fun _ => 0) (.slice none 0 0)) := Lib.hid (grown_step G9.out hg HB.out l2 K9.out)
  have H10 : Hid (Sx w10 g3 F (.slice none 0 0)) := Lib.hid (grown_step G9.out hg HB.out hl3 H9.out)
  have R10 := Lib.hid hr
  clear hr hg N9 K9 H9 R9
  go_wp2
  go_loopw [9] (fun i wr => ∃ (j : Nat) (u : Value) (ys : List Wr) (st : Cod.S), j ≤ N ∧ i = .int .i64 j ∧ ys.length = j ∧ Hid (st = (Cod.wrsS j S1).2) ∧ Hid (st.2 = 0 → ys = (Cod.wrsS j S1).1) ∧ Sx wr g3 F u ∧ wr.ownsRow w.heap.size 83 6 u j (wcl ys) ∧ RdA wr B st ∧ w.grownBy wr (some B) ∧ Sx wr g2 (fun _ => 0) (.slice none 0 0)) (fun i _ => N - (intOf i).toNat)
  case atStart => exact ⟨0, _, [], S1, Nat.zero_le _, rfl, rfl, Lib.hid (by simp only [Cod.wrsS]), Lib.hid (fun _ => by simp only [Cod.wrsS]), H10.out, World.ownsRow_nil _ _ _ _, R10.out, G10.out, K10.out⟩
  case round =>
    clear H10 R10 G10 K10
    obtain ⟨j, u, ys, st, hj, rfl, hys, HST, HYS, hh, hown, hrd, hgr, hk⟩ := hrel
    have H0 := Lib.hid hh; have OW := Lib.hid hown; have RD := Lib.hid hrd; have GR := Lib.hid hgr; have KK := Lib.hid hk
    have HLen := Lib.hid hys
    clear hh hown hrd hgr hk hys
    by_cases hjk : j < N
    · have hjk' : (j : Int) < N := by omega
      have nT : st.1.length ≤ 1000000 := by
        have := Cod.wrsS_len j S1
        rw [HST.out]; omega
      have RDT : Hid (∀ W, Below wr.heap.size wr W → Calls Tryz.prog 56 #[.pointer (some ⟨B, 0, none⟩)] W (GotA W B (.agg (wrP st).cells.toArray) (Cod.wrS st).2)) := Lib.hid fun W hW => readWrite_any B st W (RD.out.below hW) nT
      have ST2 : Hid ((Cod.wrS st).2 = (Cod.wrsS (j + 1) S1).2) := Lib.hid (by rw [(Cod.wrsS_step j S1).1, HST.out])
      have YS2 : Hid ((Cod.wrS st).2.2 = 0 → ys ++ [wrP st] = (Cod.wrsS (j + 1) S1).1) := Lib.hid fun h0 => by
        rw [(Cod.wrsS_step j S1).2, wrP_ok h0, HYS.out (Cod.wrS_keep h0), HST.out]
      have XN : Hid (wcl ys ++ (wrP st).cells = wcl (ys ++ [wrP st])) := Lib.hid (wcl_snoc ys (wrP st)).symm
      have YO : ∀ v ∈ (wrP st).cells, v.oneCell' = true := (wrP st).cells_one
      generalize (Cod.wrS st).2 = TK at RDT ST2 YS2
      generalize wrP st = y at RDT YS2 XN YO
      have LN2 : Hid ((ys ++ [y]).length = j + 1) := Lib.hid (by rw [List.length_append, HLen.out]; rfl)
      obtain ⟨ys2, hys2⟩ : ∃ X, ys ++ [y] = X := ⟨_, rfl⟩
      rw [hys2] at YS2 XN LN2
      clear hys2
      obtain ⟨xs, hxs⟩ : ∃ X, wcl ys = X := ⟨_, rfl⟩
      rw [hxs] at XN OW
      clear hxs
      obtain ⟨yr, yn, yt, yd, yf, ytx⟩ := y
      have RDT : Hid (∀ W, Below wr.heap.size wr W → Calls Tryz.prog 56 #[.pointer (some ⟨B, 0, none⟩)] W (GotA W B (.agg #[.int .i64 yr, .int .i64 yn, .int .i64 yt, .string yd, .int .i64 yf, .string ytx]) TK)) := RDT
      have XN : Hid (xs ++ [.int .i64 yr, .int .i64 yn, .int .i64 yt, .string yd, .int .i64 yf, .string ytx] = wcl ys2) := XN
      have YO : Hid (∀ v ∈ ([.int .i64 yr, .int .i64 yn, .int .i64 yt, .string yd, .int .i64 yf, .string ytx] : List Value), v.oneCell' = true) := Lib.hid YO
      go_wp2_with fail
      rename_i K2 hK2
      have SZ : ∀ w : World, (sizeOf 27).run Tryz.prog w = .ok 1 w := fun w => by kernel_rfl
      have FIN : ∀ (X15 v' : Value) (W : World), Sx W g3 F v' → W.ownsRow w.heap.size 83 6 v' (j + 1) (xs ++ [.int .i64 yr, .int .i64 yn, .int .i64 yt, .string yd, .int .i64 yf, .string ytx]) → RdA W B TK → w.grownBy W (some B) → Sx W g2 (fun _ => 0) (.slice none 0 0) → K2 { tmps := #[.pointer (some ⟨B, 0, none⟩), undef, .pointer (some ⟨g2, 0, none⟩), .pointer (some ⟨g3, 0, none⟩), .pointer (some ⟨B, 0, none⟩), .agg (vf F), AG, .pointer (some ⟨B, 0, none⟩), .int .i64 (N : Int), .int .i64 (j : Int), .bool true, .pointer (some ⟨g3, 64, none⟩), u, .pointer (some ⟨B, 0, none⟩), .agg #[.int .i64 yr, .int .i64 yn, .int .i64 yt, .string yd, .int .i64 yf, .string ytx], X15, v', .pointer (some ⟨g3, 64, none⟩), u18, undef, undef, undef, undef, undef, undef, undef, undef, undef, undef, undef, undef, undef, undef, undef], defers := [] } W := by
        intro X15 v' W q1 q2 q3 q4 q5
        refine hK2 _ _ ?_
        clear hK2
        rw [XN.out] at q2
        have P1 := Lib.hid q1; have P2 := Lib.hid q2; have P3 := Lib.hid q3; have P4 := Lib.hid q4; have P5 := Lib.hid q5
        clear q1 q2 q3 q4 q5 RDT
        go_wp2
        go_roundw
        case rel => exact ⟨j + 1, v', ys2, TK, by omega, by go_num, LN2.out, ST2, YS2, P1.out, P2.out, P3.out, P4.out, P5.out⟩
        case measure => simp [intOf]; omega
      have GD := Lib.hid (grown_on GR.out (to_drew (Below.refl w.heap.size wr)))
      have HD : Hid (Sx wr.drew g3 F u) := Lib.hid H0.out
      have KD : Hid (Sx wr.drew g2 (fun _ => 0) (.slice none 0 0)) := Lib.hid KK.out
      have OD := Lib.hid (own_later OW.out (to_drew (Below.refl wr.heap.size wr)))
      obtain ⟨i0, hi, hz0, hz1, hz2⟩ := info_parts infoWr
      refine rg_last (by kernel_rfl) rfl (S := fun _ => True) ?_
      refine rgd_pure 0 (some 11) rfl rfl (.pointer (some ⟨g3, 64, none⟩)) (by kernel_rfl) (by kernel_rfl) (by kernel_rfl) (fun _ _ _ _ h => h) (by kernel_rfl) (fun w => by kernel_rfl) trivial ?_
      refine rgd_pure 2 (some 13) rfl rfl (.pointer (some ⟨B, 0, none⟩)) (by kernel_rfl) (by kernel_rfl) (by kernel_rfl) (fun _ _ _ _ h => h) (by kernel_rfl) (fun w => by kernel_rfl) trivial ?_
      refine rgd_two 1 3 (some 12) (some 14) (by kernel_rfl) rfl rfl (by kernel_rfl) u wr.drew (exec_load1 _ _ rfl Tryz.underlying27 rfl ⟨g3, 64, none⟩ u (by kernel_rfl) (Sx.slot HD.out)) rfl rfl (by kernel_rfl) 56 #[.pointer (some ⟨B, 0, none⟩)] (by kernel_rfl) (RDT.out wr.drew (to_drew (Below.refl _ _))) trivial ?_ ?_
      · refine rgd_call 3 (some 14) (by kernel_rfl) rfl rfl (by kernel_rfl) 56 #[.pointer (some ⟨B, 0, none⟩)] (by kernel_rfl) (RDT.out wr.drew (to_drew (Below.refl _ _))) ?_
        rintro e U1 ⟨rfl, r1, g1⟩
        refine ⟨_, rfl, trivial, ?_⟩
        have hU : Sx U1 g3 F u := grown_step GD.out g1 HB.out hl3 HD.out
        have kU : Sx U1 g2 (fun _ => 0) (.slice none 0 0) := grown_step GD.out g1 HB.out l2 KD.out
        have oU := own_keep OD.out g1 (own_above OD.out HB.out)
        have gU := grown_trans GD.out g1
        have bA := below_alloc U1 (.cells #[.int .i64 yr, .int .i64 yn, .int .i64 yt, .string yd, .int .i64 yf, .string ytx] 83)
        have rA := r1.below bA
        have hA : Sx (U1.alloc (.cells #[.int .i64 yr, .int .i64 yn, .int .i64 yt, .string yd, .int .i64 yf, .string ytx] 83)) g3 F u := hU.later bA
        have kA : Sx (U1.alloc (.cells #[.int .i64 yr, .int .i64 yn, .int .i64 yt, .string yd, .int .i64 yf, .string ytx] 83)) g2 (fun _ => 0) (.slice none 0 0) := kU.later bA
        have oA := own_later oU bA
        have gA := grown_on gU (bA.mono gU.size)
        have nA := heap_alloc_new U1 (.cells #[.int .i64 yr, .int .i64 yn, .int .i64 yt, .string yd, .int .i64 yf, .string ytx] 83)
        obtain ⟨v1, w1', hrun, o1, q1, _⟩ := run_append_own (P := Tryz.prog) (w := U1.alloc (.cells #[.int .i64 yr, .int .i64 yn, .int .i64 yt, .string yd, .int .i64 yf, .string ytx] 83)) w.heap.size 27 27 83 i0 _ 6 64 Tryz.underlying27 hi hz0 hz1 hz2 rfl (by decide) u j xs oA ⟨U1.heap.size, 0, none⟩ 1 1 [.int .i64 yr, .int .i64 yn, .int .i64 yt, .string yd, .int .i64 yf, .string ytx] rfl (fun k y hy => by rw [Addr.add_lit, Nat.zero_add, cell_of_row _ U1.heap.size k _ _ _ nA]; simpa using hy) YO.out (by unfold maxLen; have := N4.out; omega) (by have := N4.out; omega) gA.size
        have bW : Below w.heap.size (U1.alloc (.cells #[.int .i64 yr, .int .i64 yn, .int .i64 yt, .string yd, .int .i64 yf, .string ytx] 83)) w1' := (Below.refl _ _).grown q1 gA.size (fun k hk => (oA.lt k hk).1)
        have hW : Sx w1' g3 F u := (q1.block g3 hA.lt (own_not oA hA (by decide))).trans hA
        have kW : Sx w1' g2 (fun _ => 0) (.slice none 0 0) := (q1.block g2 kA.lt (own_not oA kA (by decide))).trans kA
        have rW := rA.under HB.out bW
        have gW := grown_on gA bW
        obtain ⟨pv, cv, hv1⟩ := own_slice o1
        subst hv1
        have gS := grown_cell w1' g3 64 (.slice pv (j + 1) cv)
        have hS := hW.setSlot (.slice pv (j + 1) cv)
        have kS : Sx _ g2 (fun _ => 0) (.slice none 0 0) := (gS.block g2 kW.lt (by simpa using h23)).trans kW
        have oS := own_keep o1 gS (.inr fun e => own_not o1 hW (by decide) e.symm)
        have rS := rW.under HB.out (grown_below gS gW.size hl3)
        have gE := grown_onE gW gS hl3
        have KE := FIN (.slice (some ⟨U1.heap.size, 0, none⟩) 1 1) (.slice pv (j + 1) cv) _ hS oS rS gE kS
        refine rgd_run 4 (some 15) (by kernel_rfl) rfl rfl (by kernel_rfl) (.slice (some ⟨U1.heap.size, 0, none⟩) 1 1) (U1.alloc (.cells #[.int .i64 yr, .int .i64 yn, .int .i64 yt, .string yd, .int .i64 yf, .string ytx] 83)) (by kernel_rfl) trivial ?_
        refine rgd_run 5 (some 16) (by kernel_rfl) rfl rfl (by kernel_rfl) (.slice pv (j + 1) cv) w1' (exec_appendV _ _ rfl _ _ (by kernel_rfl) (by kernel_rfl) hrun) trivial ?_
        refine rgd_pure 6 (some 17) rfl rfl (.pointer (some ⟨g3, 64, none⟩)) (by kernel_rfl) (by kernel_rfl) (by kernel_rfl) (fun _ _ _ _ h => h) (by kernel_rfl) (fun w => by kernel_rfl) trivial ?_
        refine rgd_do 7 none (by kernel_rfl) rfl rfl (by kernel_rfl) _ (exec_storeV _ _ _ rfl SZ ⟨g3, 64, none⟩ pv (j + 1) cv u (by kernel_rfl) (by kernel_rfl) hW.slot (frozen_of_row _ g3 64 _ _ hW)) trivial ?_
        exact wpAnyH_done (by kernel_rfl) (Eq.mp (by kernel_rfl) KE) _
      · rintro e U1 ⟨rfl, r1, g1⟩
        refine ⟨_, rfl, trivial, ?_⟩
        have hU : Sx U1 g3 F u := grown_step GD.out g1 HB.out hl3 HD.out
        have kU : Sx U1 g2 (fun _ => 0) (.slice none 0 0) := grown_step GD.out g1 HB.out l2 KD.out
        have oU := own_keep OD.out g1 (own_above OD.out HB.out)
        have gU := grown_trans GD.out g1
        have bA := below_alloc U1 (.cells #[.int .i64 yr, .int .i64 yn, .int .i64 yt, .string yd, .int .i64 yf, .string ytx] 83)
        have rA := r1.below bA
        have hA : Sx (U1.alloc (.cells #[.int .i64 yr, .int .i64 yn, .int .i64 yt, .string yd, .int .i64 yf, .string ytx] 83)) g3 F u := hU.later bA
        have kA : Sx (U1.alloc (.cells #[.int .i64 yr, .int .i64 yn, .int .i64 yt, .string yd, .int .i64 yf, .string ytx] 83)) g2 (fun _ => 0) (.slice none 0 0) := kU.later bA
        have oA := own_later oU bA
        have gA := grown_on gU (bA.mono gU.size)
        have nA := heap_alloc_new U1 (.cells #[.int .i64 yr, .int .i64 yn, .int .i64 yt, .string yd, .int .i64 yf, .string ytx] 83)
        obtain ⟨v1, w1', hrun, o1, q1, _⟩ := run_append_own (P := Tryz.prog) (w := U1.alloc (.cells #[.int .i64 yr, .int .i64 yn, .int .i64 yt, .string yd, .int .i64 yf, .string ytx] 83)) w.heap.size 27 27 83 i0 _ 6 64 Tryz.underlying27 hi hz0 hz1 hz2 rfl (by decide) u j xs oA ⟨U1.heap.size, 0, none⟩ 1 1 [.int .i64 yr, .int .i64 yn, .int .i64 yt, .string yd, .int .i64 yf, .string ytx] rfl (fun k y hy => by rw [Addr.add_lit, Nat.zero_add, cell_of_row _ U1.heap.size k _ _ _ nA]; simpa using hy) YO.out (by unfold maxLen; have := N4.out; omega) (by have := N4.out; omega) gA.size
        have bW : Below w.heap.size (U1.alloc (.cells #[.int .i64 yr, .int .i64 yn, .int .i64 yt, .string yd, .int .i64 yf, .string ytx] 83)) w1' := (Below.refl _ _).grown q1 gA.size (fun k hk => (oA.lt k hk).1)
        have hW : Sx w1' g3 F u := (q1.block g3 hA.lt (own_not oA hA (by decide))).trans hA
        have kW : Sx w1' g2 (fun _ => 0) (.slice none 0 0) := (q1.block g2 kA.lt (own_not oA kA (by decide))).trans kA
        have rW := rA.under HB.out bW
        have gW := grown_on gA bW
        obtain ⟨pv, cv, hv1⟩ := own_slice o1
        subst hv1
        have gS := grown_cell w1' g3 64 (.slice pv (j + 1) cv)
        have hS := hW.setSlot (.slice pv (j + 1) cv)
        have kS : Sx _ g2 (fun _ => 0) (.slice none 0 0) := (gS.block g2 kW.lt (by simpa using h23)).trans kW
        have oS := own_keep o1 gS (.inr fun e => own_not o1 hW (by decide) e.symm)
        have rS := rW.under HB.out (grown_below gS gW.size hl3)
        have gE := grown_onE gW gS hl3
        have KE := FIN (.slice (some ⟨U1.heap.size, 0, none⟩) 1 1) (.slice pv (j + 1) cv) _ hS oS rS gE kS
        refine rgd_acts 1 4 (some 12) (some 15) (by kernel_rfl) rfl rfl (by kernel_rfl) u U1 (exec_load1 _ _ rfl Tryz.underlying27 rfl ⟨g3, 64, none⟩ u (by kernel_rfl) (Sx.slot hU)) trivial rfl rfl (by kernel_rfl) (.slice (some ⟨U1.heap.size, 0, none⟩) 1 1) (U1.alloc (.cells #[.int .i64 yr, .int .i64 yn, .int .i64 yt, .string yd, .int .i64 yf, .string ytx] 83)) (by kernel_rfl) trivial ?_ ?_
        · refine rgd_run 4 (some 15) (by kernel_rfl) rfl rfl (by kernel_rfl) (.slice (some ⟨U1.heap.size, 0, none⟩) 1 1) (U1.alloc (.cells #[.int .i64 yr, .int .i64 yn, .int .i64 yt, .string yd, .int .i64 yf, .string ytx] 83)) (by kernel_rfl) trivial ?_
          refine rgd_run 5 (some 16) (by kernel_rfl) rfl rfl (by kernel_rfl) (.slice pv (j + 1) cv) w1' (exec_appendV _ _ rfl _ _ (by kernel_rfl) (by kernel_rfl) hrun) trivial ?_
          refine rgd_pure 6 (some 17) rfl rfl (.pointer (some ⟨g3, 64, none⟩)) (by kernel_rfl) (by kernel_rfl) (by kernel_rfl) (fun _ _ _ _ h => h) (by kernel_rfl) (fun w => by kernel_rfl) trivial ?_
          refine rgd_do 7 none (by kernel_rfl) rfl rfl (by kernel_rfl) _ (exec_storeV _ _ _ rfl SZ ⟨g3, 64, none⟩ pv (j + 1) cv u (by kernel_rfl) (by kernel_rfl) hW.slot (frozen_of_row _ g3 64 _ _ hW)) trivial ?_
          exact wpAnyH_done (by kernel_rfl) (Eq.mp (by kernel_rfl) KE) _
        · refine rgd_run 1 (some 12) (by kernel_rfl) rfl rfl (by kernel_rfl) u _ (exec_load1 _ _ rfl Tryz.underlying27 rfl ⟨g3, 64, none⟩ u (by kernel_rfl) (Sx.slot hA)) trivial ?_
          refine rgd_run 5 (some 16) (by kernel_rfl) rfl rfl (by kernel_rfl) (.slice pv (j + 1) cv) w1' (exec_appendV _ _ rfl _ _ (by kernel_rfl) (by kernel_rfl) hrun) trivial ?_
          refine rgd_pure 6 (some 17) rfl rfl (.pointer (some ⟨g3, 64, none⟩)) (by kernel_rfl) (by kernel_rfl) (by kernel_rfl) (fun _ _ _ _ h => h) (by kernel_rfl) (fun w => by kernel_rfl) trivial ?_
          refine rgd_do 7 none (by kernel_rfl) rfl rfl (by kernel_rfl) _ (exec_storeV _ _ _ rfl SZ ⟨g3, 64, none⟩ pv (j + 1) cv u (by kernel_rfl) (by kernel_rfl) hW.slot (frozen_of_row _ g3 64 _ _ hW)) trivial ?_
          exact wpAnyH_done (by kernel_rfl) (Eq.mp (by kernel_rfl) KE) _
    · obtain rfl : j = N := by omega
      have hjk' : ¬ ((j : Nat) : Int) < j := by omega
      obtain ⟨pu, cu, hu, _, wat, off⟩ := own_wat (L := ys) (by rw [HLen.out]; exact OW.out)
      rw [HLen.out] at hu
      subst hu
      have WA := Lib.hid wat
      clear wat off
      have ER := Lib.hid (err_any B st wr RD.out)
      have R0 := Lib.hid (H0.out.whole)
      have CK := Lib.hid (docCan_is F pu cu ys wr WA.out (HT.out wr GR.out))
      rw [HLen.out] at CK
      go_wp2_with fail
      refine ER.out.mono ?_
      rintro e w11 ⟨rfl, rfl⟩
      have FINZ : Hid (RF = (fun _ => 0) ∧ RL = [] ∧ RS = Cod.failS 3 st → ∀ W : World, Sx W g2 (fun _ => 0) (.slice none 0 0) → RdA W B (Cod.failS 3 st) → w.grownBy W (some B) → GotStA w B RF RL RS (.returned (.agg (scs (fun _ => 0) (.slice none 0 0)))) W) := Lib.hid fun ⟨h1, h2, h3⟩ W q1 q2 q3 => by
        rw [h1, h2, h3]
        exact ⟨none, 0, rfl, ⟨fun h => absurd rfl h, fun _ => rfl⟩, q2, q3⟩
      by_cases he : st.2 = 0
      · rw [he]
        have HYE := Lib.hid (HYS.out he)
        cases hcan : canB F ys with
        | true =>
          rw [hcan] at CK
          have ALL : Hid (RF = F ∧ RL = ys ∧ RS = st) := Lib.hid (by
            have := YES.out (by rw [← HST.out]; exact he) (by rw [← HYE.out]; exact hcan)
            rw [← HYE.out, ← HST.out] at this; exact this)
          clear hcan YES NO FINZ
          go_wp2_with (refine wpList_gloadG (by rfl) _ rfl g3 0 rfl _ R0.out _ Tryz.underlying29 rfl (sizeStl _ _) ?_)
          refine CK.out.mono ?_
          rintro e w12 ⟨rfl, hb12⟩
          have E12 := Lib.hid (err_any B st w12 (RD.out.below hb12))
          have R12 := Lib.hid (range_below R0.out hb12)
          have K12 : Hid (Sx w12 g2 (fun _ => 0) (.slice none 0 0)) := Lib.hid (KK.out.later hb12)
          have G12 := Lib.hid (grown_on GR.out (hb12.mono GR.out.size))
          have RD12 := Lib.hid (RD.out.below hb12)
          have OW12 := Lib.hid (own_later OW.out hb12)
          rw [he] at E12
          clear hb12 CK
          go_wp2_with fail
          refine E12.out.mono ?_
          rintro e w13 ⟨rfl, rfl⟩
          go_wp2_with (first | refine wpList_gload rfl _ rfl g3 0 rfl _ R12.out _ Tryz.underlying29 rfl (sizeStl _ _) ?_ | refine wpList_gstore rfl _ _ rfl g2 rfl (scs F (.slice pu j cu)) rfl _ _ K12.out (sizeSt _ _) (by rw [scs_size, scs_size]) (scs_one F rfl) ?_)
          intro w14 h14 g14
          have H14 := Lib.hid h14
          have G14 := Lib.hid (grown_onE G12.out g14 l2)
          have B14 := grown_below g14 G12.out.size l2
          have R14 := Lib.hid (RD12.out.under HB.out B14)
          have O14 := own_keep OW12.out g14 (.inr fun e => own_not OW12.out K12.out (by decide) e.symm)
          obtain ⟨p9, c9, e9, _, wat9, _⟩ := own_wat (L := ys) (by rw [HLen.out]; exact O14)
          injection e9 with e9 _ _
          subst e9
          have W14 := Lib.hid wat9
          clear h14 g14 B14 O14 wat9
          go_wp2
          exact bodyPost_ret (v := .agg (scs F (.slice pu j cu))) (results_cell_row rfl _ w14 g2 _ _ (0, 0) _ rfl H14.out Tryz.underlying29 rfl (sizeSt _ _)) rfl ⟨pu, cu, by rw [ALL.out.1, ALL.out.2.1, HLen.out], by rw [ALL.out.2.1]; exact W14.out, by rw [ALL.out.2.2]; exact R14.out, G14.out⟩
        | false =>
          rw [hcan] at CK
          have ALL := Lib.hid (FINZ.out (by
            have := NO.out fun _ => by rw [← HYE.out]; exact hcan
            rw [← HST.out] at this; exact this))
          clear hcan YES NO FINZ
          go_wp2_with (refine wpList_gloadG (by rfl) _ rfl g3 0 rfl _ R0.out _ Tryz.underlying29 rfl (sizeStl _ _) ?_)
          refine CK.out.mono ?_
          rintro e w12 ⟨rfl, hb12⟩
          have FL := Lib.hid (fail_any B 3 st w12 (RD.out.below hb12) (by omega))
          have K12 : Hid (Sx w12 g2 (fun _ => 0) (.slice none 0 0)) := Lib.hid (KK.out.later hb12)
          have G12 := Lib.hid (grown_on GR.out (hb12.mono GR.out.size))
          clear hb12 CK
          go_wp2_with fail
          refine FL.out.mono ?_
          rintro e w13 ⟨rfl, hr13, hg13⟩
          have K13 : Hid (Sx w13 g2 (fun _ => 0) (.slice none 0 0)) := Lib.hid (grown_step G12.out hg13 HB.out l2 K12.out)
          have G13 := Lib.hid (grown_trans G12.out hg13)
          have R13 := Lib.hid hr13
          have E13 := Lib.hid (err_any B _ w13 hr13)
          have h3 : (Cod.failS 3 st).2 = 3 := by unfold Cod.failS; rw [if_pos he]
          rw [h3] at E13
          clear hr13 hg13 FL h3 he
          go_wp2_with fail
          refine E13.out.mono ?_
          rintro e w14 ⟨rfl, rfl⟩
          go_wp2_with (first | refine wpList_pbuild (by rfl) _ rfl (scs (fun _ => 0) (.slice none 0 0)) (by simp only [List.map_toArray, List.map_nil]; exact builtSt0 _) ?_ | refine wpList_gstore rfl _ _ rfl g2 rfl (scs (fun _ => 0) (.slice none 0 0)) rfl _ _ K13.out (sizeSt _ _) (by rw [scs_size]) (scs_one (fun _ => 0) rfl) ?_)
          intro w15 h15 g15
          have H15 := Lib.hid h15
          have G15 := Lib.hid (grown_onE G13.out g15 l2)
          have R15 := Lib.hid (R13.out.under HB.out (grown_below g15 G13.out.size l2))
          clear h15 g15
          go_wp2
          exact bodyPost_ret (v := .agg (scs (fun _ => 0) (.slice none 0 0))) (results_cell_row rfl _ w15 g2 _ _ (0, 0) _ rfl H15.out Tryz.underlying29 rfl (sizeSt _ _)) rfl (ALL.out w15 H15.out R15.out G15.out)
      · have ALL := Lib.hid (FINZ.out (by
          have := NO.out fun h0 => absurd (by rw [HST.out]; exact h0) he
          rw [← HST.out] at this; exact this))
        have hF3 : Cod.failS 3 st = st := by unfold Cod.failS; rw [if_neg he]
        rw [hF3] at ALL
        have hne : (((st.2 : Nat) : Int) == 0) = false := by simpa using he
        have hne2 : (((st.2 : Nat) : Int) != 0) = true := by simpa using he
        have K13 := KK; have G13 := GR; have R13 := RD
        have E13 := Lib.hid (err_any B st wr RD.out)
        clear he hF3 YES NO FINZ CK
        generalize ((st.2 : Nat) : Int) = ee at E13 hne hne2 ⊢
        go_wp2_with fail
        refine E13.out.mono ?_
        rintro e w14 ⟨rfl, rfl⟩
        go_wp2_with (first | refine wpList_pbuild (by rfl) _ rfl (scs (fun _ => 0) (.slice none 0 0)) (by simp only [List.map_toArray, List.map_nil]; exact builtSt0 _) ?_ | refine wpList_gstore rfl _ _ rfl g2 rfl (scs (fun _ => 0) (.slice none 0 0)) rfl _ _ K13.out (sizeSt _ _) (by rw [scs_size]) (scs_one (fun _ => 0) rfl) ?_)
        intro w15 h15 g15
        have H15 := Lib.hid h15
        have G15 := Lib.hid (grown_onE G13.out g15 l2)
        have R15 := Lib.hid (R13.out.under HB.out (grown_below g15 G13.out.size l2))
        clear h15 g15
        go_wp2
        exact bodyPost_ret (v := .agg (scs (fun _ => 0) (.slice none 0 0))) (results_cell_row rfl _ w15 g2 _ _ (0, 0) _ rfl H15.out Tryz.underlying29 rfl (sizeSt _ _)) rfl (ALL.out w15 H15.out R15.out G15.out)
end Go.Proofs.YtapmbankpbiglaaGreatDoor
/- What wire tells of a message: may it be, and its bytes. -/
namespace Go.Proofs.YtapmbankpbiglaaGreatDoor
open Go Go.RowKit
set_option linter.unusedVariables false
set_option maxRecDepth 1000000

/-- may a number be a replica's? -/
def repB (n : Int) : Bool := decide (n ≥ 0) && decide (n < 64)
def goM (m : Mg) : Bool := repB m.src && (repB m.dst && (!decide (m.src = m.dst) && (goodB m.ack && (goodB m.base && goodB m.floor))))
noncomputable def haveM (m : Mg) : Bool := decide (m.E.length ≤ 1024) && m.E.all fun x => decide (chk x.e = 0)
def noBaseM (m : Mg) : Bool := veq m.base (fun _ => 0)
def noFullM (m : Mg) : Bool := noState m.seen m.L && veq m.floor (fun _ => 0)
noncomputable def kindM (m : Mg) : Bool :=
  if m.kind = 1 then decide (m.E.length = 0) && (noBaseM m && noFullM m) else if m.kind = 2 then decide (m.E.length > 0) && noFullM m else if m.kind = 3 then canB m.seen m.L && noBaseM m else false
/-- may it be? -/
noncomputable def mayM (m : Mg) : Bool := goM m && (haveM m && kindM m)
/-- events' bytes -/
noncomputable def evsB (E : List EvP) : List UInt8 := Cod.enc E.length ++ E.flatMap fun x => wrB x.e
theorem evs_take (E : List EvP) (k : Nat) (h : k < E.length) : (E.take (k + 1)).flatMap (fun x => wrB x.e) = (E.take k).flatMap (fun x => wrB x.e) ++ wrB E[k].e := by
  rw [List.take_succ_eq_append_getElem h, List.flatMap_append]; simp
theorem evs_len (E : List EvP) : (E.flatMap fun x => wrB x.e).length ≤ 3000 * E.length := by
  induction E with
  | nil => simp
  | cons x E ih => rw [List.flatMap_cons, List.length_append, List.length_cons]; have := wrB_len x.e; omega
theorem evsB_len (E : List EvP) : (evsB E).length ≤ 9 + 3000 * E.length := by
  unfold evsB
  have h1 := enc_len E.length; have h2 := evs_len E
  rw [List.length_append]; omega
/-- a message's bytes, not sealed -/
noncomputable def mgB (m : Mg) : List UInt8 :=
  Cod.enc m.kind.toNat ++ Cod.enc m.src.toNat ++ Cod.enc m.dst.toNat ++ vbytes m.ack ++ (if m.kind = 2 then vbytes m.base ++ evsB m.E else if m.kind = 3 then stB m.seen m.L ++ vbytes m.floor ++ evsB m.E else [])
theorem may_parts {m : Mg} (h : mayM m = true) : (0 ≤ m.src ∧ m.src < 64) ∧ (0 ≤ m.dst ∧ m.dst < 64) ∧ (m.kind = 1 ∨ m.kind = 2 ∨ (m.kind = 3 ∧ canB m.seen m.L = true)) := by
  unfold mayM goM repB at h
  simp only [Bool.and_eq_true, decide_eq_true_eq] at h
  obtain ⟨⟨h1, h2, _⟩, _, h3⟩ := h
  refine ⟨by omega, by omega, ?_⟩
  unfold kindM at h3
  by_cases k1 : m.kind = 1
  · exact .inl k1
  rw [if_neg k1] at h3
  by_cases k2 : m.kind = 2
  · exact .inr (.inl k2)
  rw [if_neg k2] at h3
  by_cases k3 : m.kind = 3
  · rw [if_pos k3] at h3
    simp only [Bool.and_eq_true] at h3
    exact .inr (.inr ⟨k3, h3.1⟩)
  · rw [if_neg k3] at h3; cases h3
end Go.Proofs.YtapmbankpbiglaaGreatDoor
/- past.ReadEvents of what PutEvents wrote. -/
namespace Go.Proofs.YtapmbankpbiglaaGreatDoor
open Go Go.RowKit
set_option linter.unusedVariables false
set_option maxRecDepth 1000000

/-- what reading events comes to -/
def GotEvs (w : World) (B : Nat) (es : List Ev) (l : List UInt8) (e : Ending) (w' : World) : Prop := ∃ v ys, e = .returned v ∧ OwnE w' w.heap.size v ys ∧ evs ys = es ∧ Rd w' B l ∧ w.grownBy w' (some B)
theorem ecl_snoc (ys : List EvP) (x : EvP) : ecl (ys ++ [x]) = ecl ys ++ x.cells := by unfold ecl; rw [List.flatMap_append]; simp
theorem evs_drop (E : List EvP) (k : Nat) (h : k < E.length) : (E.drop k).flatMap (fun x => wrB x.e) = wrB E[k].e ++ (E.drop (k + 1)).flatMap (fun x => wrB x.e) := by
  rw [List.drop_eq_getElem_cons h, List.flatMap_cons]
set_option maxHeartbeats 8000000 in
theorem readEvents_live (B : Nat) (E : List EvP) (l : List UInt8) (w : World) (h : Rd w B (evsB E ++ l)) (hE : ∀ x ∈ E, chk x.e = 0) (hn : E.length ≤ 1024) (hT : ∀ w', w.grownBy w' (some B) → Shapes w') (hl : l.length ≤ 140000000000000) :
    Calls Tryz.prog 32 #[.pointer (some ⟨B, 0, none⟩), .int .i64 1024] w (GotEvs w B (evs E) l) := by
  have HB := Lib.hid h.lt'
  have HE := Lib.hid hE; have HT := Lib.hid hT; have N4 := Lib.hid hn
  obtain ⟨T2, hT2⟩ : ∃ X, (E.flatMap fun x => wrB x.e) ++ l = X := ⟨_, rfl⟩
  have nT2 : T2.length ≤ 140000004000000 := by rw [← hT2, List.length_append]; have := evs_len E; omega
  have e1 := enc_len E.length
  have h' : Rd w B (Cod.enc E.length ++ T2) := by
    have := h
    unfold evsB at this
    rwa [List.append_assoc, hT2] at this
  have N9 := Lib.hid (numIn_live B E.length 1024 T2 w h' (by omega) (by omega) (by rw [List.length_append]; omega))
  have Q2 := Lib.hid hT2
  clear h hE hT hn h' hT2
  go_enter Tryz.func32, Tryz.ntmps32
  go_wp2_with fail
  refine N9.out.mono ?_
  rintro e w1 ⟨rfl, hr, hg⟩
  have G1 := Lib.hid hg; have R1 := Lib.hid hr
  clear hr hg N9
  go_wp2
  go_loopw [5, 10] (fun u i wr => ∃ (j : Nat) (ys : List EvP) (TJ : List UInt8), j ≤ E.length ∧ i = .int .i64 j ∧ ys.length = j ∧ Hid (evs ys = evs (E.take j)) ∧ Hid (TJ = ((E.drop j).flatMap fun x => wrB x.e) ++ l) ∧ OwnE wr w.heap.size u ys ∧ Rd wr B TJ ∧ w.grownBy wr (some B)) (fun _ i _ => E.length - (RowKit.intOf i).toNat)
  case atStart => exact ⟨0, [], T2, Nat.zero_le _, rfl, rfl, Lib.hid rfl, Lib.hid (by simpa using Q2.out.symm), ⟨World.ownsRow_nil _ _ _ _, fun _ h => absurd h (List.not_mem_nil)⟩, R1.out, G1.out⟩
  case round =>
    clear Q2 R1 G1
    obtain ⟨j, ys, TJ, hj, rfl, hys, HYS, HTJ, hown, hrd, hgr⟩ := hrel
    have OW := Lib.hid hown; have RD := Lib.hid hrd; have GR := Lib.hid hgr
    have LY := Lib.hid hys
    clear hown hrd hgr hys
    by_cases hjk : j < E.length
    · have hjk' : (j : Int) < E.length := by omega
      have hL4 : E.length ≤ 1024 := N4.out
      have FD := Lib.hid (evs_drop E j hjk)
      have hck := HE.out _ (List.getElem_mem hjk)
      have HS : Hid (evs (E.take (j + 1)) = evs (E.take j) ++ [E[j].e]) := Lib.hid (by
        rw [List.take_succ_eq_append_getElem hjk]
        unfold evs
        rw [List.map_append]; rfl)
      obtain ⟨z, hz⟩ : ∃ z, E[j].e = z := ⟨_, rfl⟩
      rw [hz] at FD hck HS
      clear hz
      have hw : wrB z = evB z := by unfold wrB; rw [if_pos hck]
      rw [hw] at FD
      obtain ⟨TK, hTK⟩ : ∃ X, ((E.drop (j + 1)).flatMap fun x => wrB x.e) ++ l = X := ⟨_, rfl⟩
      have nK : TK.length ≤ 140000004000000 := by
        rw [← hTK, List.length_append]
        have := evs_len (E.drop (j + 1))
        have h1 : (E.drop (j + 1)).length ≤ E.length := by rw [List.length_drop]; omega
        omega
      have HTK := Lib.hid hTK.symm
      have hTJ : TJ = evB z ++ TK := by rw [HTJ.out, FD.out, List.append_assoc, hTK]
      clear hTK
      have RDT : Hid (Calls Tryz.prog 55 #[.pointer (some ⟨B, 0, none⟩)] wr (GotEvO wr B z TK)) := Lib.hid (readEvent_liveO B z TK wr (by rw [← hTJ]; exact RD.out) hck (fun w' hg => HT.out w' (grown_trans GR.out hg)) (by omega))
      clear hTJ FD HTJ hw hck
      go_wp2_with fail
      refine RDT.out.mono ?_
      rintro e w2 ⟨x, hx, rfl, hgo, hr2, hg2⟩
      have GS := Lib.hid (grown_trans GR.out hg2)
      have R2 := Lib.hid hr2
      have LO := GR.out.size
      have O2 : Hid (OwnE w2 w.heap.size u5 ys) := Lib.hid ⟨own_keep OW.out.row hg2 (own_above OW.out.row HB.out), fun y hy => own_keep (OW.out.gone y hy) hg2 (own_above (OW.out.gone y hy) HB.out)⟩
      have X2 : Hid (w2.ownsRow w.heap.size 76 2 (.slice x.p x.e.gone.length x.c) x.e.gone.length (dcl x.e.gone)) := Lib.hid (own_base hgo LO)
      have HX := Lib.hid hx
      clear hgo hr2 hg2 OW RD GR RDT hx
      obtain ⟨⟨r, n, t, kd, d, fl, tx, gn⟩, gp, gc⟩ := x
      have ba := below_alloc w2 (.cells #[.int .i64 r, .int .i64 n, .int .i64 t, .int .i64 kd, .string d, .int .i64 fl, .string tx, .slice gp gn.length gc] 79)
      have na := heap_alloc_new w2 (.cells #[.int .i64 r, .int .i64 n, .int .i64 t, .int .i64 kd, .string d, .int .i64 fl, .string tx, .slice gp gn.length gc] 79)
      have O3 := Lib.hid (O2.out.later ba); have X3 := Lib.hid (own_later X2.out ba)
      have R3 := Lib.hid (R2.out.on ba)
      have G3 := Lib.hid (grown_on GS.out (ba.mono GS.out.size))
      have hz3 : w.heap.size ≤ w2.heap.size := GS.out.size
      have D3 : Hid ((w2.alloc (.cells #[.int .i64 r, .int .i64 n, .int .i64 t, .int .i64 kd, .string d, .int .i64 fl, .string tx, .slice gp gn.length gc] 79)).rangeAt w2.heap.size 0 (EvP.cells ⟨⟨r, n, t, kd, d, fl, tx, gn⟩, gp, gc⟩)) := Lib.hid (range_of_block na)
      have ER := Lib.hid (err_live B TK _ R3.out)
      have hz4 := Nat.le_trans hz3 ba.size
      clear ba na O2 X2 R2 GS
      rw [show (EvP.cells ⟨⟨r, n, t, kd, d, fl, tx, gn⟩, gp, gc⟩).toArray = #[.int .i64 r, .int .i64 n, .int .i64 t, .int .i64 kd, .string d, .int .i64 fl, .string tx, .slice gp gn.length gc] from rfl]
      go_wp2_with fail
      refine ER.out.mono ?_
      rintro e w4 ⟨rfl, rfl⟩
      obtain ⟨g6, hg6⟩ : ∃ g, g = w2.heap.size := ⟨_, rfl⟩
      rw [← hg6] at D3 ⊢
      generalize (w2.alloc (.cells #[.int .i64 r, .int .i64 n, .int .i64 t, .int .i64 kd, .string d, .int .i64 fl, .string tx, .slice gp gn.length gc] 79)) = w3 at O3 X3 R3 G3 D3 ER hz4 ⊢
      obtain ⟨c0, c1, c2, c3, c4, c5, c6, c7⟩ := ev_cells D3.out
      simp only [Nat.zero_add] at c0 c1 c2 c3 c4 c5 c6 c7
      clear D3 ER hg6
      obtain ⟨XX, hXX⟩ : ∃ X : EvP, X = ⟨⟨r, n, t, kd, d, fl, tx, gn⟩, gp, gc⟩ := ⟨_, rfl⟩
      go_wp2_with (at_builtin; refine wpList_ev w3 rfl _ _ rfl w.heap.size ys.length (ecl ys) u5 rfl O3.out.row ⟨⟨r, n, t, kd, d, fl, tx, gn⟩, gp, gc⟩ rfl (by have := LY.out; omega) hz4 ?_)
      intro v8 w8 o8 g8
      have b8 : Below w.heap.size w3 w8 := (Below.refl _ _).grown g8 hz4 (fun k hk => (O3.out.row.lt k hk).1)
      have R8 := Lib.hid (R3.out.under' HB.out b8)
      have G8 := Lib.hid (grown_on G3.out b8)
      have O8 : Hid (OwnE w8 w.heap.size v8 (ys ++ [⟨⟨r, n, t, kd, d, fl, tx, gn⟩, gp, gc⟩])) := Lib.hid ⟨by rw [ecl_snoc, List.length_append]; exact o8, fun y hy => by
        rcases List.mem_append.1 hy with h | h
        · exact own_keep (O3.out.gone y h) g8 (own_apart (O3.out.gone y h) O3.out.row (by decide))
        · obtain rfl := List.mem_singleton.1 h
          exact own_keep X3.out g8 (own_apart X3.out O3.out.row (by decide))⟩
      have HE8 : Hid (evs (ys ++ [⟨⟨r, n, t, kd, d, fl, tx, gn⟩, gp, gc⟩]) = evs (E.take (j + 1))) := Lib.hid (by
        rw [HS.out, ← HYS.out, ← HX.out]
        unfold evs
        rw [List.map_append]; rfl)
      have L8 : Hid ((ys ++ [(⟨⟨r, n, t, kd, d, fl, tx, gn⟩, gp, gc⟩ : EvP)]).length = j + 1) := Lib.hid (by rw [List.length_append, LY.out]; rfl)
      clear o8 g8 b8 O3 X3 R3 G3 c0 c1 c2 c3 c4 c5 c6 c7 hXX
      go_wp2
      go_roundw
      case rel => exact ⟨j + 1, _, TK, by omega, by go_num, L8.out, HE8, HTK, O8.out, R8.out, G8.out⟩
      case measure => simp [RowKit.intOf]; omega
    · obtain rfl : j = E.length := by omega
      have hjk' : ¬ ((E.length : Nat) : Int) < E.length := by omega
      have HL : Hid (TJ = l) := Lib.hid (by rw [HTJ.out, List.drop_length]; rfl)
      have HY : Hid (evs ys = evs E) := Lib.hid (by rw [HYS.out, List.take_length])
      have FO : Hid (GotEvs w B (evs E) l (.returned u5) wr) := Lib.hid ⟨u5, ys, rfl, OW.out, HY.out, by rw [← HL.out]; exact RD.out, GR.out⟩
      clear HTJ HYS HL HY OW RD GR
      go_wp2
      go_ret
      exact FO.out
end Go.Proofs.YtapmbankpbiglaaGreatDoor
/- A message in a variable of its own; how wire tells whether it may go, and have its events. -/
namespace Go.Proofs.YtapmbankpbiglaaGreatDoor
open Go Go.RowKit
set_option linter.unusedVariables false
set_option maxRecDepth 1000000

/-- a message in a block of its own -/
def Mx (w : World) (g : Nat) (m : Mg) : Prop := w.heap[g]? = some (.cells m.cells.toArray 31 (0, 0))
theorem Mx.lt {w : World} {g : Nat} {m : Mg} (h : Mx w g m) : g < w.heap.size := (Array.getElem?_eq_some_iff.1 h).1
theorem Mx.later {w w' : World} {g : Nat} {m : Mg} (h : Mx w g m) (hb : Below w.heap.size w w') : Mx w' g m := (hb.block g h.lt).trans h
theorem Mx.whole {w : World} {g : Nat} {m : Mg} (h : Mx w g m) : w.rangeAt g 0 m.cells := by simpa using range_of_block h
/-- its cells, one by one -/
structure M0 (w : World) (g : Nat) (m : Mg) : Prop where
  kind : w.cell? ⟨g, 0, none⟩ = some (.int .i64 m.kind)
  src : w.cell? ⟨g, 1, none⟩ = some (.int .i64 m.src)
  dst : w.cell? ⟨g, 2, none⟩ = some (.int .i64 m.dst)
  ack : w.rangeAt g 3 (vf m.ack).toList
  base : w.rangeAt g 67 (vf m.base).toList
  evs : w.cell? ⟨g, 131, none⟩ = some (.slice m.ep m.E.length m.ec)
  st : w.rangeAt g 132 m.st.toList
  floor : w.rangeAt g 197 (vf m.floor).toList
theorem Mx.parts {w : World} {g : Nat} {m : Mg} (h : Mx w g m) : M0 w g m := by
  have k := mat_of h.whole
  obtain ⟨a, b, c, d, e, f, i, j⟩ := k
  simp only [Nat.zero_add] at a b c d e f i j
  exact ⟨a, b, c, d, e, f, i, j⟩

theorem replica_is (n : Int) (w : World) : Calls Tryz.prog 58 #[.int .i64 n] w (RetBool w (repB n)) := by
  unfold repB
  by_cases h0 : n ≥ 0
  · by_cases h1 : n < 64
    · have e : (decide (n ≥ 0) && decide (n < 64)) = true := by simp [h0, h1]
      rw [e]
      go_enter Tryz.func58, Tryz.ntmps58
      go_wp2
      go_ret
      exact ⟨rfl, Below.refl _ _⟩
    · have e : (decide (n ≥ 0) && decide (n < 64)) = false := by simp [h1]
      rw [e]
      go_enter Tryz.func58, Tryz.ntmps58
      go_wp2
      go_ret
      exact ⟨rfl, Below.refl _ _⟩
  · have e : (decide (n ≥ 0) && decide (n < 64)) = false := by simp [h0]
    rw [e]
    go_enter Tryz.func58, Tryz.ntmps58
    go_wp2
    go_ret
    exact ⟨rfl, Below.refl _ _⟩

set_option maxHeartbeats 8000000 in
theorem wireGo_is (m : Mg) (w : World) : Calls Tryz.prog 36 #[.agg m.cells.toArray] w (RetBool w (goM m)) := by
  obtain ⟨R1, h1⟩ : ∃ X, repB m.src = X := ⟨_, rfl⟩
  obtain ⟨R2, h2⟩ : ∃ X, repB m.dst = X := ⟨_, rfl⟩
  obtain ⟨G1, h3⟩ : ∃ X, goodB m.ack = X := ⟨_, rfl⟩
  obtain ⟨G2, h4⟩ : ∃ X, goodB m.base = X := ⟨_, rfl⟩
  obtain ⟨G3, h5⟩ : ∃ X, goodB m.floor = X := ⟨_, rfl⟩
  have P1 : Hid (∀ V : World, Calls Tryz.prog 58 #[.int .i64 m.src] V (RetBool V R1)) := Lib.hid fun V => by rw [← h1]; exact replica_is _ V
  have P2 : Hid (∀ V : World, Calls Tryz.prog 58 #[.int .i64 m.dst] V (RetBool V R2)) := Lib.hid fun V => by rw [← h2]; exact replica_is _ V
  have Q1 : Hid (∀ V : World, Calls Tryz.prog 59 #[.agg (vf m.ack)] V (RetBool V G1)) := Lib.hid fun V => by rw [← h3]; exact good_is _ V
  have Q2 : Hid (∀ V : World, Calls Tryz.prog 59 #[.agg (vf m.base)] V (RetBool V G2)) := Lib.hid fun V => by rw [← h4]; exact good_is _ V
  have Q3 : Hid (∀ V : World, Calls Tryz.prog 59 #[.agg (vf m.floor)] V (RetBool V G3)) := Lib.hid fun V => by rw [← h5]; exact good_is _ V
  have HR : Hid (goM m = (R1 && (R2 && (!decide (m.src = m.dst) && (G1 && (G2 && G3)))))) := Lib.hid (by unfold goM; rw [h1, h2, h3, h4, h5])
  clear h1 h2 h3 h4 h5
  go_enter Tryz.func36, Tryz.ntmps36
  go_wp2_with (refine wpList_gbox rfl _ rfl m.cells.toArray rfl ?_)
  intro g w1 l1 h1 hb1
  have X1 : Hid (Mx w1 g m) := Lib.hid h1
  have B1 := Lib.hid hb1
  clear h1 hb1
  have k1 := X1.out.parts.src
  go_wp2_with fail
  refine (P1.out w1).mono ?_
  rintro e w2 ⟨rfl, hb2⟩
  have X2 := Lib.hid (X1.out.later hb2); have B2 := Lib.hid (thenBelow B1.out hb2)
  clear hb2 P1 X1 B1 k1
  cases R1 with
  | false =>
    go_wp2
    go_ret
    exact ⟨by rw [HR.out]; rfl, B2.out⟩
  | true =>
  have k2 := X2.out.parts.dst
  go_wp2_with fail
  refine (P2.out w2).mono ?_
  rintro e w3 ⟨rfl, hb3⟩
  have X3 := Lib.hid (X2.out.later hb3); have B3 := Lib.hid (thenBelow B2.out hb3)
  clear hb3 P2 X2 B2 k2
  cases R2 with
  | false =>
    go_wp2
    go_ret
    exact ⟨by rw [HR.out]; rfl, B3.out⟩
  | true =>
  have k1 := X3.out.parts.src
  have k2 := X3.out.parts.dst
  have A3 := Lib.hid X3.out.parts.ack
  by_cases hsd : m.src = m.dst
  · have hne : (m.src != m.dst) = false := by simp [hsd]
    have HF : Hid (goM m = false) := Lib.hid (by rw [HR.out, decide_eq_true hsd]; rfl)
    clear hsd
    go_wp2
    go_ret
    exact ⟨by rw [HF.out]; rfl, B3.out⟩
  have hne : (m.src != m.dst) = true := by simp [hsd]
  have HR2 : Hid (goM m = (G1 && (G2 && G3))) := Lib.hid (by rw [HR.out, decide_eq_false hsd]; rfl)
  clear HR hsd
  go_wp2_with (refine wpList_gloadG (by rfl) _ rfl g 3 rfl _ A3.out _ Tryz.underlying25 rfl (sizeVcl m.ack) ?_)
  refine (Q1.out w3).mono ?_
  rintro e w4 ⟨rfl, hb4⟩
  have X4 := Lib.hid (X3.out.later hb4); have B4 := Lib.hid (thenBelow B3.out hb4)
  clear hb4 Q1 X3 B3 k1 k2 hne A3
  cases G1 with
  | false =>
    go_wp2
    go_ret
    exact ⟨by rw [HR2.out]; rfl, B4.out⟩
  | true =>
  have A4 := Lib.hid X4.out.parts.base
  go_wp2_with (refine wpList_gloadG (by rfl) _ rfl g 67 rfl _ A4.out _ Tryz.underlying25 rfl (sizeVcl m.base) ?_)
  refine (Q2.out w4).mono ?_
  rintro e w5 ⟨rfl, hb5⟩
  have X5 := Lib.hid (X4.out.later hb5); have B5 := Lib.hid (thenBelow B4.out hb5)
  clear hb5 Q2 X4 B4 A4
  cases G2 with
  | false =>
    go_wp2
    go_ret
    exact ⟨by rw [HR2.out]; rfl, B5.out⟩
  | true =>
  have A5 := Lib.hid X5.out.parts.floor
  go_wp2_with (refine wpList_gloadG (by rfl) _ rfl g 197 rfl _ A5.out _ Tryz.underlying25 rfl (sizeVcl m.floor) ?_)
  refine (Q3.out w5).mono ?_
  rintro e w6 ⟨rfl, hb6⟩
  have B6 := Lib.hid (thenBelow B5.out hb6)
  clear hb6 Q3 X5 B5 A5
  go_wp2
  go_ret
  exact ⟨by rw [HR2.out]; cases G3 <;> rfl, B6.out⟩

set_option maxHeartbeats 8000000 in
theorem mayHave_is (m : Mg) (w : World) (hE : EvsAt w m.ep m.E) (hT : Shapes w) : Calls Tryz.prog 37 #[.agg m.cells.toArray] w (RetBool w (haveM m)) := by
  have HE := Lib.hid hE; have HT := Lib.hid hT
  clear hE hT
  have HY : Hid (m.E.length ≤ 1024 → (∀ x ∈ m.E, chk x.e = 0) → haveM m = true) := Lib.hid fun h1 h2 => by unfold haveM; rw [decide_eq_true h1, Bool.true_and, List.all_eq_true]; exact fun x hx => decide_eq_true (h2 x hx)
  have HB : Hid (1024 < m.E.length → haveM m = false) := Lib.hid fun h1 => by unfold haveM; rw [decide_eq_false (by omega)]; rfl
  have HN : Hid ((∃ x ∈ m.E, chk x.e ≠ 0) → haveM m = false) := Lib.hid fun ⟨x, h1, h2⟩ => by
    unfold haveM
    have : (m.E.all fun x => decide (chk x.e = 0)) = false := by
      cases q : m.E.all fun x => decide (chk x.e = 0) with
      | false => rfl
      | true => exact absurd (of_decide_eq_true (List.all_eq_true.1 q x h1)) h2
    rw [this, Bool.and_false]
  obtain ⟨HM, hHM⟩ : ∃ X, haveM m = X := ⟨_, rfl⟩
  rw [hHM] at HY HB HN ⊢
  clear hHM
  go_enter Tryz.func37, Tryz.ntmps37
  go_wp2_with (refine wpList_gbox rfl _ rfl m.cells.toArray rfl ?_)
  intro g w1 l1 h1 hb1
  have X1 : Hid (Mx w1 g m) := Lib.hid h1
  have B1 := Lib.hid hb1
  clear h1 hb1
  have k1 := X1.out.parts.evs
  obtain ⟨mk, ms, md, ma, mb, ep, ec, E, msn, msp, msc, mL, mf⟩ := m
  simp only at HE HY HB HN k1
  by_cases hbig : 1024 < E.length
  · have hbig' : (E.length : Int) > 1024 := by omega
    have hf : HM = false := HB.out hbig
    subst hf
    clear hbig
    go_wp2
    go_ret
    exact ⟨rfl, B1.out⟩
  have hbig' : ¬ (E.length : Int) > 1024 := by omega
  go_wp2
  clear k1
  go_loopw [12] (fun i wr => ∃ k : Nat, k ≤ E.length ∧ i = .int .i64 k ∧ (∀ i (h : i < E.length), i < k → chk E[i].e = 0) ∧ Below w.heap.size w wr) (fun i _ => E.length - (RowKit.intOf i).toNat)
  case atStart => exact ⟨0, Nat.zero_le _, rfl, fun i _ h => by omega, B1.out⟩
  case round =>
    obtain ⟨k, hk, rfl, hall, hb⟩ := hrel
    have BB := Lib.hid hb; have HA := Lib.hid hall
    clear hall hb
    by_cases hkl : k < E.length
    · have hkl' : (k : Int) < E.length := by omega
      have HEr := Lib.hid (HE.out.below BB.out)
      obtain ⟨b, o, rfl, hlt, hq⟩ := HEr.out.at hkl
      have OK := Lib.hid (HEr.out.ok _ (List.getElem_mem hkl))
      obtain ⟨x, hx⟩ : ∃ x, E[k] = x := ⟨_, rfl⟩
      rw [hx] at hq OK
      have XC := Lib.hid hx
      have XM : Hid (x ∈ E) := Lib.hid (by rw [← hx]; exact List.getElem_mem hkl)
      clear hx
      obtain ⟨c0, c1, c2, c3, c4, c5, c6, c7⟩ := ev_cells hq
      clear hq
      obtain ⟨C, hC⟩ : ∃ C, chk x.e = C := ⟨_, rfl⟩
      have CK : Hid (∀ V : World, Below wr.heap.size wr V → Calls Tryz.prog 60 #[.agg x.cells.toArray] V (Check1 V C)) := Lib.hid fun V hV => by rw [← hC]; exact check_is x V (OK.out.below hV) (HT.out.below (thenBelow BB.out hV))
      have HC := Lib.hid hC
      clear hC OK
      obtain ⟨⟨r, n, t, kd, dd, fl, tx, gg⟩, gp, gc⟩ := x
      simp only at c0 c1 c2 c3 c4 c5 c6 c7
      have ba := below_alloc wr (.cells #[.int .i64 r, .int .i64 n, .int .i64 t, .int .i64 kd, .string dd, .int .i64 fl, .string tx, .slice gp gg.length gc] 79)
      have na := heap_alloc_new wr (.cells #[.int .i64 r, .int .i64 n, .int .i64 t, .int .i64 kd, .string dd, .int .i64 fl, .string tx, .slice gp gg.length gc] 79)
      have R4 : Hid ((wr.alloc (.cells #[.int .i64 r, .int .i64 n, .int .i64 t, .int .i64 kd, .string dd, .int .i64 fl, .string tx, .slice gp gg.length gc] 79)).rangeAt wr.heap.size 0 (EvP.cells ⟨⟨r, n, t, kd, dd, fl, tx, gg⟩, gp, gc⟩)) := Lib.hid (range_of_block na)
      have BA := Lib.hid ba
      have B5 := Lib.hid (thenBelow BB.out ba)
      clear ba na
      go_wp2_with (refine wpList_gload rfl _ rfl wr.heap.size 0 rfl _ R4.out _ Tryz.underlying79 rfl (sizeEv _) ?_)
      refine (CK.out _ BA.out).mono ?_
      rintro e w6 ⟨rfl, hb6⟩
      have B6 := Lib.hid (thenBelow B5.out hb6)
      clear hb6 c0 c1 c2 c3 c4 c5 c6 c7 CK R4 BA
      by_cases h0 : C = 0
      · subst h0
        have NA : Hid (∀ i (h : i < E.length), i < k + 1 → chk E[i].e = 0) := Lib.hid fun i h hi => by
          rcases Nat.lt_or_ge i k with h3 | h3
          · exact HA.out i h h3
          · obtain rfl : i = k := by omega
            rw [XC.out]; exact HC.out
        go_wp2
        go_roundw
        case rel => exact ⟨k + 1, by omega, by go_num, NA.out, B6.out⟩
        case measure => simp [RowKit.intOf]; omega
      · have hn : (C != 0) = true := by simpa using h0
        have hf : HM = false := HN.out ⟨_, XM.out, by rw [HC.out]; exact h0⟩
        subst hf
        clear h0
        go_wp2
        go_ret
        exact ⟨rfl, B6.out⟩
    · obtain rfl : k = E.length := by omega
      have hkl' : ¬ ((E.length : Nat) : Int) < E.length := by omega
      have ht : HM = true := HY.out (by omega) fun x hx => by
        obtain ⟨i, hi, rfl⟩ := List.getElem_of_mem hx
        exact HA.out i hi hi
      subst ht
      go_wp2
      go_ret
      exact ⟨rfl, BB.out⟩
end Go.Proofs.YtapmbankpbiglaaGreatDoor
