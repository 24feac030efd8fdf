/- The statement WireBack, proved for every input that its row reads: part 31 of 54. -/
import Derived.Test.YtpngmjfnpdjjcaaDoorPackWireBack30
import Derived.Test.YtpngmjfnpdjjcaaDoorPackWireBack10
import Derived.Test.YtpngmjfnpdjjcaaDoorPackWireBack27
/- A write's bytes. -/
namespace Go.Proofs.YtpngmjfnpdjjcaaDoor
open Go Go.RowKit
set_option linter.unusedVariables false
set_option maxRecDepth 1000000

/-- a write's bytes -/
def wtB (y : Wr) : List UInt8 := dotB (y.rep, y.n) ++ (Cod.enc y.time.toNat ++ (Cod.enc y.doc.size ++ (y.doc.data.toList ++ (Cod.enc y.field.toNat ++ (Cod.enc y.text.size ++ y.text.data.toList)))))
/-- a write within bounds -/
structure Small1 (y : Wr) : Prop where
  rep : -1000000000000000000 ≤ y.rep ∧ y.rep ≤ 1000000000000000000
  n : -1000000000000000000 ≤ y.n ∧ y.n ≤ 1000000000000000000
  time : -1000000000000000000 ≤ y.time ∧ y.time ≤ 1000000000000000000
  field : -1000000000000000000 ≤ y.field ∧ y.field ≤ 1000000000000000000
  doc : y.doc.size ≤ 1000
  text : y.text.size ≤ 1000
theorem wtB_len {y : Wr} (h : Small1 y) : (wtB y).length ≤ 2100 := by
  have h1 := h.doc; have h2 := h.text
  have e0 := dotB_len (y.rep, y.n); have e1 := enc_len y.time.toNat; have e2 := enc_len y.doc.size; have e3 := enc_len y.field.toNat; have e4 := enc_len y.text.size
  unfold wtB
  simp only [List.length_append, Array.length_toList, ByteArray.size_data]
  omega
theorem small_of {y : Wr} (h : chk (putE y) = 0) : Small1 y := by
  have F := fine_of h
  have fd := (vld_iff _ _).1 F.dot
  have f1 := F.time; have f2 := F.field; have f3 := F.doc; have f4 := F.text
  simp only [putE] at fd f1 f2 f3 f4
  exact ⟨by omega, by omega, by omega, by omega, by omega, by omega⟩
set_option maxHeartbeats 8000000 in
theorem docWritten_is (y : Wr) (w : World) (hy : Small1 y) :
    Calls Tryd.prog 50 #[.agg y.cells.toArray] w (RetOwn w 5 (wtB y)) := by
  obtain ⟨L, hL⟩ : ∃ L, wtB y = L := ⟨_, rfl⟩
  rw [hL]
  have HL := Lib.hid hL
  clear hL
  go_enter Tryd.func50, Tryd.ntmps50
  go_wp2_with (refine wpList_gbox rfl _ rfl y.cells.toArray rfl ?_)
  intro g1 w1 l1 h1 hb1
  have B1 := Lib.hid hb1
  have R1 : Hid (w1.rangeAt g1 0 y.cells) := Lib.hid (by simpa using range_of_block h1)
  clear h1 hb1
  obtain ⟨c0, c1, c2, c3, c4, c5⟩ := wr_cells R1.out
  simp only [Nat.zero_add] at c0 c1 c2 c3 c4 c5
  obtain ⟨h_r, h_n, h_t, h_f, h_d, h_x⟩ := hy
  obtain ⟨yr, yn, yt, yd, yf, ytx⟩ := y
  simp only at c0 c1 c2 c3 c4 c5 h_r h_n h_t h_f h_d h_x
  have C2 := Lib.hid c2; have C3 := Lib.hid c3; have C4 := Lib.hid c4; have C5 := Lib.hid c5
  have WT := Lib.hid (wf_ok h_t); have WF := Lib.hid (wf_ok h_f)
  have RD := Lib.hid (wr_dot R1.out)
  have SZD : (Tryd.prog.info? 53).map (·.size) = some [Value.int .i64 yr, .int .i64 yn].length := by kernel_rfl
  clear c0 c1 c2 c3 c4 c5 R1
  have E1 := enc_len yt.toNat; have E2 := enc_len yd.size; have E3 := enc_len yf.toNat; have E4 := enc_len ytx.size
  have E0 := dotB_len (yr, yn)
  go_wp2_with fail
  rename_i K2 hK2
  have m0 : Below w1.heap.size w1 w1.drew := (Below.refl _ _).drew
  refine rg_calm (by kernel_rfl) rfl (S := fun U => Below w1.heap.size w1 U) ?_
  refine rgd_pure 0 (some 4) rfl rfl (.pointer (some ⟨g1, 0, none⟩)) (by kernel_rfl) (by kernel_rfl) (by kernel_rfl) (fun _ _ _ _ h => h) (by kernel_rfl) (fun w => by kernel_rfl) m0 ?_
  refine rgd_pureS 1 (some 5) rfl rfl (.agg #[.int .i64 yr, .int .i64 yn]) (by kernel_rfl) (by kernel_rfl) (by kernel_rfl) (fun _ _ _ _ h => h) (by kernel_rfl) (fun U hU => exec_gload 53 _ rfl g1 0 (by kernel_rfl) _ (range_below RD.out hU) Tryd.underlying53 rfl SZD) m0 ?_
  refine rgd_pure 3 (some 7) rfl rfl (.pointer (some ⟨g1, 2, none⟩)) (by kernel_rfl) (by kernel_rfl) (by kernel_rfl) (fun _ _ _ _ h => h) (by kernel_rfl) (fun w => by kernel_rfl) m0 ?_
  refine rgd_pureS 4 (some 8) rfl rfl (.int .i64 yt) (by kernel_rfl) (by kernel_rfl) (by kernel_rfl) (fun _ _ _ _ h => h) (by kernel_rfl) (fun U hU => exec_load1 _ _ rfl Tryd.underlying3 rfl ⟨g1, 2, none⟩ _ (by kernel_rfl) (cell_hold C2.out hU)) m0 ?_
  refine rgd_call 2 (some 6) (by kernel_rfl) rfl rfl (by kernel_rfl) 68 (#[.slice none 0 0, .agg (dcs yr yn)]) (by kernel_rfl) (putDot_is none 0 [] yr yn _ ⟨Lies.nil _ _, Nat.le_refl _, fun _ => ⟨rfl, rfl⟩⟩ ⟨h_r, h_n⟩ (by simp)) ?_
  rintro e U1 hr1
  rw [List.nil_append] at hr1
  obtain ⟨L1, hL1⟩ : ∃ X, dotB (yr, yn) = X := ⟨_, rfl⟩
  rw [hL1] at hr1 E0
  have HL1 := Lib.hid hL1
  clear hL1
  obtain ⟨p1, q1, rfl, k1, b1⟩ := hr1.given
  have m1 := thenBelow m0 b1
  refine ⟨_, rfl, m1, ?_⟩
  refine rgd_call 5 (some 9) (by kernel_rfl) rfl rfl (by kernel_rfl) 27 (#[.slice p1 L1.length q1, .int .i64 yt]) (by kernel_rfl) (num_any p1 q1 L1 yt _ k1.lies (fun e => (k1.none e).1) k1.le WT.out (by omega)) ?_
  rintro e U2 hr2
  obtain ⟨L2, hL2⟩ : ∃ X, L1 ++ Cod.enc yt.toNat = X := ⟨_, rfl⟩
  have n2 : L2.length ≤ 27 := by rw [← hL2]; simp only [List.length_append]; omega
  rw [hL2] at hr2
  have HL2 := Lib.hid hL2
  clear hL2
  obtain ⟨p2, q2, rfl, k2, b2⟩ := hr2.given
  have m2 := thenBelow m1 b2
  refine ⟨_, rfl, m2, ?_⟩
  refine rgd_pure 6 (some 3) rfl rfl (.slice p2 L2.length q2) (by kernel_rfl) (by kernel_rfl) (by kernel_rfl) (fun _ _ _ _ h => h) (by kernel_rfl) (fun w => by kernel_rfl) m2 ?_
  have KE : K2 { tmps := #[.agg #[.int .i64 yr, .int .i64 yn, .int .i64 yt, .string yd, .int .i64 yf, .string ytx], .pointer (some ⟨g1, 0, none⟩), .slice none 0 0, .slice p2 L2.length q2, .pointer (some ⟨g1, 0, none⟩), .agg #[.int .i64 yr, .int .i64 yn], .slice p1 L1.length q1, .pointer (some ⟨g1, 2, none⟩), .int .i64 yt, .slice p2 L2.length q2, undef, undef, undef, undef, undef, undef, undef, undef, undef, undef, undef], defers := [] } U2 := by
    refine hK2 _ _ ?_
    have B2 := Lib.hid m2
    have G2 := Lib.hid k2
    clear hK2 m0 m1 m2 k1 k2 hr1 hr2 b1 b2
    go_wp2_with fail
    rename_i K3 hK3
    have m0 : Below U2.heap.size U2 U2.drew := (Below.refl _ _).drew
    refine rg_calm (by kernel_rfl) rfl (S := fun U => Below U2.heap.size U2 U) ?_
    refine rgd_pure 0 (some 10) rfl rfl (.slice p2 L2.length q2) (by kernel_rfl) (by kernel_rfl) (by kernel_rfl) (fun _ _ _ _ h => h) (by kernel_rfl) (fun w => by kernel_rfl) m0 ?_
    refine rgd_pure 1 (some 11) rfl rfl (.pointer (some ⟨g1, 3, none⟩)) (by kernel_rfl) (by kernel_rfl) (by kernel_rfl) (fun _ _ _ _ h => h) (by kernel_rfl) (fun w => by kernel_rfl) m0 ?_
    refine rgd_pureS 2 (some 12) rfl rfl (.string yd) (by kernel_rfl) (by kernel_rfl) (by kernel_rfl) (fun _ _ _ _ h => h) (by kernel_rfl) (fun U hU => exec_load1 _ _ rfl Tryd.underlying9 rfl ⟨g1, 3, none⟩ _ (by kernel_rfl) (cell_hold C3.out (thenBelow B2.out hU))) m0 ?_
    refine rgd_pure 4 (some 14) rfl rfl (.pointer (some ⟨g1, 4, none⟩)) (by kernel_rfl) (by kernel_rfl) (by kernel_rfl) (fun _ _ _ _ h => h) (by kernel_rfl) (fun w => by kernel_rfl) m0 ?_
    refine rgd_pureS 5 (some 15) rfl rfl (.int .i64 yf) (by kernel_rfl) (by kernel_rfl) (by kernel_rfl) (fun _ _ _ _ h => h) (by kernel_rfl) (fun U hU => exec_load1 _ _ rfl Tryd.underlying3 rfl ⟨g1, 4, none⟩ _ (by kernel_rfl) (cell_hold C4.out (thenBelow B2.out hU))) m0 ?_
    refine rgd_call 3 (some 13) (by kernel_rfl) rfl rfl (by kernel_rfl) 69 (#[.slice p2 L2.length q2, .string yd]) (by kernel_rfl) (text_any p2 q2 L2 yd _ (G2.out.below m0) (by omega)) ?_
    rintro e U3 hr3
    obtain ⟨L3, hL3⟩ : ∃ X, L2 ++ Cod.enc yd.size ++ yd.data.toList = X := ⟨_, rfl⟩
    have n3 : L3.length ≤ 1040 := by rw [← hL3]; simp only [List.length_append, Array.length_toList, ByteArray.size_data]; omega
    rw [hL3] at hr3
    have HL3 := Lib.hid hL3
    clear hL3
    obtain ⟨p3, q3, rfl, k3, b3⟩ := hr3.given
    have m1 := thenBelow m0 b3
    refine ⟨_, rfl, m1, ?_⟩
    refine rgd_call 6 (some 16) (by kernel_rfl) rfl rfl (by kernel_rfl) 27 (#[.slice p3 L3.length q3, .int .i64 yf]) (by kernel_rfl) (num_any p3 q3 L3 yf _ k3.lies (fun e => (k3.none e).1) k3.le WF.out (by omega)) ?_
    rintro e U4 hr4
    obtain ⟨L4, hL4⟩ : ∃ X, L3 ++ Cod.enc yf.toNat = X := ⟨_, rfl⟩
    have n4 : L4.length ≤ 1050 := by rw [← hL4]; simp only [List.length_append]; omega
    rw [hL4] at hr4
    have HL4 := Lib.hid hL4
    clear hL4
    obtain ⟨p4, q4, rfl, k4, b4⟩ := hr4.given
    have m2 := thenBelow m1 b4
    refine ⟨_, rfl, m2, ?_⟩
    refine rgd_pure 7 (some 3) rfl rfl (.slice p4 L4.length q4) (by kernel_rfl) (by kernel_rfl) (by kernel_rfl) (fun _ _ _ _ h => h) (by kernel_rfl) (fun w => by kernel_rfl) m2 ?_
    have KE2 : K3 { tmps := #[.agg #[.int .i64 yr, .int .i64 yn, .int .i64 yt, .string yd, .int .i64 yf, .string ytx], .pointer (some ⟨g1, 0, none⟩), .slice none 0 0, .slice p4 L4.length q4, .pointer (some ⟨g1, 0, none⟩), .agg #[.int .i64 yr, .int .i64 yn], .slice p1 L1.length q1, .pointer (some ⟨g1, 2, none⟩), .int .i64 yt, .slice p2 L2.length q2, .slice p2 L2.length q2, .pointer (some ⟨g1, 3, none⟩), .string yd, .slice p3 L3.length q3, .pointer (some ⟨g1, 4, none⟩), .int .i64 yf, .slice p4 L4.length q4, undef, undef, undef, undef], defers := [] } U4 := by
      refine hK3 _ _ ?_
      have B4 := Lib.hid (thenBelow B2.out m2)
      have G4 := Lib.hid k4
      clear hK3 m0 m1 m2 k3 k4 hr3 hr4 b3 b4
      have c5 := cell_hold C5.out B4.out
      go_wp2_with fail
      refine (text_any p4 q4 L4 ytx U4 G4.out (by omega)).mono ?_
      intro e w9 hr9
      obtain ⟨v9, rfl, hO9, hB9⟩ := hr9.after (thenBelow B1.out B4.out)
      have HALL : Hid (L = L4 ++ Cod.enc ytx.size ++ ytx.data.toList) := Lib.hid (by
        rw [← HL.out, ← HL4.out, ← HL3.out, ← HL2.out, ← HL1.out]
        unfold wtB
        simp only [List.append_assoc])
      have FO : Hid (RetOwn w 5 L (.returned v9) w9) := Lib.hid (by rw [HALL.out]; exact ⟨v9, rfl, hO9, hB9⟩)
      clear hr9 hO9 hB9 c5
      go_wp2
      go_ret
      exact FO.out
    exact wpAnyH_done (by kernel_rfl) (Eq.mp (by kernel_rfl) KE2) _
  exact wpAnyH_done (by kernel_rfl) (Eq.mp (by kernel_rfl) KE) _
end Go.Proofs.YtpngmjfnpdjjcaaDoor
/- docs.Same of equal states. -/
namespace Go.Proofs.YtpngmjfnpdjjcaaDoor
open Go Go.RowKit
set_option linter.unusedVariables false
set_option maxRecDepth 1000000

set_option maxHeartbeats 8000000 in
theorem equalWr_is (p q : Option Addr) (c d : Nat) (L : List Wr) (w : World) (h : WrsAt w p L) (h2 : WrsAt w q L) (hn : L.length ≤ 10000) :
    Calls Tryd.prog 39 #[.slice p L.length c, .slice q L.length d] w (Yes w) := by
  have HP := Lib.hid h; have HQ := Lib.hid h2
  clear h h2
  go_enter Tryd.func39, Tryd.ntmps39
  go_wp2
  go_loopw [13] (fun i wr => ∃ k : Nat, k ≤ L.length ∧ i = .int .i64 k ∧ Below w.heap.size w wr) (fun i _ => L.length - (RowKit.intOf i).toNat)
  case atStart => exact ⟨0, Nat.zero_le _, rfl, Below.refl _ _⟩
  case round =>
    obtain ⟨k, hk, rfl, hb⟩ := hrel
    have BB := Lib.hid hb
    clear hb
    by_cases hkl : k < L.length
    · have hkl' : (k : Int) < L.length := by omega
      obtain ⟨b, o, rfl, hlt, hq⟩ := (HP.out.below BB.out).at hkl
      obtain ⟨b2, o2, rfl, hlt2, hq2⟩ := (HQ.out.below BB.out).at hkl
      obtain ⟨y, hy⟩ : ∃ y, L[k] = y := ⟨_, rfl⟩
      rw [hy] at hq hq2
      clear hy
      have M := Lib.hid (And.intro (show wr.drew.rangeAt b (o + k * 6) y.cells from hq) (And.intro (show wr.drew.rangeAt b2 (o2 + k * 6) y.cells from hq2) (to_drew BB.out)))
      clear hq hq2
      go_wp2_with fail
      rename_i K2 hK2
      have m0 := M.out
      refine rg_calm (by kernel_rfl) rfl (S := fun U => U.rangeAt b (o + k * 6) y.cells ∧ U.rangeAt b2 (o2 + k * 6) y.cells ∧ Below w.heap.size w U) ?_
      refine rgd_pure 0 (some 16) rfl rfl (.slice (some ⟨b, o, none⟩) L.length c) (by kernel_rfl) (by kernel_rfl) (by kernel_rfl) (fun _ _ _ _ h => h) (by kernel_rfl) (fun w => by kernel_rfl) m0 ?_
      refine rgd_pure 1 (some 17) rfl rfl (.int .i64 (k : Int)) (by kernel_rfl) (by kernel_rfl) (by kernel_rfl) (fun _ _ _ _ h => h) (by kernel_rfl) (fun w => by kernel_rfl) m0 ?_
      refine rgd_pure 2 (some 18) rfl rfl (.pointer (some ⟨b, o + k * 6, none⟩)) (by kernel_rfl) (by kernel_rfl) (by kernel_rfl) (fun _ _ _ _ h => h) (by kernel_rfl) (exec_idxW _ _ rfl b o L.length c k (by kernel_rfl) (by kernel_rfl) hkl) m0 ?_
      refine rgd_pureS 3 (some 19) rfl rfl (.agg y.cells.toArray) (by kernel_rfl) (by kernel_rfl) (by kernel_rfl) (fun _ _ _ _ h => h) (by kernel_rfl) (fun U hU => exec_gload 55 _ rfl b (o + k * 6) (by kernel_rfl) _ hU.1 Tryd.underlying55 rfl (sizeWr y)) m0 ?_
      refine rgd_pure 4 (some 20) rfl rfl (.slice (some ⟨b2, o2, none⟩) L.length d) (by kernel_rfl) (by kernel_rfl) (by kernel_rfl) (fun _ _ _ _ h => h) (by kernel_rfl) (fun w => by kernel_rfl) m0 ?_
      refine rgd_pure 5 (some 21) rfl rfl (.int .i64 (k : Int)) (by kernel_rfl) (by kernel_rfl) (by kernel_rfl) (fun _ _ _ _ h => h) (by kernel_rfl) (fun w => by kernel_rfl) m0 ?_
      refine rgd_pure 6 (some 22) rfl rfl (.pointer (some ⟨b2, o2 + k * 6, none⟩)) (by kernel_rfl) (by kernel_rfl) (by kernel_rfl) (fun _ _ _ _ h => h) (by kernel_rfl) (exec_idxW _ _ rfl b2 o2 L.length d k (by kernel_rfl) (by kernel_rfl) hkl) m0 ?_
      refine rgd_pureS 7 (some 23) rfl rfl (.agg y.cells.toArray) (by kernel_rfl) (by kernel_rfl) (by kernel_rfl) (fun _ _ _ _ h => h) (by kernel_rfl) (fun U hU => exec_gload 55 _ rfl b2 (o2 + k * 6) (by kernel_rfl) _ hU.2.1 Tryd.underlying55 rfl (sizeWr y)) m0 ?_
      refine rgd_pure 8 (some 24) rfl rfl (.bool false) (by kernel_rfl) (by kernel_rfl) (by kernel_rfl) (fun _ _ _ _ h => h) (by kernel_rfl) (exec_neqW _ _ _ rfl y (by kernel_rfl) (by kernel_rfl)) m0 ?_
      have KE : K2 { tmps := #[.slice (some ⟨b, o, none⟩) L.length c, .slice (some ⟨b2, o2, none⟩) L.length d, undef, undef, u4, .int .i64 (k : Int), .slice (some ⟨b, o, none⟩) L.length c, .int .i64 (L.length : Int), .slice (some ⟨b2, o2, none⟩) L.length d, .int .i64 (L.length : Int), .bool false, .slice (some ⟨b, o, none⟩) L.length c, .int .i64 (L.length : Int), .int .i64 (k : Int), .bool true, .int .i64 (k : Int), .slice (some ⟨b, o, none⟩) L.length c, .int .i64 (k : Int), .pointer (some ⟨b, o + k * 6, none⟩), .agg y.cells.toArray, .slice (some ⟨b2, o2, none⟩) L.length d, .int .i64 (k : Int), .pointer (some ⟨b2, o2 + k * 6, none⟩), .agg y.cells.toArray, .bool false, u25], defers := [] } wr.drew := by
        refine hK2 _ _ ?_
        have B7 := Lib.hid m0.2.2
        clear hK2 m0
        go_wp2
        go_roundw
        case rel => exact ⟨k + 1, by omega, by go_num, B7.out⟩
        case measure => simp [RowKit.intOf]; omega
      exact wpAnyH_done (by kernel_rfl) (Eq.mp (by kernel_rfl) KE) _
    · obtain rfl : k = L.length := by omega
      have hkl' : ¬ ((L.length : Nat) : Int) < L.length := by omega
      go_wp2
      go_ret
      exact ⟨rfl, BB.out⟩
set_option maxHeartbeats 8000000 in
theorem docSame_is (F G : Nat → Int) (hFG : veq F G = true) (p q : Option Addr) (c d : Nat) (L : List Wr) (w : World) (h : WrsAt w p L) (h2 : WrsAt w q L) (hn : L.length ≤ 10000) :
    Calls Tryd.prog 21 #[.agg (scs F (.slice p L.length c)), .agg (scs G (.slice q L.length d))] w (Yes w) := by
  have HP := Lib.hid h; have HQ := Lib.hid h2
  clear h h2
  go_enter Tryd.func21, Tryd.ntmps21
  go_wp2_with (refine wpList_gbox rfl _ rfl (scs F (.slice p L.length c)) rfl ?_)
  intro g2 w1 l2 h2 hb1
  have S1 : Hid (Sx w1 g2 F (.slice p L.length c)) := Lib.hid h2
  have B1 := Lib.hid hb1
  clear h2 hb1
  go_wp2_with (refine wpList_gbox rfl _ rfl (scs G (.slice q L.length d)) rfl ?_)
  intro g3 w2 l3 h3 hb2
  have S2 := Lib.hid (S1.out.later hb2); have T2 : Hid (Sx w2 g3 G (.slice q L.length d)) := Lib.hid h3
  have B2 := Lib.hid (thenBelow B1.out hb2)
  clear h3 hb2 S1
  have k2 := S2.out.slot; have k3 := T2.out.slot
  have V2 := Lib.hid (S2.out.vec); have V3 := Lib.hid (T2.out.vec)
  have EQ : Hid (∀ V : World, (binOp .eql 23 (.agg (vf F)) (.agg (vf G))).run Tryd.prog V = .ok (.bool true) V) := Lib.hid fun V => by rw [vecI.eql F G V, hFG]
  have EW := Lib.hid (equalWr_is p q c d L w2 (HP.out.below B2.out) (HQ.out.below B2.out) hn)
  have EQ' := EQ.out
  go_wp2_with (first | refine wpList_gload rfl _ rfl g2 0 rfl _ V2.out _ Tryd.underlying23 rfl (sizeVcl F) ?_ | refine wpList_gload rfl _ rfl g3 0 rfl _ V3.out _ Tryd.underlying23 rfl (sizeVcl G) ?_)
  refine EW.out.mono ?_
  rintro e w3 ⟨rfl, hb3⟩
  have B3 := Lib.hid (thenBelow B2.out hb3)
  clear hb3 k2 k3 EQ'
  go_wp2
  go_ret
  exact ⟨rfl, B3.out⟩
end Go.Proofs.YtpngmjfnpdjjcaaDoor
/- docs.Same of any state and the empty one. -/
namespace Go.Proofs.YtpngmjfnpdjjcaaDoor
open Go Go.RowKit
set_option linter.unusedVariables false
set_option maxRecDepth 1000000

theorem wrs_nil (w : World) (p : Option Addr) : WrsAt w p [] := ⟨fun h => absurd rfl h, fun _ => rfl⟩
theorem equalWr0_is (p : Option Addr) (c : Nat) (L : List Wr) (w : World) : Calls Tryd.prog 39 #[.slice p L.length c, .slice none 0 0] w (RetBool w (decide (L.length = 0))) := by
  by_cases h : L.length = 0
  · obtain rfl : L = [] := List.eq_nil_of_length_eq_zero h
    exact (equalWr_is p none c 0 [] w (wrs_nil _ _) (wrs_nil _ _) (by simp)).mono fun e w' ⟨h1, h2⟩ => ⟨h1, h2⟩
  · have hn : ((L.length : Int) != 0) = true := by simpa using h
    have HD : Hid (decide (L.length = 0) = false) := Lib.hid (decide_eq_false h)
    clear h
    go_enter Tryd.func39, Tryd.ntmps39
    go_wp2
    go_ret
    exact ⟨by rw [HD.out]; rfl, Below.refl _ _⟩
/-- is it the empty state? -/
def noState (F : Nat → Int) (L : List Wr) : Bool := veq F (fun _ => 0) && decide (L.length = 0)
set_option maxHeartbeats 8000000 in
theorem docSame0_is (F : Nat → Int) (p : Option Addr) (c : Nat) (L : List Wr) (w : World) :
    Calls Tryd.prog 21 #[.agg (scs F (.slice p L.length c)), .agg (scs (fun _ => 0) (.slice none 0 0))] w (RetBool w (noState F L)) := by
  obtain ⟨V, hV⟩ : ∃ V, veq F (fun _ => 0) = V := ⟨_, rfl⟩
  obtain ⟨N, hN⟩ : ∃ N, decide (L.length = 0) = N := ⟨_, rfl⟩
  have EW : Hid (∀ U : World, Calls Tryd.prog 39 #[.slice p L.length c, .slice none 0 0] U (RetBool U N)) := Lib.hid fun U => by rw [← hN]; exact equalWr0_is p c L U
  have EQ : Hid (∀ U : World, (binOp .eql 23 (.agg (vf F)) (.agg (vf fun _ => 0))).run Tryd.prog U = .ok (.bool V) U) := Lib.hid fun U => by rw [vecI.eql F (fun _ => 0) U, hV]
  have HR : Hid (noState F L = (V && N)) := Lib.hid (by unfold noState; rw [hV, hN])
  clear hV hN
  go_enter Tryd.func21, Tryd.ntmps21
  go_wp2_with (refine wpList_gbox rfl _ rfl (scs F (.slice p L.length c)) rfl ?_)
  intro g2 w1 l2 h2 hb1
  have S1 : Hid (Sx w1 g2 F (.slice p L.length c)) := Lib.hid h2
  have B1 := Lib.hid hb1
  clear h2 hb1
  go_wp2_with (refine wpList_gbox rfl _ rfl (scs (fun _ => 0) (.slice none 0 0)) rfl ?_)
  intro g3 w2 l3 h3 hb2
  have S2 := Lib.hid (S1.out.later hb2); have T2 : Hid (Sx w2 g3 (fun _ => 0) (.slice none 0 0)) := Lib.hid h3
  have B2 := Lib.hid (thenBelow B1.out hb2)
  clear h3 hb2 S1
  have k2 := S2.out.slot; have k3 := T2.out.slot
  have V2 := Lib.hid (S2.out.vec); have V3 := Lib.hid (T2.out.vec)
  have EQ' := EQ.out
  cases V with
  | false =>
    go_wp2_with (first | refine wpList_gload rfl _ rfl g2 0 rfl _ V2.out _ Tryd.underlying23 rfl (sizeVcl F) ?_ | refine wpList_gload rfl _ rfl g3 0 rfl _ V3.out _ Tryd.underlying23 rfl (sizeVcl fun _ => 0) ?_)
    go_ret
    exact ⟨by rw [HR.out]; rfl, B2.out⟩
  | true =>
    go_wp2_with (first | refine wpList_gload rfl _ rfl g2 0 rfl _ V2.out _ Tryd.underlying23 rfl (sizeVcl F) ?_ | refine wpList_gload rfl _ rfl g3 0 rfl _ V3.out _ Tryd.underlying23 rfl (sizeVcl fun _ => 0) ?_)
    refine (EW.out w2).mono ?_
    rintro e w3 ⟨rfl, hb3⟩
    have B3 := Lib.hid (thenBelow B2.out hb3)
    clear hb3 k2 k3 EQ'
    go_wp2
    go_ret
    exact ⟨by rw [HR.out]; cases N <;> rfl, B3.out⟩
end Go.Proofs.YtpngmjfnpdjjcaaDoor
