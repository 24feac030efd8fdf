/- The statement WireDecodes, proved for every input that its row reads: part 33 of 54. -/
import Derived.Test.YtapmbankpbiglaaGreatDoorPackWireDecodes17
import Derived.Test.YtapmbankpbiglaaGreatDoorPackWireDecodes22
import Derived.Test.YtapmbankpbiglaaGreatDoorPackWireDecodes32
/- A write's bytes. -/
namespace Go.Proofs.YtapmbankpbiglaaGreatDoor
open Go Go.RowKit
set_option linter.unusedVariables false
set_option maxRecDepth 1000000

/-- a write's bytes -/
def wtB (y : Wr) : List UInt8 := dotB (y.rep, y.n) ++ (Cod.enc y.time.toNat ++ (Cod.enc y.doc.size ++ (y.doc.data.toList ++ (Cod.enc y.field.toNat ++ (Cod.enc y.text.size ++ y.text.data.toList)))))
/-- a write within bounds -/
structure Small1 (y : Wr) : Prop where
  rep : -1000000000000000000 ≤ y.rep ∧ y.rep ≤ 1000000000000000000
  n : -1000000000000000000 ≤ y.n ∧ y.n ≤ 1000000000000000000
  time : -1000000000000000000 ≤ y.time ∧ y.time ≤ 1000000000000000000
  field : -1000000000000000000 ≤ y.field ∧ y.field ≤ 1000000000000000000
  doc : y.doc.size ≤ 1000
  text : y.text.size ≤ 1000
theorem wtB_len {y : Wr} (h : Small1 y) : (wtB y).length ≤ 2100 := by
  have h1 := h.doc; have h2 := h.text
  have e0 := dotB_len (y.rep, y.n); have e1 := enc_len y.time.toNat; have e2 := enc_len y.doc.size; have e3 := enc_len y.field.toNat; have e4 := enc_len y.text.size
  unfold wtB
  simp only [List.length_append, Array.length_toList, ByteArray.size_data]
  omega
theorem small_of {y : Wr} (h : chk (putE y) = 0) : Small1 y := by
  have F := fine_of h
  have fd := (vld_iff _ _).1 F.dot
  have f1 := F.time; have f2 := F.field; have f3 := F.doc; have f4 := F.text
  simp only [putE] at fd f1 f2 f3 f4
  exact ⟨by omega, by omega, by omega, by omega, by omega, by omega⟩
set_option maxHeartbeats 8000000 in
theorem docWritten_is (y : Wr) (w : World) (hy : Small1 y) :
    Calls Tryz.prog 75 #[.agg y.cells.toArray] w (RetOwn w 5 (wtB y)) := by
  obtain ⟨L, hL⟩ : ∃ L, wtB y = L := ⟨_, rfl⟩
  rw [hL]
  have HL := Lib.hid hL
  clear hL
  go_enter Tryz.func75, Tryz.ntmps75
  go_wp2_with (refine wpList_gbox rfl _ rfl y.cells.toArray rfl ?_)
  intro g1 w1 l1 h1 hb1
  have B1 := Lib.hid hb1
  have R1 : Hid (w1.rangeAt g1 0 y.cells) := Lib.hid (by simpa using range_of_block h1)
  clear h1 hb1
  obtain ⟨c0, c1, c2, c3, c4, c5⟩ := wr_cells R1.out
  simp only [Nat.zero_add] at c0 c1 c2 c3 c4 c5
  obtain ⟨h_r, h_n, h_t, h_f, h_d, h_x⟩ := hy
  obtain ⟨yr, yn, yt, yd, yf, ytx⟩ := y
  simp only at c0 c1 c2 c3 c4 c5 h_r h_n h_t h_f h_d h_x
  have C2 := Lib.hid c2; have C3 := Lib.hid c3; have C4 := Lib.hid c4; have C5 := Lib.hid c5
  have WT := Lib.hid (wf_ok h_t); have WF := Lib.hid (wf_ok h_f)
  have RD := Lib.hid (wr_dot R1.out)
  have SZD : (Tryz.prog.info? 76).map (·.size) = some [Value.int .i64 yr, .int .i64 yn].length := by kernel_rfl
  clear c0 c1 c2 c3 c4 c5 R1
  have E1 := enc_len yt.toNat; have E2 := enc_len yd.size; have E3 := enc_len yf.toNat; have E4 := enc_len ytx.size
  have E0 := dotB_len (yr, yn)
  go_wp2_with fail
  rename_i K2 hK2
  have m0 : Below w1.heap.size w1 w1.drew := (Below.refl _ _).drew
  refine rg_calm (by kernel_rfl) rfl (S := fun U => Below w1.heap.size w1 U) ?_
  refine rgd_pure 0 (some 4) rfl rfl (.pointer (some ⟨g1, 0, none⟩)) (by kernel_rfl) (by kernel_rfl) (by kernel_rfl) (fun _ _ _ _ h => h) (by kernel_rfl) (fun w => by kernel_rfl) m0 ?_
  refine rgd_pureS 1 (some 5) rfl rfl (.agg #[.int .i64 yr, .int .i64 yn]) (by kernel_rfl) (by kernel_rfl) (by kernel_rfl) (fun _ _ _ _ h => h) (by kernel_rfl) (fun U hU => exec_gload 76 _ rfl g1 0 (by kernel_rfl) _ (range_below RD.out hU) Tryz.underlying76 rfl SZD) m0 ?_
  refine rgd_pure 3 (some 7) rfl rfl (.pointer (some ⟨g1, 2, none⟩)) (by kernel_rfl) (by kernel_rfl) (by kernel_rfl) (fun _ _ _ _ h => h) (by kernel_rfl) (fun w => by kernel_rfl) m0 ?_
  refine rgd_pureS 4 (some 8) rfl rfl (.int .i64 yt) (by kernel_rfl) (by kernel_rfl) (by kernel_rfl) (fun _ _ _ _ h => h) (by kernel_rfl) (fun U hU => exec_load1 _ _ rfl Tryz.underlying3 rfl ⟨g1, 2, none⟩ _ (by kernel_rfl) (cell_hold C2.out hU)) m0 ?_
  refine rgd_call 2 (some 6) (by kernel_rfl) rfl rfl (by kernel_rfl) 93 (#[.slice none 0 0, .agg (dcs yr yn)]) (by kernel_rfl) (putDot_is none 0 [] yr yn _ ⟨Lies.nil _ _, Nat.le_refl _, fun _ => ⟨rfl, rfl⟩⟩ ⟨h_r, h_n⟩ (by simp)) ?_
  rintro e U1 hr1
  rw [List.nil_append] at hr1
  obtain ⟨L1, hL1⟩ : ∃ X, dotB (yr, yn) = X := ⟨_, rfl⟩
  rw [hL1] at hr1 E0
  have HL1 := Lib.hid hL1
  clear hL1
  obtain ⟨p1, q1, rfl, k1, b1⟩ := hr1.given
  have m1 := thenBelow m0 b1
  refine ⟨_, rfl, m1, ?_⟩
  refine rgd_call 5 (some 9) (by kernel_rfl) rfl rfl (by kernel_rfl) 48 (#[.slice p1 L1.length q1, .int .i64 yt]) (by kernel_rfl) (num_any p1 q1 L1 yt _ k1.lies (fun e => (k1.none e).1) k1.le WT.out (by omega)) ?_
  rintro e U2 hr2
  obtain ⟨L2, hL2⟩ : ∃ X, L1 ++ Cod.enc yt.toNat = X := ⟨_, rfl⟩
  have n2 : L2.length ≤ 27 := by rw [← hL2]; simp only [List.length_append]; omega
  rw [hL2] at hr2
  have HL2 := Lib.hid hL2
  clear hL2
  obtain ⟨p2, q2, rfl, k2, b2⟩ := hr2.given
  have m2 := thenBelow m1 b2
  refine ⟨_, rfl, m2, ?_⟩
  refine rgd_pure 6 (some 3) rfl rfl (.slice p2 L2.length q2) (by kernel_rfl) (by kernel_rfl) (by kernel_rfl) (fun _ _ _ _ h => h) (by kernel_rfl) (fun w => by kernel_rfl) m2 ?_
  have KE : K2 { tmps := #[.agg #[.int .i64 yr, .int .i64 yn, .int .i64 yt, .string yd, .int .i64 yf, .string ytx], .pointer (some ⟨g1, 0, none⟩), .slice none 0 0, .slice p2 L2.length q2, .pointer (some ⟨g1, 0, none⟩), .agg #[.int .i64 yr, .int .i64 yn], .slice p1 L1.length q1, .pointer (some ⟨g1, 2, none⟩), .int .i64 yt, .slice p2 L2.length q2, undef, undef, undef, undef, undef, undef, undef, undef, undef, undef, undef], defers := [] } U2 := by
    refine hK2 _ _ ?_
    have B2 := Lib.hid m2
    have G2 := Lib.hid k2
    clear hK2 m0 m1 m2 k1 k2 hr1 hr2 b1 b2
    go_wp2_with fail
    rename_i K3 hK3
    have m0 : Below U2.heap.size U2 U2.drew := (Below.refl _ _).drew
    refine rg_calm (by kernel_rfl) rfl (S := fun U => Below U2.heap.size U2 U) ?_
    refine rgd_pure 0 (some 10) rfl rfl (.slice p2 L2.length q2) (by kernel_rfl) (by kernel_rfl) (by kernel_rfl) (fun _ _ _ _ h => h) (by kernel_rfl) (fun w => by kernel_rfl) m0 ?_
    refine rgd_pure 1 (some 11) rfl rfl (.pointer (some ⟨g1, 3, none⟩)) (by kernel_rfl) (by kernel_rfl) (by kernel_rfl) (fun _ _ _ _ h => h) (by kernel_rfl) (fun w => by kernel_rfl) m0 ?_
    refine rgd_pureS 2 (some 12) rfl rfl (.string yd) (by kernel_rfl) (by kernel_rfl) (by kernel_rfl) (fun _ _ _ _ h => h) (by kernel_rfl) (fun U hU => exec_load1 _ _ rfl Tryz.underlying9 rfl ⟨g1, 3, none⟩ _ (by kernel_rfl) (cell_hold C3.out (thenBelow B2.out hU))) m0 ?_
    refine rgd_pure 4 (some 14) rfl rfl (.pointer (some ⟨g1, 4, none⟩)) (by kernel_rfl) (by kernel_rfl) (by kernel_rfl) (fun _ _ _ _ h => h) (by kernel_rfl) (fun w => by kernel_rfl) m0 ?_
    refine rgd_pureS 5 (some 15) rfl rfl (.int .i64 yf) (by kernel_rfl) (by kernel_rfl) (by kernel_rfl) (fun _ _ _ _ h => h) (by kernel_rfl) (fun U hU => exec_load1 _ _ rfl Tryz.underlying3 rfl ⟨g1, 4, none⟩ _ (by kernel_rfl) (cell_hold C4.out (thenBelow B2.out hU))) m0 ?_
    refine rgd_call 3 (some 13) (by kernel_rfl) rfl rfl (by kernel_rfl) 94 (#[.slice p2 L2.length q2, .string yd]) (by kernel_rfl) (text_any p2 q2 L2 yd _ (G2.out.below m0) (by omega)) ?_
    rintro e U3 hr3
    obtain ⟨L3, hL3⟩ : ∃ X, L2 ++ Cod.enc yd.size ++ yd.data.toList = X := ⟨_, rfl⟩
    have n3 : L3.length ≤ 1040 := by rw [← hL3]; simp only [List.length_append, Array.length_toList, ByteArray.size_data]; omega
    rw [hL3] at hr3
    have HL3 := Lib.hid hL3
    clear hL3
    obtain ⟨p3, q3, rfl, k3, b3⟩ := hr3.given
    have m1 := thenBelow m0 b3
    refine ⟨_, rfl, m1, ?_⟩
    refine rgd_call 6 (some 16) (by kernel_rfl) rfl rfl (by kernel_rfl) 48 (#[.slice p3 L3.length q3, .int .i64 yf]) (by kernel_rfl) (num_any p3 q3 L3 yf _ k3.lies (fun e => (k3.none e).1) k3.le WF.out (by omega)) ?_
    rintro e U4 hr4
    obtain ⟨L4, hL4⟩ : ∃ X, L3 ++ Cod.enc yf.toNat = X := ⟨_, rfl⟩
    have n4 : L4.length ≤ 1050 := by rw [← hL4]; simp only [List.length_append]; omega
    rw [hL4] at hr4
    have HL4 := Lib.hid hL4
    clear hL4
    obtain ⟨p4, q4, rfl, k4, b4⟩ := hr4.given
    have m2 := thenBelow m1 b4
    refine ⟨_, rfl, m2, ?_⟩
    refine rgd_pure 7 (some 3) rfl rfl (.slice p4 L4.length q4) (by kernel_rfl) (by kernel_rfl) (by kernel_rfl) (fun _ _ _ _ h => h) (by kernel_rfl) (fun w => by kernel_rfl) m2 ?_
    have KE2 : K3 { tmps := #[.agg #[.int .i64 yr, .int .i64 yn, .int .i64 yt, .string yd, .int .i64 yf, .string ytx], .pointer (some ⟨g1, 0, none⟩), .slice none 0 0, .slice p4 L4.length q4, .pointer (some ⟨g1, 0, none⟩), .agg #[.int .i64 yr, .int .i64 yn], .slice p1 L1.length q1, .pointer (some ⟨g1, 2, none⟩), .int .i64 yt, .slice p2 L2.length q2, .slice p2 L2.length q2, .pointer (some ⟨g1, 3, none⟩), .string yd, .slice p3 L3.length q3, .pointer (some ⟨g1, 4, none⟩), .int .i64 yf, .slice p4 L4.length q4, undef, undef, undef, undef], defers := [] } U4 := by
      refine hK3 _ _ ?_
      have B4 := Lib.hid (thenBelow B2.out m2)
      have G4 := Lib.hid k4
      clear hK3 m0 m1 m2 k3 k4 hr3 hr4 b3 b4
      have c5 := cell_hold C5.out B4.out
      go_wp2_with fail
      refine (text_any p4 q4 L4 ytx U4 G4.out (by omega)).mono ?_
      intro e w9 hr9
      obtain ⟨v9, rfl, hO9, hB9⟩ := hr9.after (thenBelow B1.out B4.out)
      have HALL : Hid (L = L4 ++ Cod.enc ytx.size ++ ytx.data.toList) := Lib.hid (by
        rw [← HL.out, ← HL4.out, ← HL3.out, ← HL2.out, ← HL1.out]
        unfold wtB
        simp only [List.append_assoc])
      have FO : Hid (RetOwn w 5 L (.returned v9) w9) := Lib.hid (by rw [HALL.out]; exact ⟨v9, rfl, hO9, hB9⟩)
      clear hr9 hO9 hB9 c5
      go_wp2
      go_ret
      exact FO.out
    exact wpAnyH_done (by kernel_rfl) (Eq.mp (by kernel_rfl) KE2) _
  exact wpAnyH_done (by kernel_rfl) (Eq.mp (by kernel_rfl) KE) _
end Go.Proofs.YtapmbankpbiglaaGreatDoor
/- docs.Same of equal states. -/
namespace Go.Proofs.YtapmbankpbiglaaGreatDoor
open Go Go.RowKit
set_option linter.unusedVariables false
set_option maxRecDepth 1000000

set_option maxHeartbeats 8000000 in
theorem equalWr_is (p q : Option Addr) (c d : Nat) (L : List Wr) (w : World) (h : WrsAt w p L) (h2 : WrsAt w q L) (hn : L.length ≤ 10000) :
    Calls Tryz.prog 89 #[.slice p L.length c, .slice q L.length d] w (Yes w) := by
  have HP := Lib.hid h; have HQ := Lib.hid h2
  clear h h2
  go_enter Tryz.func89, Tryz.ntmps89
  go_wp2
  go_loopw [13] (fun i wr => ∃ k : Nat, k ≤ L.length ∧ i = .int .i64 k ∧ Below w.heap.size w wr) (fun i _ => L.length - (RowKit.intOf i).toNat)
  case atStart => exact ⟨0, Nat.zero_le _, rfl, Below.refl _ _⟩
  case round =>
    obtain ⟨k, hk, rfl, hb⟩ := hrel
    have BB := Lib.hid hb
    clear hb
    by_cases hkl : k < L.length
    · have hkl' : (k : Int) < L.length := by omega
      obtain ⟨b, o, rfl, hlt, hq⟩ := (HP.out.below BB.out).at hkl
      obtain ⟨b2, o2, rfl, hlt2, hq2⟩ := (HQ.out.below BB.out).at hkl
      obtain ⟨y, hy⟩ : ∃ y, L[k] = y := ⟨_, rfl⟩
      rw [hy] at hq hq2
      clear hy
      have M := Lib.hid (And.intro (show wr.drew.rangeAt b (o + k * 6) y.cells from hq) (And.intro (show wr.drew.rangeAt b2 (o2 + k * 6) y.cells from hq2) (to_drew BB.out)))
      clear hq hq2
      go_wp2_with fail
      rename_i K2 hK2
      have m0 := M.out
      refine rg_calm (by kernel_rfl) rfl (S := fun U => U.rangeAt b (o + k * 6) y.cells ∧ U.rangeAt b2 (o2 + k * 6) y.cells ∧ Below w.heap.size w U) ?_
      refine rgd_pure 0 (some 16) rfl rfl (.slice (some ⟨b, o, none⟩) L.length c) (by kernel_rfl) (by kernel_rfl) (by kernel_rfl) (fun _ _ _ _ h => h) (by kernel_rfl) (fun w => by kernel_rfl) m0 ?_
      refine rgd_pure 1 (some 17) rfl rfl (.int .i64 (k : Int)) (by kernel_rfl) (by kernel_rfl) (by kernel_rfl) (fun _ _ _ _ h => h) (by kernel_rfl) (fun w => by kernel_rfl) m0 ?_
      refine rgd_pure 2 (some 18) rfl rfl (.pointer (some ⟨b, o + k * 6, none⟩)) (by kernel_rfl) (by kernel_rfl) (by kernel_rfl) (fun _ _ _ _ h => h) (by kernel_rfl) (exec_idxW _ _ rfl b o L.length c k (by kernel_rfl) (by kernel_rfl) hkl) m0 ?_
      refine rgd_pureS 3 (some 19) rfl rfl (.agg y.cells.toArray) (by kernel_rfl) (by kernel_rfl) (by kernel_rfl) (fun _ _ _ _ h => h) (by kernel_rfl) (fun U hU => exec_gload 83 _ rfl b (o + k * 6) (by kernel_rfl) _ hU.1 Tryz.underlying83 rfl (sizeWr y)) m0 ?_
      refine rgd_pure 4 (some 20) rfl rfl (.slice (some ⟨b2, o2, none⟩) L.length d) (by kernel_rfl) (by kernel_rfl) (by kernel_rfl) (fun _ _ _ _ h => h) (by kernel_rfl) (fun w => by kernel_rfl) m0 ?_
      refine rgd_pure 5 (some 21) rfl rfl (.int .i64 (k : Int)) (by kernel_rfl) (by kernel_rfl) (by kernel_rfl) (fun _ _ _ _ h => h) (by kernel_rfl) (fun w => by kernel_rfl) m0 ?_
      refine rgd_pure 6 (some 22) rfl rfl (.pointer (some ⟨b2, o2 + k * 6, none⟩)) (by kernel_rfl) (by kernel_rfl) (by kernel_rfl) (fun _ _ _ _ h => h) (by kernel_rfl) (exec_idxW _ _ rfl b2 o2 L.length d k (by kernel_rfl) (by kernel_rfl) hkl) m0 ?_
      refine rgd_pureS 7 (some 23) rfl rfl (.agg y.cells.toArray) (by kernel_rfl) (by kernel_rfl) (by kernel_rfl) (fun _ _ _ _ h => h) (by kernel_rfl) (fun U hU => exec_gload 83 _ rfl b2 (o2 + k * 6) (by kernel_rfl) _ hU.2.1 Tryz.underlying83 rfl (sizeWr y)) m0 ?_
      refine rgd_pure 8 (some 24) rfl rfl (.bool false) (by kernel_rfl) (by kernel_rfl) (by kernel_rfl) (fun _ _ _ _ h => h) (by kernel_rfl) (exec_neqW _ _ _ rfl y (by kernel_rfl) (by kernel_rfl)) m0 ?_
      have KE : K2 { tmps := #[.slice (some ⟨b, o, none⟩) L.length c, .slice (some ⟨b2, o2, none⟩) L.length d, undef, undef, u4, .int .i64 (k : Int), .slice (some ⟨b, o, none⟩) L.length c, .int .i64 (L.length : Int), .slice (some ⟨b2, o2, none⟩) L.length d, .int .i64 (L.length : Int), .bool false, .slice (some ⟨b, o, none⟩) L.length c, .int .i64 (L.length : Int), .int .i64 (k : Int), .bool true, .int .i64 (k : Int), .slice (some ⟨b, o, none⟩) L.length c, .int .i64 (k : Int), .pointer (some ⟨b, o + k * 6, none⟩), .agg y.cells.toArray, .slice (some ⟨b2, o2, none⟩) L.length d, .int .i64 (k : Int), .pointer (some ⟨b2, o2 + k * 6, none⟩), .agg y.cells.toArray, .bool false, u25], defers := [] } wr.drew := by
        refine hK2 _ _ ?_
        have B7 := Lib.hid m0.2.2
        clear hK2 m0
        go_wp2
        go_roundw
        case rel => exact ⟨k + 1, by omega, by go_num, B7.out⟩
        case measure => simp [RowKit.intOf]; omega
      exact wpAnyH_done (by kernel_rfl) (Eq.mp (by kernel_rfl) KE) _
    · obtain rfl : k = L.length := by omega
      have hkl' : ¬ ((L.length : Nat) : Int) < L.length := by omega
      go_wp2
      go_ret
      exact ⟨rfl, BB.out⟩
set_option maxHeartbeats 8000000 in
theorem docSame_is (F G : Nat → Int) (hFG : veq F G = true) (p q : Option Addr) (c d : Nat) (L : List Wr) (w : World) (h : WrsAt w p L) (h2 : WrsAt w q L) (hn : L.length ≤ 10000) :
    Calls Tryz.prog 61 #[.agg (scs F (.slice p L.length c)), .agg (scs G (.slice q L.length d))] w (Yes w) := by
  have HP := Lib.hid h; have HQ := Lib.hid h2
  clear h h2
  go_enter Tryz.func61, Tryz.ntmps61
  go_wp2_with (refine wpList_gbox rfl _ rfl (scs F (.slice p L.length c)) rfl ?_)
  intro g2 w1 l2 h2 hb1
  have S1 : Hid (Sx w1 g2 F (.slice p L.length c)) := Lib.hid h2
  have B1 := Lib.hid hb1
  clear h2 hb1
  go_wp2_with (refine wpList_gbox rfl _ rfl (scs G (.slice q L.length d)) rfl ?_)
  intro g3 w2 l3 h3 hb2
  have S2 := Lib.hid (S1.out.later hb2); have T2 : Hid (Sx w2 g3 G (.slice q L.length d)) := Lib.hid h3
  have B2 := Lib.hid (thenBelow B1.out hb2)
  clear h3 hb2 S1
  have k2 := S2.out.slot; have k3 := T2.out.slot
  have V2 := Lib.hid (S2.out.vec); have V3 := Lib.hid (T2.out.vec)
  have EQ : Hid (∀ V : World, (binOp .eql 25 (.agg (vf F)) (.agg (vf G))).run Tryz.prog V = .ok (.bool true) V) := Lib.hid fun V => by rw [vecI.eql F G V, hFG]
  have EW := Lib.hid (equalWr_is p q c d L w2 (HP.out.below B2.out) (HQ.out.below B2.out) hn)
  have EQ' := EQ.out
  go_wp2_with (first | refine wpList_gload rfl _ rfl g2 0 rfl _ V2.out _ Tryz.underlying25 rfl (sizeVcl F) ?_ | refine wpList_gload rfl _ rfl g3 0 rfl _ V3.out _ Tryz.underlying25 rfl (sizeVcl G) ?_)
  refine EW.out.mono ?_
  rintro e w3 ⟨rfl, hb3⟩
  have B3 := Lib.hid (thenBelow B2.out hb3)
  clear hb3 k2 k3 EQ'
  go_wp2
  go_ret
  exact ⟨rfl, B3.out⟩
end Go.Proofs.YtapmbankpbiglaaGreatDoor
/- docs.Same of any state and the empty one. -/
namespace Go.Proofs.YtapmbankpbiglaaGreatDoor
open Go Go.RowKit
set_option linter.unusedVariables false
set_option maxRecDepth 1000000

theorem wrs_nil (w : World) (p : Option Addr) : WrsAt w p [] := ⟨fun h => absurd rfl h, fun _ => rfl⟩
theorem equalWr0_is (p : Option Addr) (c : Nat) (L : List Wr) (w : World) : Calls Tryz.prog 89 #[.slice p L.length c, .slice none 0 0] w (RetBool w (decide (L.length = 0))) := by
  by_cases h : L.length = 0
  · obtain rfl : L = [] := List.eq_nil_of_length_eq_zero h
    exact (equalWr_is p none c 0 [] w (wrs_nil _ _) (wrs_nil _ _) (by simp)).mono fun e w' ⟨h1, h2⟩ => ⟨h1, h2⟩
  · have hn : ((L.length : Int) != 0) = true := by simpa using h
    have HD : Hid (decide (L.length = 0) = false) := Lib.hid (decide_eq_false h)
    clear h
    go_enter Tryz.func89, Tryz.ntmps89
    go_wp2
    go_ret
    exact ⟨by rw [HD.out]; rfl, Below.refl _ _⟩
/-- is it the empty state? -/
def noState (F : Nat → Int) (L : List Wr) : Bool := veq F (fun _ => 0) && decide (L.length = 0)
set_option maxHeartbeats 8000000 in
theorem docSame0_is (F : Nat → Int) (p : Option Addr) (c : Nat) (L : List Wr) (w : World) :
    Calls Tryz.prog 61 #[.agg (scs F (.slice p L.length c)), .agg (scs (fun _ => 0) (.slice none 0 0))] w (RetBool w (noState F L)) := by
  obtain ⟨V, hV⟩ : ∃ V, veq F (fun _ => 0) = V := ⟨_, rfl⟩
  obtain ⟨N, hN⟩ : ∃ N, decide (L.length = 0) = N := ⟨_, rfl⟩
  have EW : Hid (∀ U : World, Calls Tryz.prog 89 #[.slice p L.length c, .slice none 0 0] U (RetBool U N)) := Lib.hid fun U => by rw [← hN]; exact equalWr0_is p c L U
  have EQ : Hid (∀ U : World, (binOp .eql 25 (.agg (vf F)) (.agg (vf fun _ => 0))).run Tryz.prog U = .ok (.bool V) U) := Lib.hid fun U => by rw [vecI.eql F (fun _ => 0) U, hV]
  have HR : Hid (noState F L = (V && N)) := Lib.hid (by unfold noState; rw [hV, hN])
  clear hV hN
  go_enter Tryz.func61, Tryz.ntmps61
  go_wp2_with (refine wpList_gbox rfl _ rfl (scs F (.slice p L.length c)) rfl ?_)
  intro g2 w1 l2 h2 hb1
  have S1 : Hid (Sx w1 g2 F (.slice p L.length c)) := Lib.hid h2
  have B1 := Lib.hid hb1
  clear h2 hb1
  go_wp2_with (refine wpList_gbox rfl _ rfl (scs (fun _ => 0) (.slice none 0 0)) rfl ?_)
  intro g3 w2 l3 h3 hb2
  have S2 := Lib.hid (S1.out.later hb2); have T2 : Hid (Sx w2 g3 (fun _ => 0) (.slice none 0 0)) := Lib.hid h3
  have B2 := Lib.hid (thenBelow B1.out hb2)
  clear h3 hb2 S1
  have k2 := S2.out.slot; have k3 := T2.out.slot
  have V2 := Lib.hid (S2.out.vec); have V3 := Lib.hid (T2.out.vec)
  have EQ' := EQ.out
  cases V with
  | false =>
    go_wp2_with (first | refine wpList_gload rfl _ rfl g2 0 rfl _ V2.out _ Tryz.underlying25 rfl (sizeVcl F) ?_ | refine wpList_gload rfl _ rfl g3 0 rfl _ V3.out _ Tryz.underlying25 rfl (sizeVcl fun _ => 0) ?_)
    go_ret
    exact ⟨by rw [HR.out]; rfl, B2.out⟩
  | true =>
    go_wp2_with (first | refine wpList_gload rfl _ rfl g2 0 rfl _ V2.out _ Tryz.underlying25 rfl (sizeVcl F) ?_ | refine wpList_gload rfl _ rfl g3 0 rfl _ V3.out _ Tryz.underlying25 rfl (sizeVcl fun _ => 0) ?_)
    refine (EW.out w2).mono ?_
    rintro e w3 ⟨rfl, hb3⟩
    have B3 := Lib.hid (thenBelow B2.out hb3)
    clear hb3 k2 k3 EQ'
    go_wp2
    go_ret
    exact ⟨by rw [HR.out]; cases N <;> rfl, B3.out⟩
end Go.Proofs.YtapmbankpbiglaaGreatDoor
/- docs.Same of any two states. -/
namespace Go.Proofs.YtapmbankpbiglaaGreatDoor
open Go Go.RowKit
set_option linter.unusedVariables false
set_option maxRecDepth 1000000

theorem runEqDt9A (r n r' n' : Int) (w : World) : (Op.equalIn 9999 76 (.agg #[.int .i64 r, .int .i64 n]) (.agg #[.int .i64 r', .int .i64 n'])).run Tryz.prog w = .ok (r == r' && n == n') w := by
  have u3 := Tryz.underlying3
  have a3 := Tryz.isAgg3
  have z3 := Tryz.sizeOf3
  have hS : Tryz.prog.underlying 76 = some (.struct (Tryz.prog.fieldsOf 76)) := by kernel_rfl
  have hp : Tryz.prog.stoodInHeld 76 = false := by kernel_rfl
  rw [show (9999 : Nat) = 9998 + 1 from rfl, run_equalIn_agg w 9998 76 _ _ hS hp]
  simp only [Program.fieldsOf, Tryz.underlying76]
  go_simp
  by_cases h1 : r = r' <;> by_cases h2 : n = n' <;> simp [h1, h2]
/-- are two writes the same? -/
noncomputable def eqW (x y : Wr) : Bool := @decide (x = y) (Classical.propDecidable _)
theorem eqW_yes (x : Wr) : eqW x x = true := by unfold eqW; simp
theorem eqW_no {x y : Wr} (h : x ≠ y) : eqW x y = false := by unfold eqW; simp [h]
theorem eqW_iff {x y : Wr} : eqW x y = true ↔ x = y := by unfold eqW; simp
theorem neB2 (x y : ByteArray) (h : ¬ x = y) : ¬ x.toList = y.toList := fun e => h (ByteArray.ext (Array.toList_inj.1 (by rw [Lib.toList_data, Lib.toList_data] at e; exact e)))
theorem runEqWA (x y : Wr) (w : World) : (Op.equalIn 10000 83 (.agg x.cells.toArray) (.agg y.cells.toArray)).run Tryz.prog w = .ok (eqW x y) w := by
  have u3 := Tryz.underlying3
  have a3 := Tryz.isAgg3
  have z3 := Tryz.sizeOf3
  have u9 := Tryz.underlying9
  have a9 := Tryz.isAgg9
  have z9 := Tryz.sizeOf9
  have ud := Tryz.underlying76
  have ad := Tryz.isAgg76
  have zd := Tryz.sizeOf76
  have hS : Tryz.prog.underlying 83 = some (.struct (Tryz.prog.fieldsOf 83)) := by kernel_rfl
  have hp : Tryz.prog.stoodInHeld 83 = false := by kernel_rfl
  by_cases hxy : x = y
  · subst hxy
    rw [eqW_yes]; exact runEqW x w
  rw [eqW_no hxy]
  obtain ⟨r, n, t, d, f, tx⟩ := x
  obtain ⟨r', n', t', d', f', tx'⟩ := y
  have hd := runEqDt9A r n r' n'
  simp only [Wr.cells]
  rw [show (10000 : Nat) = 9999 + 1 from rfl, run_equalIn_agg w 9999 83 _ _ hS hp]
  simp only [Program.fieldsOf, Tryz.underlying83]
  by_cases h1 : r = r'
  · by_cases h2 : n = n'
    · by_cases h3 : t = t'
      · by_cases h4 : d = d'
        · by_cases h5 : f = f'
          · by_cases h6 : tx = tx'
            · exact absurd (by rw [h1, h2, h3, h4, h5, h6]) hxy
            · have h6 := neB2 _ _ h6
              subst h1; subst h2; subst h3; subst h4; subst h5
              go_simp
          · subst h1; subst h2; subst h3; subst h4
            go_simp
        · have h4 := neB2 _ _ h4
          subst h1; subst h2; subst h3
          go_simp
      · subst h1; subst h2
        go_simp
    · subst h1
      go_simp
  · go_simp
theorem exec_neqWA {o : Oper} {a : Act} (t : TypeId) (x y : Operand) (ho : o.op = .binOp .neq 83 x y t) (X Y : Wr) (b : Bool) (hb : (!eqW X Y) = b) (hx : a.eval x = .agg X.cells.toArray) (hy : a.eval y = .agg Y.cells.toArray) (w : World) :
    (execOp a.eval o).run Tryz.prog w = .ok (.value (.bool b)) w := by
  have h : (binOp .neq 83 (.agg X.cells.toArray) (.agg Y.cells.toArray)).run Tryz.prog w = .ok (.bool b) w := by
    rw [run_neq_struct, runEqWA X Y w, ← hb]; rfl
  unfold execOp
  simp only [ho, hx, hy]
  refine run_value_of ?_
  rw [Sem.run_bind]
  have hg : (eqGuard .neq 83 x y (.agg X.cells.toArray) (.agg Y.cells.toArray)).run Tryz.prog w = .ok () w := by
    unfold eqGuard
    go_simp
  rw [hg]
  exact h
/-- are two lists of writes the same? -/
noncomputable def eqL (L M : List Wr) : Bool := @decide (L = M) (Classical.propDecidable _)
theorem eqL_iff {L M : List Wr} : eqL L M = true ↔ L = M := by unfold eqL; simp
theorem eqL_no {L M : List Wr} (h : L ≠ M) : eqL L M = false := by unfold eqL; simp [h]
theorem eqL_yes (L : List Wr) : eqL L L = true := eqL_iff.2 rfl
set_option maxHeartbeats 8000000 in
theorem equalWrN_is (p q : Option Addr) (c d N : Nat) (L M : List Wr) (w : World) (hL : L.length = N) (hM : M.length = N) (h : WrsAt w p L) (h2 : WrsAt w q M) (hn : N ≤ 1000000) :
    Calls Tryz.prog 89 #[.slice p N c, .slice q N d] w (RetBool w (eqL L M)) := by
  have HP := Lib.hid h; have HQ := Lib.hid h2; have HL := Lib.hid hL; have HM := Lib.hid hM
  obtain ⟨C, hC⟩ : ∃ C, eqL L M = C := ⟨_, rfl⟩
  have HY : Hid (L = M → C = true) := Lib.hid fun e => by rw [← hC, e]; exact eqL_yes M
  have HNo : Hid (L ≠ M → C = false) := Lib.hid fun e => by rw [← hC]; exact eqL_no e
  rw [hC]
  clear h h2 hL hM hC
  go_enter Tryz.func89, Tryz.ntmps89
  go_wp2
  go_loopw [13] (fun i wr => ∃ k : Nat, k ≤ N ∧ i = .int .i64 k ∧ (∀ j, j < k → L[j]? = M[j]?) ∧ Below w.heap.size w wr) (fun i _ => N - (RowKit.intOf i).toNat)
  case atStart => exact ⟨0, Nat.zero_le _, rfl, fun j h => by omega, Below.refl _ _⟩
  case round =>
    obtain ⟨k, hk, rfl, hall, hb⟩ := hrel
    have BB := Lib.hid hb; have HA := Lib.hid hall
    clear hb hall
    by_cases hkl : k < N
    · have hkl' : (k : Int) < N := by omega
      have k1 : k < L.length := by rw [HL.out]; exact hkl
      have k2 : k < M.length := by rw [HM.out]; exact hkl
      obtain ⟨b, o, rfl, hlt, hq⟩ := (HP.out.below BB.out).at k1
      obtain ⟨b2, o2, rfl, hlt2, hq2⟩ := (HQ.out.below BB.out).at k2
      obtain ⟨y, hy⟩ : ∃ y, L[k] = y := ⟨_, rfl⟩
      obtain ⟨z, hz⟩ : ∃ z, M[k] = z := ⟨_, rfl⟩
      rw [hy] at hq
      rw [hz] at hq2
      have Y1 : Hid (L[k]? = some y) := Lib.hid (by rw [← hy]; exact List.getElem?_eq_getElem k1)
      have Z1 : Hid (M[k]? = some z) := Lib.hid (by rw [← hz]; exact List.getElem?_eq_getElem k2)
      clear hy hz k1 k2
      have MM := Lib.hid (And.intro (show wr.drew.rangeAt b (o + k * 6) y.cells from hq) (And.intro (show wr.drew.rangeAt b2 (o2 + k * 6) z.cells from hq2) (to_drew BB.out)))
      clear hq hq2
      cases hyz : eqW y z with
      | true =>
        have HE : Hid ((!eqW y z) = false) := Lib.hid (by rw [hyz]; rfl)
        have e := eqW_iff.1 hyz
        have NA : Hid (∀ j, j < k + 1 → L[j]? = M[j]?) := Lib.hid fun j hj => by
          rcases Nat.lt_or_ge j k with h3 | h3
          · exact HA.out j h3
          · obtain rfl : j = k := by omega
            rw [Y1.out, Z1.out, e]
        clear hyz e
        go_wp2_with fail
        rename_i K2 hK2
        have m0 := MM.out
        refine rg_calm (by kernel_rfl) rfl (S := fun U => U.rangeAt b (o + k * 6) y.cells ∧ U.rangeAt b2 (o2 + k * 6) z.cells ∧ Below w.heap.size w U) ?_
        refine rgd_pure 0 (some 16) rfl rfl (.slice (some ⟨b, o, none⟩) N c) (by kernel_rfl) (by kernel_rfl) (by kernel_rfl) (fun _ _ _ _ h => h) (by kernel_rfl) (fun w => by kernel_rfl) m0 ?_
        refine rgd_pure 1 (some 17) rfl rfl (.int .i64 (k : Int)) (by kernel_rfl) (by kernel_rfl) (by kernel_rfl) (fun _ _ _ _ h => h) (by kernel_rfl) (fun w => by kernel_rfl) m0 ?_
        refine rgd_pure 2 (some 18) rfl rfl (.pointer (some ⟨b, o + k * 6, none⟩)) (by kernel_rfl) (by kernel_rfl) (by kernel_rfl) (fun _ _ _ _ h => h) (by kernel_rfl) (exec_idxW _ _ rfl b o N c k (by kernel_rfl) (by kernel_rfl) hkl) m0 ?_
        refine rgd_pureS 3 (some 19) rfl rfl (.agg y.cells.toArray) (by kernel_rfl) (by kernel_rfl) (by kernel_rfl) (fun _ _ _ _ h => h) (by kernel_rfl) (fun U hU => exec_gload 83 _ rfl b (o + k * 6) (by kernel_rfl) _ hU.1 Tryz.underlying83 rfl (sizeWr y)) m0 ?_
        refine rgd_pure 4 (some 20) rfl rfl (.slice (some ⟨b2, o2, none⟩) N d) (by kernel_rfl) (by kernel_rfl) (by kernel_rfl) (fun _ _ _ _ h => h) (by kernel_rfl) (fun w => by kernel_rfl) m0 ?_
        refine rgd_pure 5 (some 21) rfl rfl (.int .i64 (k : Int)) (by kernel_rfl) (by kernel_rfl) (by kernel_rfl) (fun _ _ _ _ h => h) (by kernel_rfl) (fun w => by kernel_rfl) m0 ?_
        refine rgd_pure 6 (some 22) rfl rfl (.pointer (some ⟨b2, o2 + k * 6, none⟩)) (by kernel_rfl) (by kernel_rfl) (by kernel_rfl) (fun _ _ _ _ h => h) (by kernel_rfl) (exec_idxW _ _ rfl b2 o2 N d k (by kernel_rfl) (by kernel_rfl) hkl) m0 ?_
        refine rgd_pureS 7 (some 23) rfl rfl (.agg z.cells.toArray) (by kernel_rfl) (by kernel_rfl) (by kernel_rfl) (fun _ _ _ _ h => h) (by kernel_rfl) (fun U hU => exec_gload 83 _ rfl b2 (o2 + k * 6) (by kernel_rfl) _ hU.2.1 Tryz.underlying83 rfl (sizeWr z)) m0 ?_
        refine rgd_pure 8 (some 24) rfl rfl (.bool false) (by kernel_rfl) (by kernel_rfl) (by kernel_rfl) (fun _ _ _ _ h => h) (by kernel_rfl) (exec_neqWA _ _ _ rfl y z false HE.out (by kernel_rfl) (by kernel_rfl)) m0 ?_
        have KE : K2 { tmps := #[.slice (some ⟨b, o, none⟩) N c, .slice (some ⟨b2, o2, none⟩) N d, undef, undef, u4, .int .i64 (k : Int), .slice (some ⟨b, o, none⟩) N c, .int .i64 (N : Int), .slice (some ⟨b2, o2, none⟩) N d, .int .i64 (N : Int), .bool false, .slice (some ⟨b, o, none⟩) N c, .int .i64 (N : Int), .int .i64 (k : Int), .bool true, .int .i64 (k : Int), .slice (some ⟨b, o, none⟩) N c, .int .i64 (k : Int), .pointer (some ⟨b, o + k * 6, none⟩), .agg y.cells.toArray, .slice (some ⟨b2, o2, none⟩) N d, .int .i64 (k : Int), .pointer (some ⟨b2, o2 + k * 6, none⟩), .agg z.cells.toArray, .bool false, u25], defers := [] } wr.drew := by
          refine hK2 _ _ ?_
          have B7 := Lib.hid m0.2.2
          clear hK2 m0
          go_wp2
          go_roundw
          case rel => exact ⟨k + 1, by omega, by go_num, NA.out, B7.out⟩
          case measure => simp [RowKit.intOf]; omega
        exact wpAnyH_done (by kernel_rfl) (Eq.mp (by kernel_rfl) KE) _
      | false =>
        have HE : Hid ((!eqW y z) = true) := Lib.hid (by rw [hyz]; rfl)
        have hf : C = false := HNo.out fun e => by
          have h1 := Y1.out
          rw [e, Z1.out] at h1
          have h2 := Option.some.inj h1
          rw [h2, eqW_yes] at hyz
          cases hyz
        subst hf
        clear hyz
        go_wp2_with fail
        rename_i K2 hK2
        have m0 := MM.out
        refine rg_calm (by kernel_rfl) rfl (S := fun U => U.rangeAt b (o + k * 6) y.cells ∧ U.rangeAt b2 (o2 + k * 6) z.cells ∧ Below w.heap.size w U) ?_
        refine rgd_pure 0 (some 16) rfl rfl (.slice (some ⟨b, o, none⟩) N c) (by kernel_rfl) (by kernel_rfl) (by kernel_rfl) (fun _ _ _ _ h => h) (by kernel_rfl) (fun w => by kernel_rfl) m0 ?_
        refine rgd_pure 1 (some 17) rfl rfl (.int .i64 (k : Int)) (by kernel_rfl) (by kernel_rfl) (by kernel_rfl) (fun _ _ _ _ h => h) (by kernel_rfl) (fun w => by kernel_rfl) m0 ?_
        refine rgd_pure 2 (some 18) rfl rfl (.pointer (some ⟨b, o + k * 6, none⟩)) (by kernel_rfl) (by kernel_rfl) (by kernel_rfl) (fun _ _ _ _ h => h) (by kernel_rfl) (exec_idxW _ _ rfl b o N c k (by kernel_rfl) (by kernel_rfl) hkl) m0 ?_
        refine rgd_pureS 3 (some 19) rfl rfl (.agg y.cells.toArray) (by kernel_rfl) (by kernel_rfl) (by kernel_rfl) (fun _ _ _ _ h => h) (by kernel_rfl) (fun U hU => exec_gload 83 _ rfl b (o + k * 6) (by kernel_rfl) _ hU.1 Tryz.underlying83 rfl (sizeWr y)) m0 ?_
        refine rgd_pure 4 (some 20) rfl rfl (.slice (some ⟨b2, o2, none⟩) N d) (by kernel_rfl) (by kernel_rfl) (by kernel_rfl) (fun _ _ _ _ h => h) (by kernel_rfl) (fun w => by kernel_rfl) m0 ?_
        refine rgd_pure 5 (some 21) rfl rfl (.int .i64 (k : Int)) (by kernel_rfl) (by kernel_rfl) (by kernel_rfl) (fun _ _ _ _ h => h) (by kernel_rfl) (fun w => by kernel_rfl) m0 ?_
        refine rgd_pure 6 (some 22) rfl rfl (.pointer (some ⟨b2, o2 + k * 6, none⟩)) (by kernel_rfl) (by kernel_rfl) (by kernel_rfl) (fun _ _ _ _ h => h) (by kernel_rfl) (exec_idxW _ _ rfl b2 o2 N d k (by kernel_rfl) (by kernel_rfl) hkl) m0 ?_
        refine rgd_pureS 7 (some 23) rfl rfl (.agg z.cells.toArray) (by kernel_rfl) (by kernel_rfl) (by kernel_rfl) (fun _ _ _ _ h => h) (by kernel_rfl) (fun U hU => exec_gload 83 _ rfl b2 (o2 + k * 6) (by kernel_rfl) _ hU.2.1 Tryz.underlying83 rfl (sizeWr z)) m0 ?_
        refine rgd_pure 8 (some 24) rfl rfl (.bool true) (by kernel_rfl) (by kernel_rfl) (by kernel_rfl) (fun _ _ _ _ h => h) (by kernel_rfl) (exec_neqWA _ _ _ rfl y z true HE.out (by kernel_rfl) (by kernel_rfl)) m0 ?_
        have KE : K2 { tmps := #[.slice (some ⟨b, o, none⟩) N c, .slice (some ⟨b2, o2, none⟩) N d, undef, undef, u4, .int .i64 (k : Int), .slice (some ⟨b, o, none⟩) N c, .int .i64 (N : Int), .slice (some ⟨b2, o2, none⟩) N d, .int .i64 (N : Int), .bool false, .slice (some ⟨b, o, none⟩) N c, .int .i64 (N : Int), .int .i64 (k : Int), .bool true, .int .i64 (k : Int), .slice (some ⟨b, o, none⟩) N c, .int .i64 (k : Int), .pointer (some ⟨b, o + k * 6, none⟩), .agg y.cells.toArray, .slice (some ⟨b2, o2, none⟩) N d, .int .i64 (k : Int), .pointer (some ⟨b2, o2 + k * 6, none⟩), .agg z.cells.toArray, .bool true, u25], defers := [] } wr.drew := by
          refine hK2 _ _ ?_
          have B7 := Lib.hid m0.2.2
          clear hK2 m0
          go_wp2
          go_ret
          exact ⟨rfl, B7.out⟩
        exact wpAnyH_done (by kernel_rfl) (Eq.mp (by kernel_rfl) KE) _
    · obtain rfl : k = N := by omega
      have hkl' : ¬ ((k : Nat) : Int) < k := by omega
      have ht : C = true := HY.out (List.ext_getElem? fun j => by
        rcases Nat.lt_or_ge j k with h3 | h3
        · exact HA.out j h3
        · rw [List.getElem?_eq_none (by rw [HL.out]; exact h3), List.getElem?_eq_none (by rw [HM.out]; exact h3)])
      subst ht
      go_wp2
      go_ret
      exact ⟨rfl, BB.out⟩
theorem equalWrA_is (p q : Option Addr) (c d : Nat) (L M : List Wr) (w : World) (h : WrsAt w p L) (h2 : WrsAt w q M) (hn : L.length ≤ 1000000) :
    Calls Tryz.prog 89 #[.slice p L.length c, .slice q M.length d] w (RetBool w (eqL L M)) := by
  by_cases e : M.length = L.length
  · rw [e]; exact equalWrN_is p q c d L.length L M w rfl e h h2 hn
  · have hf : eqL L M = false := eqL_no fun h => e (by rw [h])
    rw [hf]
    have hne : ((L.length : Int) != (M.length : Int)) = true := by simp; omega
    clear h h2
    go_enter Tryz.func89, Tryz.ntmps89
    go_wp2
    go_ret
    exact ⟨rfl, Below.refl _ _⟩
/-- are two states the same? -/
noncomputable def sameB (F G : Nat → Int) (L M : List Wr) : Bool := veq F G && eqL L M
set_option maxHeartbeats 8000000 in
theorem docSameA_is (F G : Nat → Int) (p q : Option Addr) (c d : Nat) (L M : List Wr) (w : World) (h : WrsAt w p L) (h2 : WrsAt w q M) (hn : L.length ≤ 1000000) :
    Calls Tryz.prog 61 #[.agg (scs F (.slice p L.length c)), .agg (scs G (.slice q M.length d))] w (RetBool w (sameB F G L M)) := by
  have HP := Lib.hid h; have HQ := Lib.hid h2
  clear h h2
  obtain ⟨V, hV⟩ : ∃ V, veq F G = V := ⟨_, rfl⟩
  have HR : Hid (sameB F G L M = (V && eqL L M)) := Lib.hid (by unfold sameB; rw [hV])
  have EQ : Hid (∀ U : World, (binOp .eql 25 (.agg (vf F)) (.agg (vf G))).run Tryz.prog U = .ok (.bool V) U) := Lib.hid fun U => by rw [vecI.eql F G U, hV]
  clear hV
  go_enter Tryz.func61, Tryz.ntmps61
  go_wp2_with (refine wpList_gbox rfl _ rfl (scs F (.slice p L.length c)) rfl ?_)
  intro g2 w1 l2 h2 hb1
  have S1 : Hid (Sx w1 g2 F (.slice p L.length c)) := Lib.hid h2
  have B1 := Lib.hid hb1
  clear h2 hb1
  go_wp2_with (refine wpList_gbox rfl _ rfl (scs G (.slice q M.length d)) rfl ?_)
  intro g3 w2 l3 h3 hb2
  have S2 := Lib.hid (S1.out.later hb2); have T2 : Hid (Sx w2 g3 G (.slice q M.length d)) := Lib.hid h3
  have B2 := Lib.hid (thenBelow B1.out hb2)
  clear h3 hb2 S1
  have k2 := S2.out.slot; have k3 := T2.out.slot
  have V2 := Lib.hid (S2.out.vec); have V3 := Lib.hid (T2.out.vec)
  have EW := Lib.hid (equalWrA_is p q c d L M w2 (HP.out.below B2.out) (HQ.out.below B2.out) hn)
  obtain ⟨N, hN⟩ : ∃ N, eqL L M = N := ⟨_, rfl⟩
  rw [hN] at HR EW
  clear hN
  have EQ' := EQ.out
  cases V with
  | false =>
    go_wp2_with (first | refine wpList_gload rfl _ rfl g2 0 rfl _ V2.out _ Tryz.underlying25 rfl (sizeVcl F) ?_ | refine wpList_gload rfl _ rfl g3 0 rfl _ V3.out _ Tryz.underlying25 rfl (sizeVcl G) ?_)
    go_ret
    exact ⟨by rw [HR.out]; rfl, B2.out⟩
  | true =>
    go_wp2_with (first | refine wpList_gload rfl _ rfl g2 0 rfl _ V2.out _ Tryz.underlying25 rfl (sizeVcl F) ?_ | refine wpList_gload rfl _ rfl g3 0 rfl _ V3.out _ Tryz.underlying25 rfl (sizeVcl G) ?_)
    refine EW.out.mono ?_
    rintro e w3 ⟨rfl, hb3⟩
    have B3 := Lib.hid (thenBelow B2.out hb3)
    clear hb3 k2 k3 EQ'
    go_wp2
    go_ret
    exact ⟨by rw [HR.out]; cases N <;> rfl, B3.out⟩
end Go.Proofs.YtapmbankpbiglaaGreatDoor
/- The document's Same (of states) of any two. -/
namespace Go.Proofs.YtapmbankpbiglaaGreatDoor
open Go Go.RowKit
set_option linter.unusedVariables false
set_option maxRecDepth 1000000

set_option maxHeartbeats 8000000 in
theorem sameSN_is (F G : Nat → Int) (hFG : veq F G = true) (p q : Option Addr) (c d N : Nat) (L M : List Wr) (w : World) (hL : L.length = N) (hM : M.length = N) (h : WrsAt w p L) (h2 : WrsAt w q M) (hn : N ≤ 1000000) :
    Calls Tryz.prog 24 #[.agg (scs F (.slice p N c)), .agg (scs G (.slice q N d))] w (RetBool w (eqL L M)) := by
  have HP := Lib.hid h; have HQ := Lib.hid h2; have HL := Lib.hid hL; have HM := Lib.hid hM
  obtain ⟨C, hC⟩ : ∃ C, eqL L M = C := ⟨_, rfl⟩
  have HY : Hid (L = M → C = true) := Lib.hid fun e => by rw [← hC, e]; exact eqL_yes M
  have HNo : Hid (L ≠ M → C = false) := Lib.hid fun e => by rw [← hC]; exact eqL_no e
  rw [hC]
  clear h h2 hL hM hC
  go_enter Tryz.func24, Tryz.ntmps24
  go_wp2_with (refine wpList_gbox rfl _ rfl (scs F (.slice p N c)) rfl ?_)
  intro g2 w1 l2 h2 hb1
  have S1 : Hid (Sx w1 g2 F (.slice p N c)) := Lib.hid h2
  have B1 := Lib.hid hb1
  clear h2 hb1
  go_wp2_with (refine wpList_gbox rfl _ rfl (scs G (.slice q N d)) rfl ?_)
  intro g3 w2 l3 h3 hb2
  have S2 := Lib.hid (S1.out.later hb2); have T2 : Hid (Sx w2 g3 G (.slice q N d)) := Lib.hid h3
  have B2 := Lib.hid (thenBelow B1.out hb2)
  clear h3 hb2 S1
  have k2 := S2.out.slot; have k3 := T2.out.slot
  have V2 := Lib.hid (S2.out.vec); have V3 := Lib.hid (T2.out.vec)
  have NQ : ∀ V : World, (binOp .neq 25 (.agg (vf F)) (.agg (vf G))).run Tryz.prog V = .ok (.bool false) V := fun V => by rw [vecI.neq F G V, hFG]; rfl
  go_wp2_with (first | refine wpList_gload rfl _ rfl g2 0 rfl _ V2.out _ Tryz.underlying25 rfl (sizeVcl F) ?_ | refine wpList_gload rfl _ rfl g3 0 rfl _ V3.out _ Tryz.underlying25 rfl (sizeVcl G) ?_)
  clear k2 V2 V3 NQ
  go_loopw [24] (fun i wr => ∃ k : Nat, k ≤ N ∧ i = .int .i64 k ∧ (∀ j, j < k → L[j]? = M[j]?) ∧ Below w2.heap.size w2 wr) (fun i _ => N - (RowKit.intOf i).toNat)
  case atStart => exact ⟨0, Nat.zero_le _, rfl, fun j h => by omega, Below.refl _ _⟩
  case round =>
    obtain ⟨k, hk, rfl, hall, hb⟩ := hrel
    have BB := Lib.hid hb; have HA := Lib.hid hall
    clear hb hall
    by_cases hkl : k < N
    · have hkl' : (k : Int) < N := by omega
      have BW := Lib.hid (thenBelow B2.out BB.out)
      obtain ⟨b, o, rfl, hlt, hq⟩ := (HP.out.below BW.out).at (by rw [HL.out]; exact hkl)
      obtain ⟨b2, o2, rfl, hlt2, hq2⟩ := (HQ.out.below BW.out).at (by rw [HM.out]; exact hkl)
      have k1 : k < L.length := by rw [HL.out]; exact hkl
      have k2 : k < M.length := by rw [HM.out]; exact hkl
      obtain ⟨y, hy⟩ : ∃ y, L[k]'k1 = y := ⟨_, rfl⟩
      obtain ⟨z, hz⟩ : ∃ z, M[k]'k2 = z := ⟨_, rfl⟩
      rw [hy] at hq
      rw [hz] at hq2
      have Y1 : Hid (L[k]? = some y) := Lib.hid (by rw [← hy]; exact List.getElem?_eq_getElem k1)
      have Z1 : Hid (M[k]? = some z) := Lib.hid (by rw [← hz]; exact List.getElem?_eq_getElem k2)
      clear hy hz k1 k2
      obtain ⟨c0, c1, c2, c3, c4, c5⟩ := wr_cells hq
      clear hq
      have ba := fun cs => below_alloc wr (.cells cs 83)
      have T3 := Lib.hid (fun cs => (T2.out.later (thenBelow BB.out (ba cs)) : Sx (wr.alloc (.cells cs 83)) g3 G (.slice (some ⟨b2, o2, none⟩) N d)))
      have Y3 := Lib.hid (fun cs => range_below hq2 (ba cs))
      have N3 := Lib.hid (fun cs => heap_alloc_new wr (.cells cs 83))
      have B6 := Lib.hid (fun cs => thenBelow BB.out (ba cs))
      clear ba hq2
      cases hyz : eqW z y with
      | true =>
        have HE : Hid ((!eqW z y) = false) := Lib.hid (by rw [hyz]; rfl)
        have e := eqW_iff.1 hyz
        have NA : Hid (∀ j, j < k + 1 → L[j]? = M[j]?) := Lib.hid fun j hj => by
          rcases Nat.lt_or_ge j k with h3 | h3
          · exact HA.out j h3
          · obtain rfl : j = k := by omega
            rw [Y1.out, Z1.out, e]
        clear hyz e Y1
        obtain ⟨yr, yn, yt, yd, yf, ytx⟩ := y
        simp only at c0 c1 c2 c3 c4 c5
        go_wp2_with fail
        rename_i K2 hK2
        have T4 := Lib.hid (T3.out #[.int .i64 yr, .int .i64 yn, .int .i64 yt, .string yd, .int .i64 yf, .string ytx]); have Y4 := Lib.hid (Y3.out #[.int .i64 yr, .int .i64 yn, .int .i64 yt, .string yd, .int .i64 yf, .string ytx]); have B7 := Lib.hid (to_drew (B6.out #[.int .i64 yr, .int .i64 yn, .int .i64 yt, .string yd, .int .i64 yf, .string ytx]))
        have N4 := Lib.hid (show (wr.alloc (.cells #[.int .i64 yr, .int .i64 yn, .int .i64 yt, .string yd, .int .i64 yf, .string ytx] 83)).rangeAt wr.heap.size 0 (Wr.cells ⟨yr, yn, yt, yd, yf, ytx⟩) from range_of_block (N3.out #[.int .i64 yr, .int .i64 yn, .int .i64 yt, .string yd, .int .i64 yf, .string ytx]))
        clear T3 Y3 N3 B6 c0 c1 c2 c3 c4 c5
        generalize hW : wr.alloc (.cells #[.int .i64 yr, .int .i64 yn, .int .i64 yt, .string yd, .int .i64 yf, .string ytx] 83) = W6 at T4 Y4 N4 B7 ⊢
        generalize hG : wr.heap.size = G6 at N4 ⊢
        clear hW hG
        refine rg_calm (by kernel_rfl) rfl (S := fun U => Sx U g3 G (.slice (some ⟨b2, o2, none⟩) N d) ∧ U.rangeAt b2 (o2 + k * 6) z.cells ∧ U.rangeAt G6 0 (Wr.cells ⟨yr, yn, yt, yd, yf, ytx⟩) ∧ Below w2.heap.size w2 U) ?_
        have m0 : Sx W6.drew g3 G (.slice (some ⟨b2, o2, none⟩) N d) ∧ W6.drew.rangeAt b2 (o2 + k * 6) z.cells ∧ W6.drew.rangeAt G6 0 (Wr.cells ⟨yr, yn, yt, yd, yf, ytx⟩) ∧ Below w2.heap.size w2 W6.drew := ⟨T4.out, Y4.out, N4.out, B7.out⟩
        refine rgd_pure 0 (some 29) rfl rfl (.pointer (some ⟨g3, 64, none⟩)) (by kernel_rfl) (by kernel_rfl) (by kernel_rfl) (fun _ _ _ _ h => h) (by kernel_rfl) (fun w => by kernel_rfl) m0 ?_
        refine rgd_pureS 1 (some 30) rfl rfl (.slice (some ⟨b2, o2, none⟩) N d) (by kernel_rfl) (by kernel_rfl) (by kernel_rfl) (fun _ _ _ _ h => h) (by kernel_rfl) (fun U hU => exec_load1 _ _ rfl Tryz.underlying27 rfl ⟨g3, 64, none⟩ _ (by kernel_rfl) hU.1.slot) m0 ?_
        refine rgd_pure 2 (some 31) rfl rfl (.int .i64 (k : Int)) (by kernel_rfl) (by kernel_rfl) (by kernel_rfl) (fun _ _ _ _ h => h) (by kernel_rfl) (fun w => by kernel_rfl) m0 ?_
        refine rgd_pure 3 (some 32) rfl rfl (.pointer (some ⟨b2, o2 + k * 6, none⟩)) (by kernel_rfl) (by kernel_rfl) (by kernel_rfl) (fun _ _ _ _ h => h) (by kernel_rfl) (exec_idxW _ _ rfl b2 o2 N d k (by kernel_rfl) (by kernel_rfl) hkl) m0 ?_
        refine rgd_pureS 4 (some 33) rfl rfl (.agg z.cells.toArray) (by kernel_rfl) (by kernel_rfl) (by kernel_rfl) (fun _ _ _ _ h => h) (by kernel_rfl) (fun U hU => exec_gload 83 _ rfl b2 (o2 + k * 6) (by kernel_rfl) _ hU.2.1 Tryz.underlying83 rfl (sizeWr z)) m0 ?_
        refine rgd_pureS 5 (some 34) rfl rfl (.agg #[.int .i64 yr, .int .i64 yn, .int .i64 yt, .string yd, .int .i64 yf, .string ytx]) (by kernel_rfl) (by kernel_rfl) (by kernel_rfl) (fun _ _ _ _ h => h) (by kernel_rfl) (fun U hU => exec_gload 83 _ rfl G6 0 (by kernel_rfl) _ hU.2.2.1 Tryz.underlying83 rfl (sizeWr ⟨yr, yn, yt, yd, yf, ytx⟩)) m0 ?_
        refine rgd_pure 6 (some 35) rfl rfl (.bool false) (by kernel_rfl) (by kernel_rfl) (by kernel_rfl) (fun _ _ _ _ h => h) (by kernel_rfl) (exec_neqWA _ _ _ rfl z ⟨yr, yn, yt, yd, yf, ytx⟩ false HE.out (by kernel_rfl) (by kernel_rfl)) m0 ?_
        have KE : K2 { tmps := #[.agg (scs F (.slice (some ⟨b, o, none⟩) N c)), .agg (scs G (.slice (some ⟨b2, o2, none⟩) N d)), .pointer (some ⟨g2, 0, none⟩), .pointer (some ⟨g3, 0, none⟩), u4, .int .i64 (k : Int), .pointer (some ⟨G6, 0, none⟩), .pointer (some ⟨g2, 0, none⟩), .agg (vf F), .pointer (some ⟨g3, 0, none⟩), .agg (vf G), .bool false, .bool false, .pointer (some ⟨g2, 64, none⟩), .slice (some ⟨b, o, none⟩) N c, .int .i64 (N : Int), .pointer (some ⟨g3, 64, none⟩), .slice (some ⟨b2, o2, none⟩) N d, .int .i64 (N : Int), .bool false, .bool false, .pointer (some ⟨g2, 64, none⟩), .slice (some ⟨b, o, none⟩) N c, .int .i64 (N : Int), .int .i64 (k : Int), .bool true, .int .i64 (k : Int), .pointer (some ⟨b, o + k * 6, none⟩), .agg #[.int .i64 yr, .int .i64 yn, .int .i64 yt, .string yd, .int .i64 yf, .string ytx], .pointer (some ⟨g3, 64, none⟩), .slice (some ⟨b2, o2, none⟩) N d, .int .i64 (k : Int), .pointer (some ⟨b2, o2 + k * 6, none⟩), .agg z.cells.toArray, .agg #[.int .i64 yr, .int .i64 yn, .int .i64 yt, .string yd, .int .i64 yf, .string ytx], .bool false, u36], defers := [] } W6.drew := by
          refine hK2 _ _ ?_
          clear hK2 m0
          go_wp2
          go_roundw
          case rel => exact ⟨k + 1, by omega, by go_num, NA.out, B7.out⟩
          case measure => simp [RowKit.intOf]; omega
        exact wpAnyH_done (by kernel_rfl) (Eq.mp (by kernel_rfl) KE) _
      | false =>
        have HE : Hid ((!eqW z y) = true) := Lib.hid (by rw [hyz]; rfl)
        have hf : C = false := HNo.out fun e => by
          have h1 := Y1.out
          rw [e, Z1.out] at h1
          have h2 := Option.some.inj h1
          rw [h2, eqW_yes] at hyz
          cases hyz
        subst hf
        clear hyz Y1
        obtain ⟨yr, yn, yt, yd, yf, ytx⟩ := y
        simp only at c0 c1 c2 c3 c4 c5
        go_wp2_with fail
        rename_i K2 hK2
        have T4 := Lib.hid (T3.out #[.int .i64 yr, .int .i64 yn, .int .i64 yt, .string yd, .int .i64 yf, .string ytx]); have Y4 := Lib.hid (Y3.out #[.int .i64 yr, .int .i64 yn, .int .i64 yt, .string yd, .int .i64 yf, .string ytx]); have B7 := Lib.hid (to_drew (B6.out #[.int .i64 yr, .int .i64 yn, .int .i64 yt, .string yd, .int .i64 yf, .string ytx]))
        have N4 := Lib.hid (show (wr.alloc (.cells #[.int .i64 yr, .int .i64 yn, .int .i64 yt, .string yd, .int .i64 yf, .string ytx] 83)).rangeAt wr.heap.size 0 (Wr.cells ⟨yr, yn, yt, yd, yf, ytx⟩) from range_of_block (N3.out #[.int .i64 yr, .int .i64 yn, .int .i64 yt, .string yd, .int .i64 yf, .string ytx]))
        clear T3 Y3 N3 B6 c0 c1 c2 c3 c4 c5
        generalize hW : wr.alloc (.cells #[.int .i64 yr, .int .i64 yn, .int .i64 yt, .string yd, .int .i64 yf, .string ytx] 83) = W6 at T4 Y4 N4 B7 ⊢
        generalize hG : wr.heap.size = G6 at N4 ⊢
        clear hW hG
        refine rg_calm (by kernel_rfl) rfl (S := fun U => Sx U g3 G (.slice (some ⟨b2, o2, none⟩) N d) ∧ U.rangeAt b2 (o2 + k * 6) z.cells ∧ U.rangeAt G6 0 (Wr.cells ⟨yr, yn, yt, yd, yf, ytx⟩) ∧ Below w2.heap.size w2 U) ?_
        have m0 : Sx W6.drew g3 G (.slice (some ⟨b2, o2, none⟩) N d) ∧ W6.drew.rangeAt b2 (o2 + k * 6) z.cells ∧ W6.drew.rangeAt G6 0 (Wr.cells ⟨yr, yn, yt, yd, yf, ytx⟩) ∧ Below w2.heap.size w2 W6.drew := ⟨T4.out, Y4.out, N4.out, B7.out⟩
        refine rgd_pure 0 (some 29) rfl rfl (.pointer (some ⟨g3, 64, none⟩)) (by kernel_rfl) (by kernel_rfl) (by kernel_rfl) (fun _ _ _ _ h => h) (by kernel_rfl) (fun w => by kernel_rfl) m0 ?_
        refine rgd_pureS 1 (some 30) rfl rfl (.slice (some ⟨b2, o2, none⟩) N d) (by kernel_rfl) (by kernel_rfl) (by kernel_rfl) (fun _ _ _ _ h => h) (by kernel_rfl) (fun U hU => exec_load1 _ _ rfl Tryz.underlying27 rfl ⟨g3, 64, none⟩ _ (by kernel_rfl) hU.1.slot) m0 ?_
        refine rgd_pure 2 (some 31) rfl rfl (.int .i64 (k : Int)) (by kernel_rfl) (by kernel_rfl) (by kernel_rfl) (fun _ _ _ _ h => h) (by kernel_rfl) (fun w => by kernel_rfl) m0 ?_
        refine rgd_pure 3 (some 32) rfl rfl (.pointer (some ⟨b2, o2 + k * 6, none⟩)) (by kernel_rfl) (by kernel_rfl) (by kernel_rfl) (fun _ _ _ _ h => h) (by kernel_rfl) (exec_idxW _ _ rfl b2 o2 N d k (by kernel_rfl) (by kernel_rfl) hkl) m0 ?_
        refine rgd_pureS 4 (some 33) rfl rfl (.agg z.cells.toArray) (by kernel_rfl) (by kernel_rfl) (by kernel_rfl) (fun _ _ _ _ h => h) (by kernel_rfl) (fun U hU => exec_gload 83 _ rfl b2 (o2 + k * 6) (by kernel_rfl) _ hU.2.1 Tryz.underlying83 rfl (sizeWr z)) m0 ?_
        refine rgd_pureS 5 (some 34) rfl rfl (.agg #[.int .i64 yr, .int .i64 yn, .int .i64 yt, .string yd, .int .i64 yf, .string ytx]) (by kernel_rfl) (by kernel_rfl) (by kernel_rfl) (fun _ _ _ _ h => h) (by kernel_rfl) (fun U hU => exec_gload 83 _ rfl G6 0 (by kernel_rfl) _ hU.2.2.1 Tryz.underlying83 rfl (sizeWr ⟨yr, yn, yt, yd, yf, ytx⟩)) m0 ?_
        refine rgd_pure 6 (some 35) rfl rfl (.bool true) (by kernel_rfl) (by kernel_rfl) (by kernel_rfl) (fun _ _ _ _ h => h) (by kernel_rfl) (exec_neqWA _ _ _ rfl z ⟨yr, yn, yt, yd, yf, ytx⟩ true HE.out (by kernel_rfl) (by kernel_rfl)) m0 ?_
        have KE : K2 { tmps := #[.agg (scs F (.slice (some ⟨b, o, none⟩) N c)), .agg (scs G (.slice (some ⟨b2, o2, none⟩) N d)), .pointer (some ⟨g2, 0, none⟩), .pointer (some ⟨g3, 0, none⟩), u4, .int .i64 (k : Int), .pointer (some ⟨G6, 0, none⟩), .pointer (some ⟨g2, 0, none⟩), .agg (vf F), .pointer (some ⟨g3, 0, none⟩), .agg (vf G), .bool false, .bool false, .pointer (some ⟨g2, 64, none⟩), .slice (some ⟨b, o, none⟩) N c, .int .i64 (N : Int), .pointer (some ⟨g3, 64, none⟩), .slice (some ⟨b2, o2, none⟩) N d, .int .i64 (N : Int), .bool false, .bool false, .pointer (some ⟨g2, 64, none⟩), .slice (some ⟨b, o, none⟩) N c, .int .i64 (N : Int), .int .i64 (k : Int), .bool true, .int .i64 (k : Int), .pointer (some ⟨b, o + k * 6, none⟩), .agg #[.int .i64 yr, .int .i64 yn, .int .i64 yt, .string yd, .int .i64 yf, .string ytx], .pointer (some ⟨g3, 64, none⟩), .slice (some ⟨b2, o2, none⟩) N d, .int .i64 (k : Int), .pointer (some ⟨b2, o2 + k * 6, none⟩), .agg z.cells.toArray, .agg #[.int .i64 yr, .int .i64 yn, .int .i64 yt, .string yd, .int .i64 yf, .string ytx], .bool true, u36], defers := [] } W6.drew := by
          refine hK2 _ _ ?_
          have BU := Lib.hid m0.2.2.2
          clear hK2 m0
          go_wp2
          go_ret
          exact ⟨rfl, thenBelow B2.out BU.out⟩
        exact wpAnyH_done (by kernel_rfl) (Eq.mp (by kernel_rfl) KE) _
    · obtain rfl : k = N := by omega
      have hkl' : ¬ ((k : Nat) : Int) < k := by omega
      have ht : C = true := HY.out (List.ext_getElem? fun j => by
        rcases Nat.lt_or_ge j k with h3 | h3
        · exact HA.out j h3
        · rw [List.getElem?_eq_none (by rw [HL.out]; exact h3), List.getElem?_eq_none (by rw [HM.out]; exact h3)])
      subst ht
      go_wp2
      go_ret
      exact ⟨rfl, thenBelow B2.out BB.out⟩
set_option maxHeartbeats 8000000 in
theorem sameSA_is (F G : Nat → Int) (p q : Option Addr) (c d : Nat) (L M : List Wr) (w : World) (h : WrsAt w p L) (h2 : WrsAt w q M) (hn : L.length ≤ 1000000) :
    Calls Tryz.prog 24 #[.agg (scs F (.slice p L.length c)), .agg (scs G (.slice q M.length d))] w (RetBool w (sameB F G L M)) := by
  cases hv : veq F G with
  | true =>
    by_cases e : M.length = L.length
    · have hs : sameB F G L M = eqL L M := by unfold sameB; rw [hv]; rfl
      rw [hs, e]
      exact sameSN_is F G hv p q c d L.length L M w rfl e h h2 hn
    · have hs : Hid (sameB F G L M = false) := Lib.hid (by unfold sameB; rw [hv, eqL_no fun h => e (by rw [h])]; rfl)
      have hne : ((L.length : Int) != (M.length : Int)) = true := by simp; omega
      clear h h2 e
      go_enter Tryz.func24, Tryz.ntmps24
      go_wp2_with (refine wpList_gbox rfl _ rfl (scs F (.slice p L.length c)) rfl ?_)
      intro g2 w1 l2 h2 hb1
      have S1 : Hid (Sx w1 g2 F (.slice p L.length c)) := Lib.hid h2
      have B1 := Lib.hid hb1
      clear h2 hb1
      go_wp2_with (refine wpList_gbox rfl _ rfl (scs G (.slice q M.length d)) rfl ?_)
      intro g3 w2 l3 h3 hb2
      have S2 := Lib.hid (S1.out.later hb2); have T2 : Hid (Sx w2 g3 G (.slice q M.length d)) := Lib.hid h3
      have B2 := Lib.hid (thenBelow B1.out hb2)
      clear h3 hb2 S1
      have k2 := S2.out.slot; have k3 := T2.out.slot
      have V2 := Lib.hid (S2.out.vec); have V3 := Lib.hid (T2.out.vec)
      have NQ : ∀ V : World, (binOp .neq 25 (.agg (vf F)) (.agg (vf G))).run Tryz.prog V = .ok (.bool false) V := fun V => by rw [vecI.neq F G V, hv]; rfl
      go_wp2_with (first | refine wpList_gload rfl _ rfl g2 0 rfl _ V2.out _ Tryz.underlying25 rfl (sizeVcl F) ?_ | refine wpList_gload rfl _ rfl g3 0 rfl _ V3.out _ Tryz.underlying25 rfl (sizeVcl G) ?_)
      go_ret
      exact ⟨by rw [hs.out]; rfl, B2.out⟩
  | false =>
    have hs : Hid (sameB F G L M = false) := Lib.hid (by unfold sameB; rw [hv]; rfl)
    clear h h2
    go_enter Tryz.func24, Tryz.ntmps24
    go_wp2_with (refine wpList_gbox rfl _ rfl (scs F (.slice p L.length c)) rfl ?_)
    intro g2 w1 l2 h2 hb1
    have S1 : Hid (Sx w1 g2 F (.slice p L.length c)) := Lib.hid h2
    have B1 := Lib.hid hb1
    clear h2 hb1
    go_wp2_with (refine wpList_gbox rfl _ rfl (scs G (.slice q M.length d)) rfl ?_)
    intro g3 w2 l3 h3 hb2
    have S2 := Lib.hid (S1.out.later hb2); have T2 : Hid (Sx w2 g3 G (.slice q M.length d)) := Lib.hid h3
    have B2 := Lib.hid (thenBelow B1.out hb2)
    clear h3 hb2 S1
    have k2 := S2.out.slot; have k3 := T2.out.slot
    have V2 := Lib.hid (S2.out.vec); have V3 := Lib.hid (T2.out.vec)
    have NQ : ∀ V : World, (binOp .neq 25 (.agg (vf F)) (.agg (vf G))).run Tryz.prog V = .ok (.bool true) V := fun V => by rw [vecI.neq F G V, hv]; rfl
    go_wp2_with (first | refine wpList_gload rfl _ rfl g2 0 rfl _ V2.out _ Tryz.underlying25 rfl (sizeVcl F) ?_ | refine wpList_gload rfl _ rfl g3 0 rfl _ V3.out _ Tryz.underlying25 rfl (sizeVcl G) ?_)
    go_ret
    exact ⟨by rw [hs.out]; rfl, B2.out⟩
end Go.Proofs.YtapmbankpbiglaaGreatDoor
