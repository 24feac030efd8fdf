/- The statement DocsBytes, proved for every input that its row reads: part 31 of 54. -/
import Derived.Test.YtjmglgcifekhgaaGreatDoorPackDocsBytes30
import Derived.Test.YtjmglgcifekhgaaGreatDoorPackDocsBytes18
import Derived.Test.YtjmglgcifekhgaaGreatDoorPackDocsBytes27
/- A write's bytes. -/
namespace Go.Proofs.YtjmglgcifekhgaaGreatDoor
open Go Go.RowKit
set_option linter.unusedVariables false
set_option maxRecDepth 1000000

/-- a write's bytes -/
def wtB (y : Wr) : List UInt8 := dotB (y.rep, y.n) ++ (Cod.enc y.time.toNat ++ (Cod.enc y.doc.size ++ (y.doc.data.toList ++ (Cod.enc y.field.toNat ++ (Cod.enc y.text.size ++ y.text.data.toList)))))
/-- a write within bounds -/
structure Small1 (y : Wr) : Prop where
  rep : -1000000000000000000 ≤ y.rep ∧ y.rep ≤ 1000000000000000000
  n : -1000000000000000000 ≤ y.n ∧ y.n ≤ 1000000000000000000
  time : -1000000000000000000 ≤ y.time ∧ y.time ≤ 1000000000000000000
  field : -1000000000000000000 ≤ y.field ∧ y.field ≤ 1000000000000000000
  doc : y.doc.size ≤ 1000
  text : y.text.size ≤ 1000
theorem wtB_len {y : Wr} (h : Small1 y) : (wtB y).length ≤ 2100 := by
  have h1 := h.doc; have h2 := h.text
  have e0 := dotB_len (y.rep, y.n); have e1 := enc_len y.time.toNat; have e2 := enc_len y.doc.size; have e3 := enc_len y.field.toNat; have e4 := enc_len y.text.size
  unfold wtB
  simp only [List.length_append, Array.length_toList, ByteArray.size_data]
  omega
theorem small_of {y : Wr} (h : chk (putE y) = 0) : Small1 y := by
  have F := fine_of h
  have fd := (vld_iff _ _).1 F.dot
  have f1 := F.time; have f2 := F.field; have f3 := F.doc; have f4 := F.text
  simp only [putE] at fd f1 f2 f3 f4
  exact ⟨by omega, by omega, by omega, by omega, by omega, by omega⟩
set_option maxHeartbeats 8000000 in
theorem docWritten_is (y : Wr) (w : World) (hy : Small1 y) :
    Calls Tryz.prog 22 #[.agg y.cells.toArray] w (RetOwn w 5 (wtB y)) := by
  obtain ⟨L, hL⟩ : ∃ L, wtB y = L := ⟨_, rfl⟩
  rw [hL]
  have HL := Lib.hid hL
  clear hL
  go_enter Tryz.func22, Tryz.ntmps22
  go_wp2_with (refine wpList_gbox rfl _ rfl y.cells.toArray rfl ?_)
  intro g1 w1 l1 h1 hb1
  have B1 := Lib.hid hb1
  have R1 : Hid (w1.rangeAt g1 0 y.cells) := Lib.hid (by simpa using range_of_block h1)
  clear h1 hb1
  obtain ⟨c0, c1, c2, c3, c4, c5⟩ := wr_cells R1.out
  simp only [Nat.zero_add] at c0 c1 c2 c3 c4 c5
  obtain ⟨h_r, h_n, h_t, h_f, h_d, h_x⟩ := hy
  obtain ⟨yr, yn, yt, yd, yf, ytx⟩ := y
  simp only at c0 c1 c2 c3 c4 c5 h_r h_n h_t h_f h_d h_x
  have C2 := Lib.hid c2; have C3 := Lib.hid c3; have C4 := Lib.hid c4; have C5 := Lib.hid c5
  have WT := Lib.hid (wf_ok h_t); have WF := Lib.hid (wf_ok h_f)
  have RD := Lib.hid (wr_dot R1.out)
  have SZD : (Tryz.prog.info? 46).map (·.size) = some [Value.int .i64 yr, .int .i64 yn].length := by kernel_rfl
  clear c0 c1 c2 c3 c4 c5 R1
  have E1 := enc_len yt.toNat; have E2 := enc_len yd.size; have E3 := enc_len yf.toNat; have E4 := enc_len ytx.size
  have E0 := dotB_len (yr, yn)
  go_wp2_with fail
  rename_i K2 hK2
  have m0 : Below w1.heap.size w1 w1.drew := (Below.refl _ _).drew
  refine rg_calm (by kernel_rfl) rfl (S := fun U => Below w1.heap.size w1 U) ?_
  refine rgd_pure 0 (some 4) rfl rfl (.pointer (some ⟨g1, 0, none⟩)) (by kernel_rfl) (by kernel_rfl) (by kernel_rfl) (fun _ _ _ _ h => h) (by kernel_rfl) (fun w => by kernel_rfl) m0 ?_
  refine rgd_pureS 1 (some 5) rfl rfl (.agg #[.int .i64 yr, .int .i64 yn]) (by kernel_rfl) (by kernel_rfl) (by kernel_rfl) (fun _ _ _ _ h => h) (by kernel_rfl) (fun U hU => exec_gload 46 _ rfl g1 0 (by kernel_rfl) _ (range_below RD.out hU) Tryz.underlying46 rfl SZD) m0 ?_
  refine rgd_pure 3 (some 7) rfl rfl (.pointer (some ⟨g1, 2, none⟩)) (by kernel_rfl) (by kernel_rfl) (by kernel_rfl) (fun _ _ _ _ h => h) (by kernel_rfl) (fun w => by kernel_rfl) m0 ?_
  refine rgd_pureS 4 (some 8) rfl rfl (.int .i64 yt) (by kernel_rfl) (by kernel_rfl) (by kernel_rfl) (fun _ _ _ _ h => h) (by kernel_rfl) (fun U hU => exec_load1 _ _ rfl Tryz.underlying3 rfl ⟨g1, 2, none⟩ _ (by kernel_rfl) (cell_hold C2.out hU)) m0 ?_
  refine rgd_call 2 (some 6) (by kernel_rfl) rfl rfl (by kernel_rfl) 54 (#[.slice none 0 0, .agg (dcs yr yn)]) (by kernel_rfl) (putDot_is none 0 [] yr yn _ ⟨Lies.nil _ _, Nat.le_refl _, fun _ => ⟨rfl, rfl⟩⟩ ⟨h_r, h_n⟩ (by simp)) ?_
  rintro e U1 hr1
  rw [List.nil_append] at hr1
  obtain ⟨L1, hL1⟩ : ∃ X, dotB (yr, yn) = X := ⟨_, rfl⟩
  rw [hL1] at hr1 E0
  have HL1 := Lib.hid hL1
  clear hL1
  obtain ⟨p1, q1, rfl, k1, b1⟩ := hr1.given
  have m1 := thenBelow m0 b1
  refine ⟨_, rfl, m1, ?_⟩
  refine rgd_call 5 (some 9) (by kernel_rfl) rfl rfl (by kernel_rfl) 20 (#[.slice p1 L1.length q1, .int .i64 yt]) (by kernel_rfl) (num_any p1 q1 L1 yt _ k1.lies (fun e => (k1.none e).1) k1.le WT.out (by omega)) ?_
  rintro e U2 hr2
  obtain ⟨L2, hL2⟩ : ∃ X, L1 ++ Cod.enc yt.toNat = X := ⟨_, rfl⟩
  have n2 : L2.length ≤ 27 := by rw [← hL2]; simp only [List.length_append]; omega
  rw [hL2] at hr2
  have HL2 := Lib.hid hL2
  clear hL2
  obtain ⟨p2, q2, rfl, k2, b2⟩ := hr2.given
  have m2 := thenBelow m1 b2
  refine ⟨_, rfl, m2, ?_⟩
  refine rgd_pure 6 (some 3) rfl rfl (.slice p2 L2.length q2) (by kernel_rfl) (by kernel_rfl) (by kernel_rfl) (fun _ _ _ _ h => h) (by kernel_rfl) (fun w => by kernel_rfl) m2 ?_
  have KE : K2 { tmps := #[.agg #[.int .i64 yr, .int .i64 yn, .int .i64 yt, .string yd, .int .i64 yf, .string ytx], .pointer (some ⟨g1, 0, none⟩), .slice none 0 0, .slice p2 L2.length q2, .pointer (some ⟨g1, 0, none⟩), .agg #[.int .i64 yr, .int .i64 yn], .slice p1 L1.length q1, .pointer (some ⟨g1, 2, none⟩), .int .i64 yt, .slice p2 L2.length q2, undef, undef, undef, undef, undef, undef, undef, undef, undef, undef, undef], defers := [] } U2 := by
    refine hK2 _ _ ?_
    have B2 := Lib.hid m2
    have G2 := Lib.hid k2
    clear hK2 m0 m1 m2 k1 k2 hr1 hr2 b1 b2
    go_wp2_with fail
    rename_i K3 hK3
    have m0 : Below U2.heap.size U2 U2.drew := (Below.refl _ _).drew
    refine rg_calm (by kernel_rfl) rfl (S := fun U => Below U2.heap.size U2 U) ?_
    refine rgd_pure 0 (some 10) rfl rfl (.slice p2 L2.length q2) (by kernel_rfl) (by kernel_rfl) (by kernel_rfl) (fun _ _ _ _ h => h) (by kernel_rfl) (fun w => by kernel_rfl) m0 ?_
    refine rgd_pure 1 (some 11) rfl rfl (.pointer (some ⟨g1, 3, none⟩)) (by kernel_rfl) (by kernel_rfl) (by kernel_rfl) (fun _ _ _ _ h => h) (by kernel_rfl) (fun w => by kernel_rfl) m0 ?_
    refine rgd_pureS 2 (some 12) rfl rfl (.string yd) (by kernel_rfl) (by kernel_rfl) (by kernel_rfl) (fun _ _ _ _ h => h) (by kernel_rfl) (fun U hU => exec_load1 _ _ rfl Tryz.underlying9 rfl ⟨g1, 3, none⟩ _ (by kernel_rfl) (cell_hold C3.out (thenBelow B2.out hU))) m0 ?_
    refine rgd_pure 4 (some 14) rfl rfl (.pointer (some ⟨g1, 4, none⟩)) (by kernel_rfl) (by kernel_rfl) (by kernel_rfl) (fun _ _ _ _ h => h) (by kernel_rfl) (fun w => by kernel_rfl) m0 ?_
    refine rgd_pureS 5 (some 15) rfl rfl (.int .i64 yf) (by kernel_rfl) (by kernel_rfl) (by kernel_rfl) (fun _ _ _ _ h => h) (by kernel_rfl) (fun U hU => exec_load1 _ _ rfl Tryz.underlying3 rfl ⟨g1, 4, none⟩ _ (by kernel_rfl) (cell_hold C4.out (thenBelow B2.out hU))) m0 ?_
    refine rgd_call 3 (some 13) (by kernel_rfl) rfl rfl (by kernel_rfl) 55 (#[.slice p2 L2.length q2, .string yd]) (by kernel_rfl) (text_any p2 q2 L2 yd _ (G2.out.below m0) (by omega)) ?_
    rintro e U3 hr3
    obtain ⟨L3, hL3⟩ : ∃ X, L2 ++ Cod.enc yd.size ++ yd.data.toList = X := ⟨_, rfl⟩
    have n3 : L3.length ≤ 1040 := by rw [← hL3]; simp only [List.length_append, Array.length_toList, ByteArray.size_data]; omega
    rw [hL3] at hr3
    have HL3 := Lib.hid hL3
    clear hL3
    obtain ⟨p3, q3, rfl, k3, b3⟩ := hr3.given
    have m1 := thenBelow m0 b3
    refine ⟨_, rfl, m1, ?_⟩
    refine rgd_call 6 (some 16) (by kernel_rfl) rfl rfl (by kernel_rfl) 20 (#[.slice p3 L3.length q3, .int .i64 yf]) (by kernel_rfl) (num_any p3 q3 L3 yf _ k3.lies (fun e => (k3.none e).1) k3.le WF.out (by omega)) ?_
    rintro e U4 hr4
    obtain ⟨L4, hL4⟩ : ∃ X, L3 ++ Cod.enc yf.toNat = X := ⟨_, rfl⟩
    have n4 : L4.length ≤ 1050 := by rw [← hL4]; simp only [List.length_append]; omega
    rw [hL4] at hr4
    have HL4 := Lib.hid hL4
    clear hL4
    obtain ⟨p4, q4, rfl, k4, b4⟩ := hr4.given
    have m2 := thenBelow m1 b4
    refine ⟨_, rfl, m2, ?_⟩
    refine rgd_pure 7 (some 3) rfl rfl (.slice p4 L4.length q4) (by kernel_rfl) (by kernel_rfl) (by kernel_rfl) (fun _ _ _ _ h => h) (by kernel_rfl) (fun w => by kernel_rfl) m2 ?_
    have KE2 : K3 { tmps := #[.agg #[.int .i64 yr, .int .i64 yn, .int .i64 yt, .string yd, .int .i64 yf, .string ytx], .pointer (some ⟨g1, 0, none⟩), .slice none 0 0, .slice p4 L4.length q4, .pointer (some ⟨g1, 0, none⟩), .agg #[.int .i64 yr, .int .i64 yn], .slice p1 L1.length q1, .pointer (some ⟨g1, 2, none⟩), .int .i64 yt, .slice p2 L2.length q2, .slice p2 L2.length q2, .pointer (some ⟨g1, 3, none⟩), .string yd, .slice p3 L3.length q3, .pointer (some ⟨g1, 4, none⟩), .int .i64 yf, .slice p4 L4.length q4, undef, undef, undef, undef], defers := [] } U4 := by
      refine hK3 _ _ ?_
      have B4 := Lib.hid (thenBelow B2.out m2)
      have G4 := Lib.hid k4
      clear hK3 m0 m1 m2 k3 k4 hr3 hr4 b3 b4
      have c5 := cell_hold C5.out B4.out
      go_wp2_with fail
      refine (text_any p4 q4 L4 ytx U4 G4.out (by omega)).mono ?_
      intro e w9 hr9
      obtain ⟨v9, rfl, hO9, hB9⟩ := hr9.after (thenBelow B1.out B4.out)
      have HALL : Hid (L = L4 ++ Cod.enc ytx.size ++ ytx.data.toList) := Lib.hid (by
        rw [← HL.out, ← HL4.out, ← HL3.out, ← HL2.out, ← HL1.out]
        unfold wtB
        simp only [List.append_assoc])
      have FO : Hid (RetOwn w 5 L (.returned v9) w9) := Lib.hid (by rw [HALL.out]; exact ⟨v9, rfl, hO9, hB9⟩)
      clear hr9 hO9 hB9 c5
      go_wp2
      go_ret
      exact FO.out
    exact wpAnyH_done (by kernel_rfl) (Eq.mp (by kernel_rfl) KE2) _
  exact wpAnyH_done (by kernel_rfl) (Eq.mp (by kernel_rfl) KE) _
end Go.Proofs.YtjmglgcifekhgaaGreatDoor
