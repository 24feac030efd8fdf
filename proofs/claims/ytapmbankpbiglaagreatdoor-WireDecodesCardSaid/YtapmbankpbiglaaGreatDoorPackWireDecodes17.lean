/- The statement WireDecodes, proved for every input that its row reads: part 17 of 54. -/
import Derived.Test.YtapmbankpbiglaaGreatDoorPackWireDecodes15
import Derived.Test.YtapmbankpbiglaaGreatDoorPackWireDecodes13
import Derived.Test.YtapmbankpbiglaaGreatDoorPackWireDecodes16
/- An event's bytes. -/
namespace Go.Proofs.YtapmbankpbiglaaGreatDoor
open Go Go.RowKit
set_option linter.unusedVariables false
set_option maxRecDepth 1000000

theorem wf_ok {n : Int} (h : -1000000000000000000 ≤ n ∧ n ≤ 1000000000000000000) : (Lit.int .i64 n).wf = true := by
  simp [Lit.wf, IntKind.min, IntKind.max, IntKind.bits, IntKind.signed]; omega
theorem cell_hold {w U : World} {a : Addr} {v : Value} (h : w.cell? a = some v) (hb : Below w.heap.size w U) : U.cell? a = some v := (hb.cell (p := a) (World.block_lt_of_cell? w _ h)).trans h
/-- a dot's bytes -/
def dotB (d : Dt) : List UInt8 := Cod.enc d.1.toNat ++ Cod.enc d.2.toNat
theorem dotB_len (d : Dt) : (dotB d).length ≤ 18 := by unfold dotB; have := enc_len d.1.toNat; have := enc_len d.2.toNat; simp only [List.length_append]; omega
set_option maxHeartbeats 4000000 in
theorem putDot_is (p : Option Addr) (c : Nat) (l : List UInt8) (r n : Int) (w : World) (h : Given w p c l) (hd : (-1000000000000000000 ≤ r ∧ r ≤ 1000000000000000000) ∧ -1000000000000000000 ≤ n ∧ n ≤ 1000000000000000000) (hlen : l.length ≤ 140737488354000) :
    Calls Tryz.prog 93 #[.slice p l.length c, .agg (dcs r n)] w (RetOwn w 5 (l ++ dotB (r, n))) := by
  have H := Lib.hid h; clear h
  have WR := Lib.hid (wf_ok hd.1); have WN := Lib.hid (wf_ok hd.2)
  have EL := Lib.hid (enc_len r.toNat)
  clear hd
  go_enter Tryz.func93, Tryz.ntmps93
  go_wp2_with (refine wpList_gbox rfl _ rfl (dcs r n) rfl ?_)
  intro g3 w1 l3 h3 hb1
  have B1 := Lib.hid hb1
  have c0 := cell_of_row _ g3 0 _ _ _ h3
  have c1 := cell_of_row _ g3 1 _ _ _ h3
  have C0 : Hid (w1.cell? ⟨g3, 0, none⟩ = some (.int .i64 r)) := Lib.hid c0
  have C1 : Hid (w1.cell? ⟨g3, 1, none⟩ = some (.int .i64 n)) := Lib.hid c1
  clear hb1 h3 c0 c1
  go_wp2_with fail
  rename_i K2 hK2
  have m0 : Below w1.heap.size w1 w1.drew := (Below.refl _ _).drew
  refine rg_calm (by kernel_rfl) rfl (S := fun U => Below w1.heap.size w1 U) ?_
  refine rgd_pure 0 (some 5) rfl rfl (.slice p l.length c) (by kernel_rfl) (by kernel_rfl) (by kernel_rfl) (fun _ _ _ _ h => h) (by kernel_rfl) (fun w => by kernel_rfl) m0 ?_
  refine rgd_pure 1 (some 6) rfl rfl (.pointer (some ⟨g3, 0, none⟩)) (by kernel_rfl) (by kernel_rfl) (by kernel_rfl) (fun _ _ _ _ h => h) (by kernel_rfl) (fun w => by kernel_rfl) m0 ?_
  refine rgd_pureS 2 (some 7) rfl rfl (.int .i64 r) (by kernel_rfl) (by kernel_rfl) (by kernel_rfl) (fun _ _ _ _ h => h) (by kernel_rfl) (fun U hU => exec_load1 _ _ rfl Tryz.underlying3 rfl ⟨g3, 0, none⟩ _ (by kernel_rfl) (cell_hold C0.out hU)) m0 ?_
  refine rgd_pure 4 (some 9) rfl rfl (.pointer (some ⟨g3, 1, none⟩)) (by kernel_rfl) (by kernel_rfl) (by kernel_rfl) (fun _ _ _ _ h => h) (by kernel_rfl) (fun w => by kernel_rfl) m0 ?_
  refine rgd_pureS 5 (some 10) rfl rfl (.int .i64 n) (by kernel_rfl) (by kernel_rfl) (by kernel_rfl) (fun _ _ _ _ h => h) (by kernel_rfl) (fun U hU => exec_load1 _ _ rfl Tryz.underlying3 rfl ⟨g3, 1, none⟩ _ (by kernel_rfl) (cell_hold C1.out hU)) m0 ?_
  refine rgd_call 3 (some 8) (by kernel_rfl) rfl rfl (by kernel_rfl) 48 (#[.slice p l.length c, .int .i64 r]) (by kernel_rfl) (num_any p c l r _ (H.out.below (thenBelow B1.out m0)).lies (fun e => (H.out.none e).1) H.out.le WR.out (by omega)) ?_
  rintro e U1 hr1
  obtain ⟨p1, c1, rfl, k1, b1⟩ := hr1.given
  have m1 := thenBelow m0 b1
  refine ⟨_, rfl, m1, ?_⟩
  refine rgd_call 6 (some 11) (by kernel_rfl) rfl rfl (by kernel_rfl) 48 (#[.slice p1 (l ++ Cod.enc r.toNat).length c1, .int .i64 n]) (by kernel_rfl) (num_any p1 c1 (l ++ Cod.enc r.toNat) n _ k1.lies (fun e => (k1.none e).1) k1.le WN.out (by have := EL.out; rw [List.length_append]; omega)) ?_
  rintro e U2 hr2
  have HF := Lib.hid ((hr2.after (thenBelow B1.out m1)))
  obtain ⟨p2, c2, rfl, k2, b2⟩ := hr2.given
  have m2 := thenBelow m1 b2
  refine ⟨_, rfl, m2, ?_⟩
  refine rgd_pure 7 (some 4) rfl rfl (.slice p2 (l ++ Cod.enc r.toNat ++ Cod.enc n.toNat).length c2) (by kernel_rfl) (by kernel_rfl) (by kernel_rfl) (fun _ _ _ _ h => h) (by kernel_rfl) (fun w => by kernel_rfl) m2 ?_
  have HE : Hid (l ++ Cod.enc r.toNat ++ Cod.enc n.toNat = l ++ dotB (r, n)) := Lib.hid (by unfold dotB; simp only [List.append_assoc])
  have KE : K2 { tmps := #[.slice p l.length c, .agg (dcs r n), undef, .pointer (some ⟨g3, 0, none⟩), .slice p2 (l ++ Cod.enc r.toNat ++ Cod.enc n.toNat).length c2, .slice p l.length c, .pointer (some ⟨g3, 0, none⟩), .int .i64 r, .slice p1 (l ++ Cod.enc r.toNat).length c1, .pointer (some ⟨g3, 1, none⟩), .int .i64 n, .slice p2 (l ++ Cod.enc r.toNat ++ Cod.enc n.toNat).length c2], defers := [] } U2 := by
    refine hK2 _ _ ?_
    clear hK2 m0 m1 m2 k1 k2 hr1 b1 b2
    rw [HE.out] at HF ⊢
    go_wp2
    go_ret
    exact HF.out
  exact wpAnyH_done (by kernel_rfl) (Eq.mp (by kernel_rfl) KE) _

/-- an event's bytes -/
def evB (e : Ev) : List UInt8 := dotB (e.rep, e.n) ++ (Cod.enc e.time.toNat ++ (Cod.enc e.kind.toNat ++ (Cod.enc e.doc.size ++ (e.doc.data.toList ++ (Cod.enc e.field.toNat ++ (Cod.enc e.text.size ++ (e.text.data.toList ++ (Cod.enc e.gone.length ++ e.gone.flatMap dotB))))))))
set_option maxRecDepth 1000000

/-- what is so of an event that may be -/
structure Fine (e : Ev) : Prop where
  dot : vldB e.rep e.n = true
  time : 1 ≤ e.time ∧ e.time ≤ 1099511627776
  doc : e.doc.size ≤ 12
  many : e.gone.length ≤ 120
  gone : ∀ d ∈ e.gone, vl d = true
  kind : e.kind = 1 ∨ e.kind = 2
  field : 0 ≤ e.field ∧ e.field ≤ 4
  text : e.text.size ≤ 160
theorem fine_of {e : Ev} (h : chk e = 0) : Fine e := by
  have hh : headB e = true := by
    cases q : headB e with
    | true => rfl
    | false => rw [chk_no q] at h; cases h
  obtain ⟨h1, h2, h3, h4⟩ := (head_iff e).1 hh
  obtain ⟨g1, g2, g3⟩ := goB_iff.1 h4
  have hd : e.doc.size ≤ 12 := by
    unfold nameB at h3
    exact (of_decide_eq_true h3).2.1
  have hg : ∀ d ∈ e.gone, vl d = true := fun d hd => by
    obtain ⟨i, hi, rfl⟩ := List.getElem_of_mem hd
    exact (g2 i hi).1
  by_cases hk : e.kind = 1
  · rw [chk_put hh hk] at h
    unfold txtE at h
    split at h
    · cases h
    · rename_i c1
      split at h
      · cases h
      · exact ⟨h1, h2, hd, g1, hg, .inl hk, by omega, by omega⟩
  · by_cases h5 : e.kind = 2 ∧ e.field = 0 ∧ e.text.size = 0
    · exact ⟨h1, h2, hd, g1, hg, .inr h5.1, by omega, by omega⟩
    · rw [chk_else hk h5] at h; cases h
/-- what is written of an event -/
noncomputable def wrB (e : Ev) : List UInt8 := if chk e = 0 then evB e else []
theorem flat_take (l : List Dt) (k : Nat) (h : k < l.length) : (l.take (k + 1)).flatMap dotB = (l.take k).flatMap dotB ++ dotB l[k] := by
  rw [List.take_succ_eq_append_getElem h, List.flatMap_append]; simp
theorem flat_dots_len (l : List Dt) : (l.flatMap dotB).length ≤ 18 * l.length := by
  induction l with
  | nil => simp
  | cons d l ih => rw [List.flatMap_cons, List.length_append, List.length_cons]; have := dotB_len d; omega
set_option maxHeartbeats 8000000 in
theorem evWritten_is (x : EvP) (w : World) (hx : x.Ok w) (hT : Shapes w) :
    Calls Tryz.prog 73 #[.agg x.cells.toArray] w (RetOwn w 5 (wrB x.e)) := by
  have HX := Lib.hid hx; have HT := Lib.hid hT
  clear hx hT
  obtain ⟨X, hX⟩ : ∃ X, chk x.e = X := ⟨_, rfl⟩
  have CK := Lib.hid (fun (W : World) (hW : Below w.heap.size w W) => check_is x W ⟨HX.out.1.below hW, HX.out.2⟩ (HT.out.below hW))
  rw [hX] at CK
  have HC := Lib.hid hX
  clear hX
  obtain ⟨L, hL⟩ : ∃ L, wrB x.e = L := ⟨_, rfl⟩
  rw [hL]
  have HL := Lib.hid hL
  clear hL
  go_enter Tryz.func73, Tryz.ntmps73
  go_wp2_with (refine wpList_gbox rfl _ rfl x.cells.toArray rfl ?_)
  intro g1 w1 lg1 hg1 hb1
  have B1 := Lib.hid hb1
  have R1 := Lib.hid (range_of_block hg1)
  have SZ := Lib.hid (sizeEv x)
  have R1' : Hid (w1.rangeAt g1 0 x.cells) := Lib.hid (by have := R1.out; simpa using this)
  clear hg1 hb1
  go_wp2_with (refine wpList_gload rfl _ rfl g1 0 rfl _ R1'.out _ Tryz.underlying79 rfl SZ.out ?_)
  refine (CK.out w1 B1.out).mono ?_
  rintro e w2 ⟨rfl, hb2⟩
  have B2 := Lib.hid (thenBelow B1.out hb2)
  have R2 := Lib.hid (range_below R1'.out hb2)
  clear hb2 CK R1 R1'
  by_cases h0 : X = 0
  · have FN := Lib.hid (fine_of (HC.out.trans h0))
    have HLE : Hid (L = evB x.e) := Lib.hid (by rw [← HL.out]; unfold wrB; rw [if_pos (HC.out.trans h0)])
    subst h0
    have OKX : Hid (∀ W, Below w.heap.size w W → DRow W x.p x.e.gone) := Lib.hid fun W hW => HX.out.1.below hW
    obtain ⟨⟨r, n, t, kd, d, fl, tx, gn⟩, gp, gc⟩ := x
    simp only at FN HLE OKX
    obtain ⟨fdot, ftime, fdoc, fmany, fgone, fkind, ffield, ftext⟩ := FN.out
    simp only at fdot ftime fdoc fmany fgone fkind ffield ftext
    have fd := (vld_iff r n).1 fdot
    have FG := Lib.hid fgone
    have WT := Lib.hid (wf_ok (n := t) (by omega)); have WK := Lib.hid (wf_ok (n := kd) (by omega)); have WF := Lib.hid (wf_ok (n := fl) (by omega)); have WG := Lib.hid (wf_ok (n := (gn.length : Int)) (by omega))
    clear FN fdot fgone HX HC HL
    obtain ⟨c0, c1, c2, c3, c4, c5, c6, c7⟩ := ev_cells R2.out
    simp only [Nat.zero_add] at c0 c1 c2 c3 c4 c5 c6 c7
    have C2 := Lib.hid c2; have C3 := Lib.hid c3; have C4 := Lib.hid c4; have C5 := Lib.hid c5; have C6 := Lib.hid c6; have C7 := Lib.hid c7
    go_wp2_with fail
    refine (putDot_is none 0 [] r n w2 ⟨Lies.nil _ _, Nat.le_refl _, fun _ => ⟨rfl, rfl⟩⟩ (by omega) (by simp)).mono ?_
    intro e w3 hr3
    rw [List.nil_append] at hr3
    obtain ⟨L3, hL3⟩ : ∃ L, dotB (r, n) = L := ⟨_, rfl⟩
    have n3 : L3.length ≤ 18 := by rw [← hL3]; exact dotB_len _
    rw [hL3] at hr3
    have HL3 := Lib.hid hL3
    obtain ⟨p3, q3, rfl, k3, b3⟩ := hr3.given
    have K3 := Lib.hid k3; have B3 := Lib.hid b3
    clear k3 b3 hr3 hL3 c0 c1 c2 c3 c4 c5 c6 c7
    have E1 := enc_len t.toNat; have E2 := enc_len kd.toNat; have E3 := enc_len d.size; have E4 := enc_len fl.toNat; have E5 := enc_len tx.size; have E6 := enc_len gn.length
    go_wp2_with fail
    rename_i K4 hK4
    have m0 : Below w3.heap.size w3 w3.drew := (Below.refl _ _).drew
    refine rg_calm (by kernel_rfl) rfl (S := fun U => Below w3.heap.size w3 U) ?_
    refine rgd_pure 0 (some 12) rfl rfl (.slice p3 L3.length q3) (by kernel_rfl) (by kernel_rfl) (by kernel_rfl) (fun _ _ _ _ h => h) (by kernel_rfl) (fun w => by kernel_rfl) m0 ?_
    refine rgd_pure 1 (some 13) rfl rfl (.pointer (some ⟨g1, 2, none⟩)) (by kernel_rfl) (by kernel_rfl) (by kernel_rfl) (fun _ _ _ _ h => h) (by kernel_rfl) (fun w => by kernel_rfl) m0 ?_
    refine rgd_pureS 2 (some 14) rfl rfl (.int .i64 t) (by kernel_rfl) (by kernel_rfl) (by kernel_rfl) (fun _ _ _ _ h => h) (by kernel_rfl) (fun U hU => exec_load1 _ _ rfl Tryz.underlying3 rfl ⟨g1, 2, none⟩ _ (by kernel_rfl) (cell_hold C2.out (thenBelow B3.out hU))) m0 ?_
    refine rgd_pure 4 (some 16) rfl rfl (.pointer (some ⟨g1, 3, none⟩)) (by kernel_rfl) (by kernel_rfl) (by kernel_rfl) (fun _ _ _ _ h => h) (by kernel_rfl) (fun w => by kernel_rfl) m0 ?_
    refine rgd_pureS 5 (some 17) rfl rfl (.int .i64 kd) (by kernel_rfl) (by kernel_rfl) (by kernel_rfl) (fun _ _ _ _ h => h) (by kernel_rfl) (fun U hU => exec_load1 _ _ rfl Tryz.underlying3 rfl ⟨g1, 3, none⟩ _ (by kernel_rfl) (cell_hold C3.out (thenBelow B3.out hU))) m0 ?_
    refine rgd_call 3 (some 15) (by kernel_rfl) rfl rfl (by kernel_rfl) 48 (#[.slice p3 L3.length q3, .int .i64 t]) (by kernel_rfl) (num_any p3 q3 L3 t _ (K3.out.below m0).lies (fun e => (K3.out.none e).1) K3.out.le WT.out (by omega)) ?_
    rintro e U1 hr1
    obtain ⟨LA4, hLA⟩ : ∃ X, L3 ++ Cod.enc t.toNat = X := ⟨_, rfl⟩
    have nA : LA4.length ≤ 27 := by rw [← hLA]; simp only [List.length_append, Array.length_toList, ByteArray.size_data, Int.toNat_natCast]; omega
    rw [hLA] at hr1
    have HLA4 := Lib.hid hLA
    clear hLA
    obtain ⟨pA4, qA4, rfl, kA, bA⟩ := hr1.given
    have m1 := thenBelow m0 bA
    refine ⟨_, rfl, m1, ?_⟩
    refine rgd_call 6 (some 18) (by kernel_rfl) rfl rfl (by kernel_rfl) 48 (#[.slice pA4 LA4.length qA4, .int .i64 kd]) (by kernel_rfl) (num_any pA4 qA4 LA4 kd _ kA.lies (fun e => (kA.none e).1) kA.le WK.out (by omega)) ?_
    rintro e w4 hr2
    obtain ⟨L4, hLB⟩ : ∃ X, LA4 ++ Cod.enc kd.toNat = X := ⟨_, rfl⟩
    have n4 : L4.length ≤ 36 := by rw [← hLB]; simp only [List.length_append, Array.length_toList, ByteArray.size_data, Int.toNat_natCast]; omega
    rw [hLB] at hr2
    have HL4 := Lib.hid hLB
    clear hLB
    obtain ⟨p4, q4, rfl, k4, b4⟩ := hr2.given
    have m2 := thenBelow m1 b4
    refine ⟨_, rfl, m2, ?_⟩
    refine rgd_pure 7 (some 3) rfl rfl (.slice p4 L4.length q4) (by kernel_rfl) (by kernel_rfl) (by kernel_rfl) (fun _ _ _ _ h => h) (by kernel_rfl) (fun w => by kernel_rfl) m2 ?_
    have KE : K4 { tmps := #[.agg (EvP.cells ⟨⟨r, n, t, kd, d, fl, tx, gn⟩, gp, gc⟩).toArray, .pointer (some ⟨g1, 0, none⟩), .slice none 0 0, .slice p4 L4.length q4, undef, undef, .agg (EvP.cells ⟨⟨r, n, t, kd, d, fl, tx, gn⟩, gp, gc⟩).toArray, .int .i64 0, .bool false, .pointer (some ⟨g1, 0, none⟩), .agg #[.int .i64 r, .int .i64 n], .slice p3 L3.length q3, .slice p3 L3.length q3, .pointer (some ⟨g1, 2, none⟩), .int .i64 t, .slice pA4 LA4.length qA4, .pointer (some ⟨g1, 3, none⟩), .int .i64 kd, .slice p4 L4.length q4, undef, undef, undef, undef, undef, undef, undef, undef, undef, undef, undef, undef, undef, undef, undef, undef, undef, undef, undef, undef, undef, undef, undef, undef, undef, undef, undef], defers := [] } w4 := by
      refine hK4 _ _ ?_
      have B4 := Lib.hid (thenBelow B3.out m2)
      have K4 := Lib.hid k4
      clear hK4 m0 m1 m2 k4 kA hr1 hr2 bA b4 nA
      go_wp2_with fail
      rename_i K5 hK5
      have m0 : Below w4.heap.size w4 w4.drew := (Below.refl _ _).drew
      refine rg_calm (by kernel_rfl) rfl (S := fun U => Below w4.heap.size w4 U) ?_
      refine rgd_pure 0 (some 19) rfl rfl (.slice p4 L4.length q4) (by kernel_rfl) (by kernel_rfl) (by kernel_rfl) (fun _ _ _ _ h => h) (by kernel_rfl) (fun w => by kernel_rfl) m0 ?_
      refine rgd_pure 1 (some 20) rfl rfl (.pointer (some ⟨g1, 4, none⟩)) (by kernel_rfl) (by kernel_rfl) (by kernel_rfl) (fun _ _ _ _ h => h) (by kernel_rfl) (fun w => by kernel_rfl) m0 ?_
      refine rgd_pureS 2 (some 21) rfl rfl (.string d) (by kernel_rfl) (by kernel_rfl) (by kernel_rfl) (fun _ _ _ _ h => h) (by kernel_rfl) (fun U hU => exec_load1 _ _ rfl Tryz.underlying9 rfl ⟨g1, 4, none⟩ _ (by kernel_rfl) (cell_hold C4.out (thenBelow B4.out hU))) m0 ?_
      refine rgd_pure 4 (some 23) rfl rfl (.pointer (some ⟨g1, 5, none⟩)) (by kernel_rfl) (by kernel_rfl) (by kernel_rfl) (fun _ _ _ _ h => h) (by kernel_rfl) (fun w => by kernel_rfl) m0 ?_
      refine rgd_pureS 5 (some 24) rfl rfl (.int .i64 fl) (by kernel_rfl) (by kernel_rfl) (by kernel_rfl) (fun _ _ _ _ h => h) (by kernel_rfl) (fun U hU => exec_load1 _ _ rfl Tryz.underlying3 rfl ⟨g1, 5, none⟩ _ (by kernel_rfl) (cell_hold C5.out (thenBelow B4.out hU))) m0 ?_
      refine rgd_call 3 (some 22) (by kernel_rfl) rfl rfl (by kernel_rfl) 94 (#[.slice p4 L4.length q4, .string d]) (by kernel_rfl) (text_any p4 q4 L4 d _ (K4.out.below m0) (by omega)) ?_
      rintro e U1 hr1
      obtain ⟨LA5, hLA⟩ : ∃ X, L4 ++ Cod.enc d.size ++ d.data.toList = X := ⟨_, rfl⟩
      have nA : LA5.length ≤ 60 := by rw [← hLA]; simp only [List.length_append, Array.length_toList, ByteArray.size_data, Int.toNat_natCast]; omega
      rw [hLA] at hr1
      have HLA5 := Lib.hid hLA
      clear hLA
      obtain ⟨pA5, qA5, rfl, kA, bA⟩ := hr1.given
      have m1 := thenBelow m0 bA
      refine ⟨_, rfl, m1, ?_⟩
      refine rgd_call 6 (some 25) (by kernel_rfl) rfl rfl (by kernel_rfl) 48 (#[.slice pA5 LA5.length qA5, .int .i64 fl]) (by kernel_rfl) (num_any pA5 qA5 LA5 fl _ kA.lies (fun e => (kA.none e).1) kA.le WF.out (by omega)) ?_
      rintro e w5 hr2
      obtain ⟨L5, hLB⟩ : ∃ X, LA5 ++ Cod.enc fl.toNat = X := ⟨_, rfl⟩
      have n5 : L5.length ≤ 70 := by rw [← hLB]; simp only [List.length_append, Array.length_toList, ByteArray.size_data, Int.toNat_natCast]; omega
      rw [hLB] at hr2
      have HL5 := Lib.hid hLB
      clear hLB
      obtain ⟨p5, q5, rfl, k5, b5⟩ := hr2.given
      have m2 := thenBelow m1 b5
      refine ⟨_, rfl, m2, ?_⟩
      refine rgd_pure 7 (some 3) rfl rfl (.slice p5 L5.length q5) (by kernel_rfl) (by kernel_rfl) (by kernel_rfl) (fun _ _ _ _ h => h) (by kernel_rfl) (fun w => by kernel_rfl) m2 ?_
      have KE : K5 { tmps := #[.agg (EvP.cells ⟨⟨r, n, t, kd, d, fl, tx, gn⟩, gp, gc⟩).toArray, .pointer (some ⟨g1, 0, none⟩), .slice none 0 0, .slice p5 L5.length q5, undef, undef, .agg (EvP.cells ⟨⟨r, n, t, kd, d, fl, tx, gn⟩, gp, gc⟩).toArray, .int .i64 0, .bool false, .pointer (some ⟨g1, 0, none⟩), .agg #[.int .i64 r, .int .i64 n], .slice p3 L3.length q3, .slice p3 L3.length q3, .pointer (some ⟨g1, 2, none⟩), .int .i64 t, .slice pA4 LA4.length qA4, .pointer (some ⟨g1, 3, none⟩), .int .i64 kd, .slice p4 L4.length q4, .slice p4 L4.length q4, .pointer (some ⟨g1, 4, none⟩), .string d, .slice pA5 LA5.length qA5, .pointer (some ⟨g1, 5, none⟩), .int .i64 fl, .slice p5 L5.length q5, undef, undef, undef, undef, undef, undef, undef, undef, undef, undef, undef, undef, undef, undef, undef, undef, undef, undef, undef, undef], defers := [] } w5 := by
        refine hK5 _ _ ?_
        have B5 := Lib.hid (thenBelow B4.out m2)
        have K5 := Lib.hid k5
        clear hK5 m0 m1 m2 k5 kA hr1 hr2 bA b5 nA
        go_wp2_with fail
        rename_i K6 hK6
        have m0 : Below w5.heap.size w5 w5.drew := (Below.refl _ _).drew
        refine rg_calm (by kernel_rfl) rfl (S := fun U => Below w5.heap.size w5 U) ?_
        refine rgd_pure 0 (some 26) rfl rfl (.slice p5 L5.length q5) (by kernel_rfl) (by kernel_rfl) (by kernel_rfl) (fun _ _ _ _ h => h) (by kernel_rfl) (fun w => by kernel_rfl) m0 ?_
        refine rgd_pure 1 (some 27) rfl rfl (.pointer (some ⟨g1, 6, none⟩)) (by kernel_rfl) (by kernel_rfl) (by kernel_rfl) (fun _ _ _ _ h => h) (by kernel_rfl) (fun w => by kernel_rfl) m0 ?_
        refine rgd_pureS 2 (some 28) rfl rfl (.string tx) (by kernel_rfl) (by kernel_rfl) (by kernel_rfl) (fun _ _ _ _ h => h) (by kernel_rfl) (fun U hU => exec_load1 _ _ rfl Tryz.underlying9 rfl ⟨g1, 6, none⟩ _ (by kernel_rfl) (cell_hold C6.out (thenBelow B5.out hU))) m0 ?_
        refine rgd_pure 4 (some 30) rfl rfl (.pointer (some ⟨g1, 7, none⟩)) (by kernel_rfl) (by kernel_rfl) (by kernel_rfl) (fun _ _ _ _ h => h) (by kernel_rfl) (fun w => by kernel_rfl) m0 ?_
        refine rgd_pureS 5 (some 31) rfl rfl (.slice gp gn.length gc) (by kernel_rfl) (by kernel_rfl) (by kernel_rfl) (fun _ _ _ _ h => h) (by kernel_rfl) (fun U hU => exec_load1 _ _ rfl Tryz.underlying77 rfl ⟨g1, 7, none⟩ _ (by kernel_rfl) (cell_hold C7.out (thenBelow B5.out hU))) m0 ?_
        refine rgd_pure 6 (some 32) rfl rfl (.int .i64 (gn.length : Int)) (by kernel_rfl) (by kernel_rfl) (by kernel_rfl) (fun _ _ _ _ h => h) (by kernel_rfl) (fun w => by kernel_rfl) m0 ?_
        refine rgd_call 3 (some 29) (by kernel_rfl) rfl rfl (by kernel_rfl) 94 (#[.slice p5 L5.length q5, .string tx]) (by kernel_rfl) (text_any p5 q5 L5 tx _ (K5.out.below m0) (by omega)) ?_
        rintro e U1 hr1
        obtain ⟨LA6, hLA⟩ : ∃ X, L5 ++ Cod.enc tx.size ++ tx.data.toList = X := ⟨_, rfl⟩
        have nA : LA6.length ≤ 250 := by rw [← hLA]; simp only [List.length_append, Array.length_toList, ByteArray.size_data, Int.toNat_natCast]; omega
        rw [hLA] at hr1
        have HLA6 := Lib.hid hLA
        clear hLA
        obtain ⟨pA6, qA6, rfl, kA, bA⟩ := hr1.given
        have m1 := thenBelow m0 bA
        refine ⟨_, rfl, m1, ?_⟩
        refine rgd_call 7 (some 33) (by kernel_rfl) rfl rfl (by kernel_rfl) 48 (#[.slice pA6 LA6.length qA6, .int .i64 (gn.length : Int)]) (by kernel_rfl) (num_any pA6 qA6 LA6 (gn.length : Int) _ kA.lies (fun e => (kA.none e).1) kA.le WG.out (by omega)) ?_
        rintro e w6 hr2
        obtain ⟨L6, hLB⟩ : ∃ X, LA6 ++ Cod.enc (gn.length : Int).toNat = X := ⟨_, rfl⟩
        have n6 : L6.length ≤ 260 := by rw [← hLB]; simp only [List.length_append, Array.length_toList, ByteArray.size_data, Int.toNat_natCast]; omega
        rw [hLB] at hr2
        have HL6 := Lib.hid hLB
        clear hLB
        obtain ⟨p6, q6, rfl, k6, b6⟩ := hr2.given
        have m2 := thenBelow m1 b6
        refine ⟨_, rfl, m2, ?_⟩
        refine rgd_pure 8 (some 3) rfl rfl (.slice p6 L6.length q6) (by kernel_rfl) (by kernel_rfl) (by kernel_rfl) (fun _ _ _ _ h => h) (by kernel_rfl) (fun w => by kernel_rfl) m2 ?_
        have KE : K6 { tmps := #[.agg (EvP.cells ⟨⟨r, n, t, kd, d, fl, tx, gn⟩, gp, gc⟩).toArray, .pointer (some ⟨g1, 0, none⟩), .slice none 0 0, .slice p6 L6.length q6, undef, undef, .agg (EvP.cells ⟨⟨r, n, t, kd, d, fl, tx, gn⟩, gp, gc⟩).toArray, .int .i64 0, .bool false, .pointer (some ⟨g1, 0, none⟩), .agg #[.int .i64 r, .int .i64 n], .slice p3 L3.length q3, .slice p3 L3.length q3, .pointer (some ⟨g1, 2, none⟩), .int .i64 t, .slice pA4 LA4.length qA4, .pointer (some ⟨g1, 3, none⟩), .int .i64 kd, .slice p4 L4.length q4, .slice p4 L4.length q4, .pointer (some ⟨g1, 4, none⟩), .string d, .slice pA5 LA5.length qA5, .pointer (some ⟨g1, 5, none⟩), .int .i64 fl, .slice p5 L5.length q5, .slice p5 L5.length q5, .pointer (some ⟨g1, 6, none⟩), .string tx, .slice pA6 LA6.length qA6, .pointer (some ⟨g1, 7, none⟩), .slice gp gn.length gc, .int .i64 (gn.length : Int), .slice p6 L6.length q6, undef, undef, undef, undef, undef, undef, undef, undef, undef, undef, undef, undef], defers := [] } w6 := by
          refine hK6 _ _ ?_
          have B6 := Lib.hid (thenBelow B5.out m2)
          have K6 := Lib.hid k6
          obtain ⟨v6, e6, hO6, _⟩ := hr2.after (thenBelow B2.out (thenBelow B5.out m1))
          obtain rfl : _ = v6 := by injection e6
          clear e6
          clear hK6 m0 m1 m2 k6 kA hr1 hr2 bA b6 nA
          have HALL : Hid (L = L6 ++ gn.flatMap dotB) := Lib.hid (by
            rw [HLE.out, ← HL6.out, ← HLA6.out, ← HL5.out, ← HLA5.out, ← HL4.out, ← HLA4.out, ← HL3.out]
            unfold evB
            simp only [List.append_assoc, Int.toNat_natCast])
          have O6 := Lib.hid hO6
          clear hO6
          have FL := Lib.hid (flat_dots_len gn)
          have R6 := Lib.hid (range_below R2.out B6.out)
          obtain ⟨c0, c1, c2, c3, c4, c5, c6, c7⟩ := ev_cells R6.out
          simp only [Nat.zero_add] at c0 c1 c2 c3 c4 c5 c6 c7
          have BW6 := Lib.hid (thenBelow B2.out B6.out)
          clear c0 c1 c2 c3 c4 c5 c6
          obtain ⟨v6, hv6⟩ : ∃ v, Value.slice p6 L6.length q6 = v := ⟨_, rfl⟩
          rw [hv6] at O6 ⊢
          clear hv6
          go_wp2
          clear c7
          go_loopw [3, 37] (fun u i wr => ∃ (j : Nat) (LJ : List UInt8), j ≤ gn.length ∧ i = .int .i64 j ∧ Hid (LJ = L6 ++ (gn.take j).flatMap dotB) ∧ wr.ownsRow w.heap.size 5 1 u LJ.length (bys LJ) ∧ Below w.heap.size w wr) (fun _ i _ => gn.length - (intOf i).toNat)
          case atStart => exact ⟨0, L6, Nat.zero_le _, rfl, Lib.hid (by simp), O6.out, BW6.out⟩
          case round =>
            obtain ⟨j, LJ, hj, rfl, HLJ, hown, hb⟩ := hrel
            have OW := Lib.hid hown; have BB := Lib.hid hb
            clear hown hb
            by_cases hjk : j < gn.length
            · have hjk' : (j : Int) < gn.length := by omega
              obtain ⟨bd, od, rfl, qd⟩ := drow_at (OKX.out wr BB.out) hjk
              have hvl := (vl_iff _).1 (FG.out _ (List.getElem_mem hjk))
              have FT := Lib.hid (flat_take gn j hjk)
              obtain ⟨⟨z1, z2⟩, hz⟩ : ∃ z, gn[j] = z := ⟨_, rfl⟩
              rw [hz] at qd hvl FT
              clear hz
              simp only at qd hvl FT
              have d0 := qd 0 _ rfl
              have d1 := qd 1 _ rfl
              simp only [Nat.add_zero] at d0 d1
              clear qd
              have nj : LJ.length ≤ 260 + 18 * 120 := by
                rw [HLJ.out, List.length_append]
                have := flat_dots_len (gn.take j)
                have : (gn.take j).length ≤ 120 := by rw [List.length_take]; omega
                omega
              obtain ⟨-, pj, qj, rfl, lej, -, liesj, nonej⟩ := own_lies OW.out
              have KJ : Hid (Given wr pj qj LJ) := Lib.hid ⟨liesj, lej, nonej⟩
              clear lej liesj nonej
              have bA := below_alloc wr (.cells #[.int .i64 z1, .int .i64 z2] 76)
              have BA := Lib.hid (thenBelow BB.out bA)
              have PD := Lib.hid (putDot_is pj qj LJ z1 z2 (wr.alloc (.cells #[.int .i64 z1, .int .i64 z2] 76)) (KJ.out.below bA) (by omega) (by omega))
              clear bA OW
              go_wp2_with fail
              refine PD.out.mono ?_
              rintro e w7 hr7
              obtain ⟨v7, rfl, ho7, hb7⟩ := hr7.after BA.out
              have O7 := Lib.hid ho7; have B7 := Lib.hid hb7
              clear hr7 ho7 hb7 PD
              go_wp2
              go_roundw
              case rel => exact ⟨j + 1, _, by omega, by go_num, Lib.hid (by rw [FT.out, ← List.append_assoc, HLJ.out]), O7.out, B7.out⟩
              case measure => simp [intOf]; omega
            · obtain rfl : j = gn.length := by omega
              have hjk' : ¬ ((gn.length : Nat) : Int) < gn.length := by omega
              have hown := OW.out
              have hLL : LJ = L := by rw [HLJ.out, List.take_length, ← HALL.out]
              subst hLL
              have O8 := Lib.hid hown
              clear hown OW
              go_wp2
              go_ret
              exact RetOwn.of_own O8.out rfl BB.out
        exact wpAnyH_done (by kernel_rfl) (Eq.mp (by kernel_rfl) KE) _
      exact wpAnyH_done (by kernel_rfl) (Eq.mp (by kernel_rfl) KE) _
    exact wpAnyH_done (by kernel_rfl) (Eq.mp (by kernel_rfl) KE) _
  · have HLE : Hid (L = []) := Lib.hid (by rw [← HL.out]; unfold wrB; rw [if_neg (fun e => h0 (HC.out.symm.trans e))])
    have h0' : (X == 0) = false := by simp [h0]
    clear HC HL
    go_wp2
    go_ret
    rw [HLE.out]
    exact RetOwn.of_own (l := []) (World.ownsRow_nil _ _ _ _) rfl B2.out
end Go.Proofs.YtapmbankpbiglaaGreatDoor
