/- The statement AuditLooks, proved for every input that its row reads: part 33 of 54. -/
import Derived.Test.YtkpldjiloinaoaaDoorPackAuditLooks32
import Derived.Test.YtkpldjiloinaoaaDoorPackAuditLooks4
/- The example's event passed. -/
namespace Go.Proofs.YtkpldjiloinaoaaDoor
open Go Go.RowKit
set_option linter.unusedVariables false
set_option maxRecDepth 1000000

theorem front_at {w : World} {A r1 r2 r3 : Nat} (h : w.heap[A]? = some (.cells (acs r1 r2 r3) 68 (0, 0))) (i : Nat) : w.cell? ⟨A, 64 + i, none⟩ = ([Value.map (some r1), Value.map (some r2), Value.map (some r3)] : List Value)[i]? := by
  rw [cell_of_row w A (64 + i) _ _ _ h, acs, List.getElem?_toArray, List.getElem?_append_right (by rw [Array.length_toList, vf_size]; omega), Array.length_toList, vf_size, Nat.add_sub_cancel_left]
def PassR (w : World) (r2 r3 : Nat) (e : Ending) (w' : World) : Prop := (∃ v, e = .returned v) ∧ (∀ B, B ≤ r2 → B ≤ r3 → B ≤ w.heap.size → Below B w w') ∧ ∀ g, g < w.heap.size → g ≠ r2 → g ≠ r3 → w'.heap[g]? = w.heap[g]?
set_option maxHeartbeats 4000000 in
theorem pass_is (A r1 r2 r3 : Nat) (w : World) (h : Front w A r1 r2 r3) (hne : r2 ≠ r3) : Calls Tryd.prog 17 #[.pointer (some ⟨A, 0, none⟩), .agg auP.cells.toArray] w (PassR w r2 r3) := by
  have FR := Lib.hid h
  clear h
  go_enter Tryd.func17, Tryd.ntmps17
  go_wp2_with (refine wpList_gbox rfl _ rfl auP.cells.toArray rfl ?_)
  intro g3 w1 l1 h1 hb1
  have F1 := Lib.hid (FR.out.later hb1); have B1 := Lib.hid hb1
  have D1 : Hid (w1.heap[g3]? = some (.cells auP.cells.toArray 48 (0, 0))) := Lib.hid h1
  have Q1 := Lib.hid (au_dot h1)
  have BL := Lib.hid (behindLater_is A r1 r2 r3 w1 F1.out)
  clear hb1 h1 FR
  go_wp2_with (refine wpList_gload rfl _ rfl g3 0 rfl _ Q1.out _ Tryd.underlying37 rfl (sizeDtA 0 1) ?_)
  refine BL.out.mono ?_
  rintro e w2 ⟨rfl, hb2⟩
  have F2 := Lib.hid (F1.out.later hb2); have B2 := Lib.hid (thenBelow B1.out hb2)
  have D2 : Hid (w2.heap[g3]? = some (.cells auP.cells.toArray 48 (0, 0))) := Lib.hid ((hb2.block g3 (Array.getElem?_eq_some_iff.1 D1.out).1).trans D1.out)
  clear hb2 F1 B1 D1 Q1 BL
  go_wp2_with fail
  rename_i K3 hK3
  have m0 : Front w2.drew A r1 r2 r3 ∧ w2.drew.heap[g3]? = some (.cells auP.cells.toArray 48 (0, 0)) ∧ Below w.heap.size w w2.drew := ⟨F2.out.later (w := w2) (to_drew (Below.refl _ _)), D2.out, to_drew B2.out⟩
  have nA : A ≠ r3 := fun e => by have h1 := m0.1.blk; have h2 := m0.1.last; rw [e, h2] at h1; cases h1
  have nG : g3 ≠ r3 := fun e => by have h1 := m0.2.1; have h2 := m0.1.last; rw [e, h2] at h1; cases h1
  refine rg_calm (by kernel_rfl) rfl (S := fun U => U.heap[A]? = some (.cells (acs r1 r2 r3) 68 (0, 0)) ∧ DSet U r2 [] ∧ U.heap[g3]? = some (.cells auP.cells.toArray 48 (0, 0))) ?_
  have k0 : w2.drew.heap[A]? = some (.cells (acs r1 r2 r3) 68 (0, 0)) ∧ DSet w2.drew r2 [] ∧ w2.drew.heap[g3]? = some (.cells auP.cells.toArray 48 (0, 0)) := ⟨m0.1.blk, m0.1.met, m0.2.1⟩
  refine rgd_pure 0 (some 9) rfl rfl (.pointer (some ⟨A, 0, none⟩)) (by kernel_rfl) (by kernel_rfl) (by kernel_rfl) (fun _ _ _ _ h => h) (by kernel_rfl) (fun w => by kernel_rfl) k0 ?_
  refine rgd_pure 1 (some 10) rfl rfl (.pointer (some ⟨A, 0, none⟩)) (by kernel_rfl) (by kernel_rfl) (by kernel_rfl) (fun _ _ _ _ h => h) (by kernel_rfl) (fun w => by kernel_rfl) k0 ?_
  refine rgd_pure 2 (some 11) rfl rfl (.pointer (some ⟨A, 66, none⟩)) (by kernel_rfl) (by kernel_rfl) (by kernel_rfl) (fun _ _ _ _ h => h) (by kernel_rfl) (fun w => by kernel_rfl) k0 ?_
  refine rgd_pureS 3 (some 12) rfl rfl (.map (some r3)) (by kernel_rfl) (by kernel_rfl) (by kernel_rfl) (fun _ _ _ _ h => h) (by kernel_rfl) (fun U hU => exec_load1 _ _ rfl Tryd.underlying66 rfl ⟨A, 66, none⟩ _ (by kernel_rfl) (front_at hU.1 2)) k0 ?_
  refine rgd_pure 4 (some 13) rfl rfl (.pointer (some ⟨g3, 0, none⟩)) (by kernel_rfl) (by kernel_rfl) (by kernel_rfl) (fun _ _ _ _ h => h) (by kernel_rfl) (fun w => by kernel_rfl) k0 ?_
  refine rgd_pure 5 (some 14) rfl rfl (.pointer (some ⟨g3, 0, none⟩)) (by kernel_rfl) (by kernel_rfl) (by kernel_rfl) (fun _ _ _ _ h => h) (by kernel_rfl) (fun w => by kernel_rfl) k0 ?_
  refine rgd_pureS 6 (some 15) rfl rfl (.int .i64 0) (by kernel_rfl) (by kernel_rfl) (by kernel_rfl) (fun _ _ _ _ h => h) (by kernel_rfl) (fun U hU => exec_load1 _ _ rfl Tryd.underlying3 rfl ⟨g3, 0, none⟩ _ (by kernel_rfl) (cell_of_row _ g3 0 _ _ _ hU.2.2)) k0 ?_
  refine rgd_pure 7 (some 16) rfl rfl (.pointer (some ⟨g3, 0, none⟩)) (by kernel_rfl) (by kernel_rfl) (by kernel_rfl) (fun _ _ _ _ h => h) (by kernel_rfl) (fun w => by kernel_rfl) k0 ?_
  refine rgd_pure 8 (some 17) rfl rfl (.pointer (some ⟨g3, 1, none⟩)) (by kernel_rfl) (by kernel_rfl) (by kernel_rfl) (fun _ _ _ _ h => h) (by kernel_rfl) (fun w => by kernel_rfl) k0 ?_
  refine rgd_pureS 9 (some 18) rfl rfl (.int .i64 1) (by kernel_rfl) (by kernel_rfl) (by kernel_rfl) (fun _ _ _ _ h => h) (by kernel_rfl) (fun U hU => exec_load1 _ _ rfl Tryd.underlying3 rfl ⟨g3, 1, none⟩ _ (by kernel_rfl) (cell_of_row _ g3 1 _ _ _ hU.2.2)) k0 ?_
  have up := run_update_absent (T := 66) Tryd.underlying66 Tryd.underlying3 m0.1.last 0 (.int .i64 1) (fun e he => by cases he)
  have gr := mapTo_grown w2.drew r3 (.map (ents ([] ++ [(0, Value.int .i64 1, 0)])).toArray (0 + 1))
  generalize mapTo w2.drew r3 (.map (ents ([] ++ [(0, Value.int .i64 1, 0)])).toArray (0 + 1)) = U1 at up gr
  have k1 : U1.heap[A]? = some (.cells (acs r1 r2 r3) 68 (0, 0)) ∧ DSet U1 r2 [] ∧ U1.heap[g3]? = some (.cells auP.cells.toArray 48 (0, 0)) := ⟨(gr.block A (Array.getElem?_eq_some_iff.1 k0.1).1 (by simpa using nA)).trans k0.1, k0.2.1.kept gr (by simpa using hne), (gr.block g3 (Array.getElem?_eq_some_iff.1 k0.2.2).1 (by simpa using nG)).trans k0.2.2⟩
  refine rgd_do 10 none (by kernel_rfl) rfl rfl (by kernel_rfl) U1 (exec_putR 66 _ _ _ rfl (.map (some r3)) (.int .i64 0) (.int .i64 1) (by kernel_rfl) (by kernel_rfl) (by kernel_rfl) up) k1 ?_
  have BU : Hid (∀ B, B ≤ r3 → B ≤ w.heap.size → Below B w U1) := Lib.hid fun B h1 h2 => (m0.2.2.mono h2).trans (grown_below gr (Nat.le_trans h2 m0.2.2.size) h1)
  have GU : Hid (w.heap.size ≤ U1.heap.size ∧ ∀ g, g < w.heap.size → g ≠ r3 → U1.heap[g]? = w.heap[g]?) := Lib.hid ⟨Nat.le_trans m0.2.2.size gr.size, fun g h1 h2 => (gr.block g (Nat.lt_of_lt_of_le h1 m0.2.2.size) (by simpa using h2)).trans (m0.2.2.block g h1)⟩
  have M := Lib.hid k1
  clear k0 m0 up gr nA nG F2 D2
  have KE : K3 { tmps := #[.pointer (some ⟨A, 0, none⟩), .agg auP.cells.toArray, undef, .pointer (some ⟨g3, 0, none⟩), .pointer (some ⟨A, 0, none⟩), .pointer (some ⟨g3, 0, none⟩), .agg (dcs 0 1), .bool false, .bool true, .pointer (some ⟨A, 0, none⟩), .pointer (some ⟨A, 0, none⟩), .pointer (some ⟨A, 66, none⟩), .map (some r3), .pointer (some ⟨g3, 0, none⟩), .pointer (some ⟨g3, 0, none⟩), .int .i64 0, .pointer (some ⟨g3, 0, none⟩), .pointer (some ⟨g3, 1, none⟩), .int .i64 1, undef, undef, undef, undef, undef, undef, undef], defers := [] } U1 := by
    refine hK3 _ _ ?_
    clear hK3 k1
    go_wp2_with fail
    have k0 : U1.drew.heap[A]? = some (.cells (acs r1 r2 r3) 68 (0, 0)) ∧ DSet U1.drew r2 [] ∧ U1.drew.heap[g3]? = some (.cells auP.cells.toArray 48 (0, 0)) := ⟨M.out.1, M.out.2.1.later (w := U1) (to_drew (Below.refl _ _)), M.out.2.2⟩
    have bd : Below U1.heap.size U1 U1.drew := to_drew (Below.refl _ _)
    obtain ⟨U2, up, ds2, gr⟩ := run_dput k0.2.1 (0, 1)
    have K0 : U1.drew.heap[A]? = some (.cells (acs r1 r2 r3) 68 (0, 0)) ∧ (∃ D, DSet U1.drew r2 D) ∧ U1.drew.heap[g3]? = some (.cells auP.cells.toArray 48 (0, 0)) := ⟨k0.1, ⟨[], k0.2.1⟩, k0.2.2⟩
    refine rg_last (by kernel_rfl) rfl (S := fun U => U.heap[A]? = some (.cells (acs r1 r2 r3) 68 (0, 0)) ∧ (∃ D, DSet U r2 D) ∧ U.heap[g3]? = some (.cells auP.cells.toArray 48 (0, 0))) ?_
    refine rgd_pure 0 (some 19) rfl rfl (.pointer (some ⟨A, 0, none⟩)) (by kernel_rfl) (by kernel_rfl) (by kernel_rfl) (fun _ _ _ _ h => h) (by kernel_rfl) (fun w => by kernel_rfl) K0 ?_
    refine rgd_pure 1 (some 20) rfl rfl (.pointer (some ⟨A, 0, none⟩)) (by kernel_rfl) (by kernel_rfl) (by kernel_rfl) (fun _ _ _ _ h => h) (by kernel_rfl) (fun w => by kernel_rfl) K0 ?_
    refine rgd_pure 2 (some 21) rfl rfl (.pointer (some ⟨A, 65, none⟩)) (by kernel_rfl) (by kernel_rfl) (by kernel_rfl) (fun _ _ _ _ h => h) (by kernel_rfl) (fun w => by kernel_rfl) K0 ?_
    refine rgd_pure 4 (some 23) rfl rfl (.pointer (some ⟨g3, 0, none⟩)) (by kernel_rfl) (by kernel_rfl) (by kernel_rfl) (fun _ _ _ _ h => h) (by kernel_rfl) (fun w => by kernel_rfl) K0 ?_
    refine rgd_pure 6 (some 25) rfl rfl (.agg #[]) (by kernel_rfl) (by kernel_rfl) (by kernel_rfl) (fun _ _ _ _ h => h) (by kernel_rfl) (fun w => by kernel_rfl) K0 ?_
    refine rgd_pureS 3 (some 22) rfl rfl (.map (some r2)) (by kernel_rfl) (by kernel_rfl) (by kernel_rfl) (fun _ _ _ _ h => h) (by kernel_rfl) (fun U hU => exec_load1 _ _ rfl Tryd.underlying65 rfl ⟨A, 65, none⟩ _ (by kernel_rfl) (front_at hU.1 1)) K0 ?_
    refine rgd_pureS 5 (some 24) rfl rfl (.agg (dcs 0 1)) (by kernel_rfl) (by kernel_rfl) (by kernel_rfl) (fun _ _ _ _ h => h) (by kernel_rfl) (fun U hU => exec_gload 37 _ rfl g3 0 (by kernel_rfl) (dcs 0 1).toList (au_dot hU.2.2) Tryd.underlying37 rfl (sizeDtA 0 1)) K0 ?_
    have nA : A ≠ r2 := fun e => by have h1 := k0.1; obtain ⟨l, c, h2, _⟩ := k0.2.1; rw [e, h2] at h1; cases h1
    have nG : g3 ≠ r2 := fun e => by have h1 := k0.2.2; obtain ⟨l, c, h2, _⟩ := k0.2.1; rw [e, h2] at h1; cases h1
    refine rgd_do 7 none (by kernel_rfl) rfl rfl (by kernel_rfl) U2 (exec_putR 65 _ _ _ rfl (.map (some r2)) (.agg (dcs 0 1)) (.agg #[]) (by kernel_rfl) (by kernel_rfl) (by kernel_rfl) up) ⟨(gr.block A (Array.getElem?_eq_some_iff.1 k0.1).1 (by simpa using nA)).trans k0.1, ⟨[(0, 1)], ds2⟩, (gr.block g3 (Array.getElem?_eq_some_iff.1 k0.2.2).1 (by simpa using nG)).trans k0.2.2⟩ ?_
    have BF : Hid (∀ B, B ≤ r2 → B ≤ r3 → B ≤ w.heap.size → Below B w U2) := Lib.hid fun B h1 h2 h3 => ((BU.out B h2 h3).trans (bd.mono (Nat.le_trans h3 (BU.out B h2 h3).size))).trans (grown_below gr (Nat.le_trans (Nat.le_trans h3 (BU.out B h2 h3).size) bd.size) h1)
    have GF : Hid (∀ g, g < w.heap.size → g ≠ r2 → g ≠ r3 → U2.heap[g]? = w.heap[g]?) := Lib.hid fun g h1 h2 h3 => ((gr.block g (Nat.lt_of_lt_of_le (Nat.lt_of_lt_of_le h1 GU.out.1) bd.size) (by simpa using h2)).trans (bd.block g (Nat.lt_of_lt_of_le h1 GU.out.1))).trans (GU.out.2 g h1 h3)
    refine wpAnyH_done (by kernel_rfl) ?_ _
    exact bodyPost_end (results_none rfl _ _ _) rfl ⟨⟨_, rfl⟩, BF.out, GF.out⟩
  exact wpAnyH_done (by kernel_rfl) (Eq.mp (by kernel_rfl) KE) _
end Go.Proofs.YtkpldjiloinaoaaDoor
/- audit.Look of nothing, and of the example's event. -/
namespace Go.Proofs.YtkpldjiloinaoaaDoor
open Go Go.RowKit
set_option linter.unusedVariables false
set_option maxRecDepth 1000000

theorem vle0 : vle (fun _ => 0) (fun _ => 0) = true := (vle_iff _ _).2 fun i _ => by omega
theorem canIs0 (w : World) (hT : Shapes w) : Calls Tryd.prog 13 #[.agg (scs (fun _ => 0) (.slice none 0 0))] w (RetBool w true) := by
  have h := docCan_is (fun _ => 0) none 0 [] w ⟨fun h => absurd rfl h, fun _ => rfl⟩ hT
  rw [canNone] at h
  exact h
theorem within0 (w : World) : Calls Tryd.prog 14 #[.agg (vf fun _ => 0), .agg (vf fun _ => 0)] w (RetBool w true) := by
  have h := ownWithin_is (fun _ => 0) (fun _ => 0) w
  rw [vle0] at h
  exact h
theorem infoTr : (Tryd.prog.info? 39).map (fun i => (i.zero, i.size, i.bytes)) = some (some (.agg #[.int .i64 0, .int .i64 0, .int .i64 0]), 3, 24) := by kernel_rfl
section
variable {ops : Array Oper} {rest : List Oper} {o : Oper} {a : Act} {Q : Exit → Act → World → Prop}
theorem wpList_trs (w : World) (hg : o.guard = none) (s x : Operand) (ho : o.op = .call { callee := .builtin .append, args := #[s, x], argTypes := #[30, 30] })
    (B n : Nat) (xs : List Value) (v : Value) (hs : a.eval s = v) (hown : w.ownsRow B 39 3 v n xs) (cs : List Value) (h3 : cs.length = 3) (h1 : ∀ u ∈ cs, u.oneCell' = true) (hx : a.eval x = .slice (some ⟨w.heap.size, 0, none⟩) 1 1)
    (hlen : n + 1 ≤ 1000000) (hB : B ≤ w.heap.size)
    (h : ∀ v' w', w'.ownsRow B 39 3 v' (n + 1) (xs ++ cs) → Below B w w' → wpList Tryd.prog ops Q rest (a.put o.dst v') w') : wpList Tryd.prog ops Q (o :: rest) a (w.alloc (.cells cs.toArray 39)) := by
  obtain ⟨i0, hi, hz0, hz1, hz2⟩ := info_parts infoTr
  refine wpList_append_own _ hg s x 30 ho B 39 i0 _ 3 24 Tryd.underlying30 hi hz0 hz1 hz2 rfl (by decide) v n xs hs (hown.alloc _) ⟨w.heap.size, 0, none⟩ 1 1 cs hx (by rw [h3]) ?_ h1 (by unfold maxLen; omega) (by omega) (by simp; omega) ?_
  · intro j u hu
    rw [Addr.add_mid]
    exact range_of_block (heap_alloc_new w (.cells cs.toArray 39)) j u hu
  · intro v' w' q1 q2 _
    exact h v' w' q1 (((Below.refl B w).alloc hB _).grown q2 (by simp; omega) (fun k hk => (hown.lt k hk).1))
end
/-- a row of troubles stays where only the maps turn -/
theorem own_past {w w' : World} {B n A r1 r2 r3 : Nat} {v : Value} {xs : List Value} (h : w.ownsRow B 39 3 v n xs) (hF : Front w A r1 r2 r3) (hg : ∀ g, g < w.heap.size → g ≠ r2 → g ≠ r3 → w'.heap[g]? = w.heap[g]?) : w'.ownsRow B 39 3 v n xs := by
  refine ⟨h.1, ?_⟩
  rcases h.2 with q | ⟨g, cap, cur, rfl, hB, hc, q⟩
  · exact .inl q
  · refine .inr ⟨g, cap, cur, rfl, hB, ?_, q⟩
    rw [hg g (Array.getElem?_eq_some_iff.1 hc).1 (fun e => by obtain ⟨l, c, h2, _⟩ := hF.met; rw [e, h2] at hc; cases hc) (fun e => by have h2 := hF.last; rw [e, h2] at hc; cases hc)]
    exact hc
def LookR (w : World) (e : Ending) (w' : World) : Prop := ∃ v, e = .returned v ∧ w'.ownsRow w.heap.size 39 3 v 1 [.int .i64 3, .int .i64 0, .int .i64 1] ∧ Below w.heap.size w w'
set_option maxHeartbeats 2000000 in
theorem look0_is (w : World) (hT : Shapes w) : Calls Tryd.prog 7 #[.agg (scs (fun _ => 0) (.slice none 0 0)), .agg (pcs (.slice none 0 0) (fun _ => 0))] w fun e w' => e = .returned (.slice none 0 0) ∧ Below w.heap.size w w' := by
  have HT := Lib.hid hT
  clear hT
  go_enter Tryd.func7, Tryd.ntmps7
  go_wp2_with (refine wpList_gbox rfl _ rfl (scs (fun _ => 0) (.slice none 0 0)) rfl ?_)
  intro g2 w1 l2 h2 hb1
  have S1 : Hid (Sx w1 g2 (fun _ => 0) (.slice none 0 0)) := Lib.hid h2
  have B1 := Lib.hid hb1
  clear h2 hb1
  go_wp2_with (refine wpList_gbox rfl _ rfl (pcs (.slice none 0 0) (fun _ => 0)) rfl ?_)
  intro g3 w2 l3 h3 hb2
  have P2 : Hid (Px w2 g3 (.slice none 0 0) (fun _ => 0)) := Lib.hid h3
  have S2 := Lib.hid (S1.out.later hb2); have B2 := Lib.hid (thenBelow B1.out hb2)
  have SW := Lib.hid S2.out.whole
  clear h3 hb2 S1 B1
  go_wp2_with (refine wpList_gload (t := 26) rfl _ rfl g2 0 rfl _ SW.out _ Tryd.underlying26 rfl (sizeStl _ _) ?_)
  refine (canIs0 w2 (HT.out.below B2.out)).mono ?_
  rintro e w3 ⟨rfl, hb3⟩
  have S3 := Lib.hid (S2.out.later hb3); have P3 := Lib.hid (P2.out.later hb3); have B3 := Lib.hid (thenBelow B2.out hb3)
  have SV := Lib.hid S3.out.vec; have PF := Lib.hid P3.out.floor
  clear hb3 S2 P2 B2 SW
  go_wp2_with (first | refine wpList_gload (t := 23) rfl _ rfl g3 1 rfl _ PF.out _ Tryd.underlying23 rfl (sizeVcl _) ?_ | refine wpList_gload (t := 23) rfl _ rfl g2 0 rfl _ SV.out _ Tryd.underlying23 rfl (sizeVcl _) ?_)
  refine (within0 w3).mono ?_
  rintro e w4 ⟨rfl, hb4⟩
  have S4 := Lib.hid (S3.out.later hb4); have P4 := Lib.hid (P3.out.later hb4); have B4 := Lib.hid (thenBelow B3.out hb4)
  have SW := Lib.hid S4.out.whole
  clear hb4 S3 P3 B3 SV PF
  go_wp2_with (refine wpList_gload (t := 26) rfl _ rfl g2 0 rfl _ SW.out _ Tryd.underlying26 rfl (sizeStl _ _) ?_)
  refine (begin_is w4).mono ?_
  rintro e w5 ⟨A, r1, r2, r3, rfl, fr, hA, h1, h2, h3, hne, hb5⟩
  have P5 := Lib.hid (P4.out.later hb5); have B5 := Lib.hid (thenBelow B4.out hb5)
  clear fr hA h1 h2 h3 hne hb5 S4 P4 B4 SW HT
  have k0 := P5.out.slot
  go_wp2
  clear k0
  go_loopw [5, 33] (fun v i wr => v = .slice none 0 0 ∧ i = .int .i64 0 ∧ wr = w5) (fun _ _ _ => 0)
  case atStart => exact ⟨rfl, rfl, rfl⟩
  case round =>
    obtain ⟨rfl, rfl, rfl⟩ := hrel
    go_wp2
    go_ret
    exact ⟨rfl, B5.out⟩
set_option maxHeartbeats 2000000 in
theorem look1_is (b c : Nat) (w : World) (hE : w.rangeAt b 0 auP.cells) (hT : Shapes w) : Calls Tryd.prog 7 #[.agg (scs (fun _ => 0) (.slice none 0 0)), .agg (pcs (.slice (some ⟨b, 0, none⟩) 1 c) (fun _ => 0))] w (LookR w) := by
  have HT := Lib.hid hT; have HE := Lib.hid hE
  clear hT hE
  go_enter Tryd.func7, Tryd.ntmps7
  go_wp2_with (refine wpList_gbox rfl _ rfl (scs (fun _ => 0) (.slice none 0 0)) rfl ?_)
  intro g2 w1 l2 h2 hb1
  have S1 : Hid (Sx w1 g2 (fun _ => 0) (.slice none 0 0)) := Lib.hid h2
  have B1 := Lib.hid hb1
  clear h2 hb1
  go_wp2_with (refine wpList_gbox rfl _ rfl (pcs (.slice (some ⟨b, 0, none⟩) 1 c) (fun _ => 0)) rfl ?_)
  intro g3 w2 l3 h3 hb2
  have P2 : Hid (Px w2 g3 (.slice (some ⟨b, 0, none⟩) 1 c) (fun _ => 0)) := Lib.hid h3
  have S2 := Lib.hid (S1.out.later hb2); have B2 := Lib.hid (thenBelow B1.out hb2)
  have SW := Lib.hid S2.out.whole
  clear h3 hb2 S1 B1
  go_wp2_with (refine wpList_gload (t := 26) rfl _ rfl g2 0 rfl _ SW.out _ Tryd.underlying26 rfl (sizeStl _ _) ?_)
  refine (canIs0 w2 (HT.out.below B2.out)).mono ?_
  rintro e w3 ⟨rfl, hb3⟩
  have S3 := Lib.hid (S2.out.later hb3); have P3 := Lib.hid (P2.out.later hb3); have B3 := Lib.hid (thenBelow B2.out hb3)
  have SV := Lib.hid S3.out.vec; have PF := Lib.hid P3.out.floor
  clear hb3 S2 P2 B2 SW
  go_wp2_with (first | refine wpList_gload (t := 23) rfl _ rfl g3 1 rfl _ PF.out _ Tryd.underlying23 rfl (sizeVcl _) ?_ | refine wpList_gload (t := 23) rfl _ rfl g2 0 rfl _ SV.out _ Tryd.underlying23 rfl (sizeVcl _) ?_)
  refine (within0 w3).mono ?_
  rintro e w4 ⟨rfl, hb4⟩
  have S4 := Lib.hid (S3.out.later hb4); have P4 := Lib.hid (P3.out.later hb4); have B4 := Lib.hid (thenBelow B3.out hb4)
  have SW := Lib.hid S4.out.whole
  clear hb4 S3 P3 B3 SV PF
  go_wp2_with (refine wpList_gload (t := 26) rfl _ rfl g2 0 rfl _ SW.out _ Tryd.underlying26 rfl (sizeStl _ _) ?_)
  refine (begin_is w4).mono ?_
  rintro e w5 ⟨A, r1, r2, r3, rfl, fr, hA, h1, h2, h3, hne, hb5⟩
  have P5 := Lib.hid (P4.out.later hb5); have B5 := Lib.hid (thenBelow B4.out hb5); have F5 := Lib.hid fr
  have z2 := Nat.le_trans B4.out.size h2; have z3 := Nat.le_trans B4.out.size h3
  clear fr hA h1 h2 h3 hb5 S4 P4 B4 SW
  have k0 := P5.out.slot
  go_wp2
  clear k0 P5
  go_loopw [5, 33] (fun v i wr => (v = .slice none 0 0 ∧ i = .int .i64 0 ∧ wr = w5) ∨ (i = .int .i64 1 ∧ wr.ownsRow w.heap.size 39 3 v 1 [.int .i64 3, .int .i64 0, .int .i64 1] ∧ Below w.heap.size w wr)) (fun _ i _ => 1 - (RowKit.intOf i).toNat)
  case atStart => exact .inl ⟨rfl, rfl, rfl⟩
  case round =>
    rcases hrel with ⟨rfl, rfl, rfl⟩ | ⟨rfl, ow, hb⟩
    · have Q5 := Lib.hid (range_below HE.out B5.out)
      go_wp2_with (first | refine wpList_gload (t := 48) rfl _ rfl b 0 rfl _ Q5.out _ Tryd.underlying48 rfl (sizeEvA auP) ?_ | refine wpList_galloc (t := 48) _ zeroEvA rfl rfl ?_)
      intro g8 w6 l8 h8 hb6
      have B6 := Lib.hid (thenBelow B5.out hb6); have W6 := Lib.hid hb6; have E6 := Lib.hid h8
      have l8W := Nat.le_trans B5.out.size l8
      clear h8 hb6 Q5
      go_wp2_with (refine wpList_gstore (t := 48) rfl _ _ rfl g8 rfl auP.cells.toArray rfl _ _ E6.out (by rw [List.size_toArray]; exact sizeEvA auP) rfl (fun v hv => auP.cells_one v (by simpa using hv)) ?_)
      intro w7 h7 gr7
      have BW7 := Lib.hid (W6.out.trans (grown_below gr7 W6.out.size l8))
      have F7 := Lib.hid (F5.out.later BW7.out); have B7 := Lib.hid (thenBelow B5.out BW7.out)
      have E7 : Hid (w7.heap[g8]? = some (.cells auP.cells.toArray 48 (0, 0))) := Lib.hid h7
      have R7 : Hid (w7.rangeAt g8 0 auP.cells) := Lib.hid (range_of_block h7)
      have WR := Lib.hid (wrong_is A r1 r2 r3 w7 F7.out (HT.out.below B7.out))
      clear h7 gr7 B6 W6 E6 BW7 F5 B5 HT HE
      go_wp2_with (refine wpList_gload (t := 48) rfl _ rfl g8 0 rfl _ R7.out _ Tryd.underlying48 rfl (sizeEvA auP) ?_)
      refine WR.out.mono ?_
      rintro e w8 ⟨v8, he8, o8, hb8⟩
      have F8 := Lib.hid (F7.out.later hb8); have B8 := Lib.hid (thenBelow B7.out hb8)
      have E8 : Hid (w8.heap[g8]? = some (.cells auP.cells.toArray 48 (0, 0))) := Lib.hid ((hb8.block g8 (Array.getElem?_eq_some_iff.1 E7.out).1).trans E7.out)
      obtain ⟨-, q8, c8, hv8, -, ls8, -⟩ := own_liesI o8
      have hv9 : v8 = .slice q8 1 c8 := hv8
      clear hv8
      subst hv9
      obtain ⟨d8, of8, rfl, hd8, hc8⟩ := ls8.at (by simp)
      subst he8
      have C8 : Hid (w8.cell? ⟨d8, of8, none⟩ = some (.int .i64 3)) := Lib.hid (hc8 0 (by simp))
      clear hb8 o8 ls8 hc8 hd8 F7 B7 E7 R7 WR
      have R8 : Hid (w8.rangeAt g8 0 (dcs 0 1).toList) := Lib.hid (au_dot E8.out)
      have B8z := B8.out.size
      dsimp only
      go_wp2
      go_loopw [5, 41] (fun v i wr => (v = .slice none 0 0 ∧ i = .int .i64 0 ∧ wr = w8) ∨ (i = .int .i64 1 ∧ wr.ownsRow w8.heap.size 39 3 v 1 [.int .i64 3, .int .i64 0, .int .i64 1] ∧ Below w8.heap.size w8 wr)) (fun _ i _ => 1 - (RowKit.intOf i).toNat)
      case atStart => exact .inl ⟨rfl, rfl, rfl⟩
      case round =>
        rcases hrel with ⟨rfl, rfl, rfl⟩ | ⟨rfl, ow, hb⟩
        · have c0 := C8.out
          have O0 : Hid (wr.ownsRow wr.heap.size 39 3 (.slice none 0 0) 0 []) := Lib.hid ⟨rfl, .inl ⟨rfl, rfl⟩⟩
          go_wp2_with (first | refine wpList_gload (t := 37) rfl _ rfl g8 0 rfl _ R8.out _ Tryd.underlying37 rfl (sizeDtA 0 1) ?_ | (at_builtin; refine wpList_trs _ rfl _ _ rfl wr.heap.size 0 [] _ rfl O0.out [.int .i64 3, .int .i64 0, .int .i64 1] rfl (by intro u hu; simp at hu; rcases hu with rfl | rfl | rfl <;> rfl) rfl (by omega) (Nat.le_refl _) ?_))
          intro v9 w9 o9 b9
          have O9 := Lib.hid o9; have B9 := Lib.hid b9
          clear o9 b9 c0 O0
          go_wp2
          go_roundw
          case rel => exact .inr ⟨rfl, O9.out, B9.out⟩
          case measure => simp [intOf]
        · have OW := Lib.hid ow; have BR := Lib.hid hb
          have F9 := Lib.hid (F8.out.later hb); have B9 := Lib.hid (thenBelow B8.out hb)
          have E9 : Hid (wr.heap[g8]? = some (.cells auP.cells.toArray 48 (0, 0))) := Lib.hid ((hb.block g8 (Array.getElem?_eq_some_iff.1 E8.out).1).trans E8.out)
          have R9 : Hid (wr.rangeAt g8 0 auP.cells) := Lib.hid (range_of_block E9.out)
          have PS := Lib.hid (pass_is A r1 r2 r3 wr F9.out hne)
          clear ow hb F8 B8 E8 C8 R8
          go_wp2_with (refine wpList_gload (t := 48) rfl _ rfl g8 0 rfl _ R9.out _ Tryd.underlying48 rfl (sizeEvA auP) ?_)
          refine PS.out.mono ?_
          rintro e w9 ⟨⟨v9, rfl⟩, hbs, hgs⟩
          have OF : Hid (w9.ownsRow w.heap.size 39 3 u5 1 [.int .i64 3, .int .i64 0, .int .i64 1]) := Lib.hid (own_base (own_past OW.out F9.out hgs) B8z)
          have BF := Lib.hid (B9.out.trans (hbs _ z2 z3 B9.out.size))
          clear hbs hgs OW BR F9 B9 E9 R9 PS
          go_wp2
          go_roundw
          case rel => exact .inr ⟨rfl, OF.out, BF.out⟩
          case measure => simp [intOf]
    · have OW := Lib.hid ow; have BR := Lib.hid hb
      clear ow hb B5 F5
      go_wp2
      go_ret
      exact ⟨_, rfl, OW.out, BR.out⟩
end Go.Proofs.YtkpldjiloinaoaaDoor
