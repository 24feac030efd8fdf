/- The statement AuditSums, proved for every input that its row reads: part 42 of 54. -/
import Derived.Test.YtehocohpfgabiaaDoorPackAuditSums41
/- The example's event passed. -/
namespace Go.Proofs.YtehocohpfgabiaaDoor
open Go Go.RowKit
set_option linter.unusedVariables false
set_option maxRecDepth 1000000

theorem front_at {w : World} {A r1 r2 r3 : Nat} (h : w.heap[A]? = some (.cells (acs r1 r2 r3) 82 (0, 0))) (i : Nat) : w.cell? ⟨A, 64 + i, none⟩ = ([Value.map (some r1), Value.map (some r2), Value.map (some r3)] : List Value)[i]? := by
  rw [cell_of_row w A (64 + i) _ _ _ h, acs, List.getElem?_toArray, List.getElem?_append_right (by rw [Array.length_toList, vf_size]; omega), Array.length_toList, vf_size, Nat.add_sub_cancel_left]
def PassR (w : World) (r2 r3 : Nat) (e : Ending) (w' : World) : Prop := (∃ v, e = .returned v) ∧ (∀ B, B ≤ r2 → B ≤ r3 → B ≤ w.heap.size → Below B w w') ∧ ∀ g, g < w.heap.size → g ≠ r2 → g ≠ r3 → w'.heap[g]? = w.heap[g]?
set_option maxHeartbeats 4000000 in
theorem pass_is (A r1 r2 r3 : Nat) (w : World) (h : Front w A r1 r2 r3) (hne : r2 ≠ r3) : Calls Tryd.prog 28 #[.pointer (some ⟨A, 0, none⟩), .agg auP.cells.toArray] w (PassR w r2 r3) := by
  have FR := Lib.hid h
  clear h
  go_enter Tryd.func28, Tryd.ntmps28
  go_wp2_with (refine wpList_gbox rfl _ rfl auP.cells.toArray rfl ?_)
  intro g3 w1 l1 h1 hb1
  have F1 := Lib.hid (FR.out.later hb1); have B1 := Lib.hid hb1
  have D1 : Hid (w1.heap[g3]? = some (.cells auP.cells.toArray 48 (0, 0))) := Lib.hid h1
  have Q1 := Lib.hid (au_dot h1)
  have BL := Lib.hid (behindLater_is A r1 r2 r3 w1 F1.out)
  clear hb1 h1 FR
  go_wp2_with (refine wpList_gload rfl _ rfl g3 0 rfl _ Q1.out _ Tryd.underlying39 rfl (sizeDtA 0 1) ?_)
  refine BL.out.mono ?_
  rintro e w2 ⟨rfl, hb2⟩
  have F2 := Lib.hid (F1.out.later hb2); have B2 := Lib.hid (thenBelow B1.out hb2)
  have D2 : Hid (w2.heap[g3]? = some (.cells auP.cells.toArray 48 (0, 0))) := Lib.hid ((hb2.block g3 (Array.getElem?_eq_some_iff.1 D1.out).1).trans D1.out)
  clear hb2 F1 B1 D1 Q1 BL
  go_wp2_with fail
  rename_i K3 hK3
  have m0 : Front w2.drew A r1 r2 r3 ∧ w2.drew.heap[g3]? = some (.cells auP.cells.toArray 48 (0, 0)) ∧ Below w.heap.size w w2.drew := ⟨F2.out.later (w := w2) (to_drew (Below.refl _ _)), D2.out, to_drew B2.out⟩
  have nA : A ≠ r3 := fun e => by have h1 := m0.1.blk; have h2 := m0.1.last; rw [e, h2] at h1; cases h1
  have nG : g3 ≠ r3 := fun e => by have h1 := m0.2.1; have h2 := m0.1.last; rw [e, h2] at h1; cases h1
  refine rg_calm (by kernel_rfl) rfl (S := fun U => U.heap[A]? = some (.cells (acs r1 r2 r3) 82 (0, 0)) ∧ DSet U r2 [] ∧ U.heap[g3]? = some (.cells auP.cells.toArray 48 (0, 0))) ?_
  have k0 : w2.drew.heap[A]? = some (.cells (acs r1 r2 r3) 82 (0, 0)) ∧ DSet w2.drew r2 [] ∧ w2.drew.heap[g3]? = some (.cells auP.cells.toArray 48 (0, 0)) := ⟨m0.1.blk, m0.1.met, m0.2.1⟩
  refine rgd_pure 0 (some 9) rfl rfl (.pointer (some ⟨A, 0, none⟩)) (by kernel_rfl) (by kernel_rfl) (by kernel_rfl) (fun _ _ _ _ h => h) (by kernel_rfl) (fun w => by kernel_rfl) k0 ?_
  refine rgd_pure 1 (some 10) rfl rfl (.pointer (some ⟨A, 0, none⟩)) (by kernel_rfl) (by kernel_rfl) (by kernel_rfl) (fun _ _ _ _ h => h) (by kernel_rfl) (fun w => by kernel_rfl) k0 ?_
  refine rgd_pure 2 (some 11) rfl rfl (.pointer (some ⟨A, 66, none⟩)) (by kernel_rfl) (by kernel_rfl) (by kernel_rfl) (fun _ _ _ _ h => h) (by kernel_rfl) (fun w => by kernel_rfl) k0 ?_
  refine rgd_pureS 3 (some 12) rfl rfl (.map (some r3)) (by kernel_rfl) (by kernel_rfl) (by kernel_rfl) (fun _ _ _ _ h => h) (by kernel_rfl) (fun U hU => exec_load1 _ _ rfl Tryd.underlying80 rfl ⟨A, 66, none⟩ _ (by kernel_rfl) (front_at hU.1 2)) k0 ?_
  refine rgd_pure 4 (some 13) rfl rfl (.pointer (some ⟨g3, 0, none⟩)) (by kernel_rfl) (by kernel_rfl) (by kernel_rfl) (fun _ _ _ _ h => h) (by kernel_rfl) (fun w => by kernel_rfl) k0 ?_
  refine rgd_pure 5 (some 14) rfl rfl (.pointer (some ⟨g3, 0, none⟩)) (by kernel_rfl) (by kernel_rfl) (by kernel_rfl) (fun _ _ _ _ h => h) (by kernel_rfl) (fun w => by kernel_rfl) k0 ?_
  refine rgd_pureS 6 (some 15) rfl rfl (.int .i64 0) (by kernel_rfl) (by kernel_rfl) (by kernel_rfl) (fun _ _ _ _ h => h) (by kernel_rfl) (fun U hU => exec_load1 _ _ rfl Tryd.underlying3 rfl ⟨g3, 0, none⟩ _ (by kernel_rfl) (cell_of_row _ g3 0 _ _ _ hU.2.2)) k0 ?_
  refine rgd_pure 7 (some 16) rfl rfl (.pointer (some ⟨g3, 0, none⟩)) (by kernel_rfl) (by kernel_rfl) (by kernel_rfl) (fun _ _ _ _ h => h) (by kernel_rfl) (fun w => by kernel_rfl) k0 ?_
  refine rgd_pure 8 (some 17) rfl rfl (.pointer (some ⟨g3, 1, none⟩)) (by kernel_rfl) (by kernel_rfl) (by kernel_rfl) (fun _ _ _ _ h => h) (by kernel_rfl) (fun w => by kernel_rfl) k0 ?_
  refine rgd_pureS 9 (some 18) rfl rfl (.int .i64 1) (by kernel_rfl) (by kernel_rfl) (by kernel_rfl) (fun _ _ _ _ h => h) (by kernel_rfl) (fun U hU => exec_load1 _ _ rfl Tryd.underlying3 rfl ⟨g3, 1, none⟩ _ (by kernel_rfl) (cell_of_row _ g3 1 _ _ _ hU.2.2)) k0 ?_
  have up := run_update_absent (T := 80) Tryd.underlying80 Tryd.underlying3 m0.1.last 0 (.int .i64 1) (fun e he => by cases he)
  have gr := mapTo_grown w2.drew r3 (.map (ents ([] ++ [(0, Value.int .i64 1, 0)])).toArray (0 + 1))
  generalize mapTo w2.drew r3 (.map (ents ([] ++ [(0, Value.int .i64 1, 0)])).toArray (0 + 1)) = U1 at up gr
  have k1 : U1.heap[A]? = some (.cells (acs r1 r2 r3) 82 (0, 0)) ∧ DSet U1 r2 [] ∧ U1.heap[g3]? = some (.cells auP.cells.toArray 48 (0, 0)) := ⟨(gr.block A (Array.getElem?_eq_some_iff.1 k0.1).1 (by simpa using nA)).trans k0.1, k0.2.1.kept gr (by simpa using hne), (gr.block g3 (Array.getElem?_eq_some_iff.1 k0.2.2).1 (by simpa using nG)).trans k0.2.2⟩
  refine rgd_do 10 none (by kernel_rfl) rfl rfl (by kernel_rfl) U1 (exec_putR 80 _ _ _ rfl (.map (some r3)) (.int .i64 0) (.int .i64 1) (by kernel_rfl) (by kernel_rfl) (by kernel_rfl) up) k1 ?_
  have BU : Hid (∀ B, B ≤ r3 → B ≤ w.heap.size → Below B w U1) := Lib.hid fun B h1 h2 => (m0.2.2.mono h2).trans (grown_below gr (Nat.le_trans h2 m0.2.2.size) h1)
  have GU : Hid (w.heap.size ≤ U1.heap.size ∧ ∀ g, g < w.heap.size → g ≠ r3 → U1.heap[g]? = w.heap[g]?) := Lib.hid ⟨Nat.le_trans m0.2.2.size gr.size, fun g h1 h2 => (gr.block g (Nat.lt_of_lt_of_le h1 m0.2.2.size) (by simpa using h2)).trans (m0.2.2.block g h1)⟩
  have M := Lib.hid k1
  clear k0 m0 up gr nA nG F2 D2
  have KE : K3 { tmps := #[.pointer (some ⟨A, 0, none⟩), .agg auP.cells.toArray, undef, .pointer (some ⟨g3, 0, none⟩), .pointer (some ⟨A, 0, none⟩), .pointer (some ⟨g3, 0, none⟩), .agg (dcs 0 1), .bool false, .bool true, .pointer (some ⟨A, 0, none⟩), .pointer (some ⟨A, 0, none⟩), .pointer (some ⟨A, 66, none⟩), .map (some r3), .pointer (some ⟨g3, 0, none⟩), .pointer (some ⟨g3, 0, none⟩), .int .i64 0, .pointer (some ⟨g3, 0, none⟩), .pointer (some ⟨g3, 1, none⟩), .int .i64 1, undef, undef, undef, undef, undef, undef, undef], defers := [] } U1 := by
    refine hK3 _ _ ?_
    clear hK3 k1
    go_wp2_with fail
    have k0 : U1.drew.heap[A]? = some (.cells (acs r1 r2 r3) 82 (0, 0)) ∧ DSet U1.drew r2 [] ∧ U1.drew.heap[g3]? = some (.cells auP.cells.toArray 48 (0, 0)) := ⟨M.out.1, M.out.2.1.later (w := U1) (to_drew (Below.refl _ _)), M.out.2.2⟩
    have bd : Below U1.heap.size U1 U1.drew := to_drew (Below.refl _ _)
    obtain ⟨U2, up, ds2, gr⟩ := run_dput k0.2.1 (0, 1)
    have K0 : U1.drew.heap[A]? = some (.cells (acs r1 r2 r3) 82 (0, 0)) ∧ (∃ D, DSet U1.drew r2 D) ∧ U1.drew.heap[g3]? = some (.cells auP.cells.toArray 48 (0, 0)) := ⟨k0.1, ⟨[], k0.2.1⟩, k0.2.2⟩
    refine rg_last (by kernel_rfl) rfl (S := fun U => U.heap[A]? = some (.cells (acs r1 r2 r3) 82 (0, 0)) ∧ (∃ D, DSet U r2 D) ∧ U.heap[g3]? = some (.cells auP.cells.toArray 48 (0, 0))) ?_
    refine rgd_pure 0 (some 19) rfl rfl (.pointer (some ⟨A, 0, none⟩)) (by kernel_rfl) (by kernel_rfl) (by kernel_rfl) (fun _ _ _ _ h => h) (by kernel_rfl) (fun w => by kernel_rfl) K0 ?_
    refine rgd_pure 1 (some 20) rfl rfl (.pointer (some ⟨A, 0, none⟩)) (by kernel_rfl) (by kernel_rfl) (by kernel_rfl) (fun _ _ _ _ h => h) (by kernel_rfl) (fun w => by kernel_rfl) K0 ?_
    refine rgd_pure 2 (some 21) rfl rfl (.pointer (some ⟨A, 65, none⟩)) (by kernel_rfl) (by kernel_rfl) (by kernel_rfl) (fun _ _ _ _ h => h) (by kernel_rfl) (fun w => by kernel_rfl) K0 ?_
    refine rgd_pure 4 (some 23) rfl rfl (.pointer (some ⟨g3, 0, none⟩)) (by kernel_rfl) (by kernel_rfl) (by kernel_rfl) (fun _ _ _ _ h => h) (by kernel_rfl) (fun w => by kernel_rfl) K0 ?_
    refine rgd_pure 6 (some 25) rfl rfl (.agg #[]) (by kernel_rfl) (by kernel_rfl) (by kernel_rfl) (fun _ _ _ _ h => h) (by kernel_rfl) (fun w => by kernel_rfl) K0 ?_
    refine rgd_pureS 3 (some 22) rfl rfl (.map (some r2)) (by kernel_rfl) (by kernel_rfl) (by kernel_rfl) (fun _ _ _ _ h => h) (by kernel_rfl) (fun U hU => exec_load1 _ _ rfl Tryd.underlying79 rfl ⟨A, 65, none⟩ _ (by kernel_rfl) (front_at hU.1 1)) K0 ?_
    refine rgd_pureS 5 (some 24) rfl rfl (.agg (dcs 0 1)) (by kernel_rfl) (by kernel_rfl) (by kernel_rfl) (fun _ _ _ _ h => h) (by kernel_rfl) (fun U hU => exec_gload 39 _ rfl g3 0 (by kernel_rfl) (dcs 0 1).toList (au_dot hU.2.2) Tryd.underlying39 rfl (sizeDtA 0 1)) K0 ?_
    have nA : A ≠ r2 := fun e => by have h1 := k0.1; obtain ⟨l, c, h2, _⟩ := k0.2.1; rw [e, h2] at h1; cases h1
    have nG : g3 ≠ r2 := fun e => by have h1 := k0.2.2; obtain ⟨l, c, h2, _⟩ := k0.2.1; rw [e, h2] at h1; cases h1
    refine rgd_do 7 none (by kernel_rfl) rfl rfl (by kernel_rfl) U2 (exec_putR 79 _ _ _ rfl (.map (some r2)) (.agg (dcs 0 1)) (.agg #[]) (by kernel_rfl) (by kernel_rfl) (by kernel_rfl) up) ⟨(gr.block A (Array.getElem?_eq_some_iff.1 k0.1).1 (by simpa using nA)).trans k0.1, ⟨[(0, 1)], ds2⟩, (gr.block g3 (Array.getElem?_eq_some_iff.1 k0.2.2).1 (by simpa using nG)).trans k0.2.2⟩ ?_
    have BF : Hid (∀ B, B ≤ r2 → B ≤ r3 → B ≤ w.heap.size → Below B w U2) := Lib.hid fun B h1 h2 h3 => ((BU.out B h2 h3).trans (bd.mono (Nat.le_trans h3 (BU.out B h2 h3).size))).trans (grown_below gr (Nat.le_trans (Nat.le_trans h3 (BU.out B h2 h3).size) bd.size) h1)
    have GF : Hid (∀ g, g < w.heap.size → g ≠ r2 → g ≠ r3 → U2.heap[g]? = w.heap[g]?) := Lib.hid fun g h1 h2 h3 => ((gr.block g (Nat.lt_of_lt_of_le (Nat.lt_of_lt_of_le h1 GU.out.1) bd.size) (by simpa using h2)).trans (bd.block g (Nat.lt_of_lt_of_le h1 GU.out.1))).trans (GU.out.2 g h1 h3)
    refine wpAnyH_done (by kernel_rfl) ?_ _
    exact bodyPost_end (results_none rfl _ _ _) rfl ⟨⟨_, rfl⟩, BF.out, GF.out⟩
  exact wpAnyH_done (by kernel_rfl) (Eq.mp (by kernel_rfl) KE) _
end Go.Proofs.YtehocohpfgabiaaDoor
