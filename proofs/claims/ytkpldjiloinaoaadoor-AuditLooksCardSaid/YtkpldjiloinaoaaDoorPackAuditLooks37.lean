/- The statement AuditLooks, proved for every input that its row reads: part 37 of 54. -/
import Derived.Test.YtkpldjiloinaoaaDoorPackAuditLooks36
/- Any event passed. -/
namespace Go.Proofs.YtkpldjiloinaoaaDoor
open Go Go.RowKit
set_option linter.unusedVariables false
set_option maxRecDepth 1000000

def PassG (w : World) (A r1 r2 r3 : Nat) (F : Nat → Int) (S M : List Dt) (e : Ending) (w' : World) : Prop := (∃ v, e = .returned v) ∧ Frg w' A r1 r2 r3 F S M ∧ (∀ B, B ≤ r2 → B ≤ r3 → B ≤ w.heap.size → Below B w w') ∧ ∀ g, g < w.heap.size → g ≠ r2 → g ≠ r3 → w'.heap[g]? = w.heap[g]?
set_option maxHeartbeats 4000000 in
theorem passG_is (A r1 r2 r3 : Nat) (F : Nat → Int) (S M : List Dt) (x : EvP) (w : World) (h : Frg w A r1 r2 r3 F S M) (n12 : r1 ≠ r2) (n13 : r1 ≠ r3) (n23 : r2 ≠ r3) : Calls Tryd.prog 17 #[.pointer (some ⟨A, 0, none⟩), .agg x.cells.toArray] w (PassG w A r1 r2 r3 F S (M ++ [(x.e.rep, x.e.n)])) := by
  have n23 : r3 ≠ r2 := Ne.symm n23
  have n12 : r2 ≠ r1 := Ne.symm n12
  have FR := Lib.hid h
  clear h
  go_enter Tryd.func17, Tryd.ntmps17
  go_wp2_with (refine wpList_gbox rfl _ rfl x.cells.toArray rfl ?_)
  intro g3 w1 l1 h1 hb1
  have F1 := Lib.hid (FR.out.later hb1); have B1 := Lib.hid hb1
  have D1 : Hid (w1.heap[g3]? = some (.cells x.cells.toArray 48 (0, 0))) := Lib.hid h1
  have Q1 := Lib.hid (xv_dot h1)
  have BL := Lib.hid (behindG_is A r1 r2 r3 F S M x.e.rep x.e.n w1 F1.out)
  clear hb1 h1 FR
  go_wp2_with (refine wpList_gload (t := 37) rfl _ rfl g3 0 rfl _ Q1.out _ Tryd.underlying37 rfl (sizeDtA _ _) ?_)
  refine BL.out.mono ?_
  rintro e w2 ⟨rfl, hb2⟩
  have F2 := Lib.hid (F1.out.later hb2); have B2 := Lib.hid (thenBelow B1.out hb2)
  have D2 : Hid (w2.heap[g3]? = some (.cells x.cells.toArray 48 (0, 0))) := Lib.hid ((hb2.block g3 (Array.getElem?_eq_some_iff.1 D1.out).1).trans D1.out)
  clear hb2 F1 B1 D1 Q1 BL
  dsimp only
  cases hbe : behB M x.e.rep x.e.n with
  | true =>
    have GM : Hid (w2.heap[A]? = some (.cells (acg F r1 r2 r3) 68 (0, 0)) ∧ DSet w2 r1 S ∧ DSet w2 r2 M ∧ w2.heap[g3]? = some (.cells x.cells.toArray 48 (0, 0)) ∧ ∃ ml c, w2.heap[r3]? = some (.map (ents ml).toArray c) ∧ LastM ml (M ++ [(x.e.rep, x.e.n)])) := Lib.hid ⟨F2.out.blk, F2.out.live, F2.out.met, D2.out, by obtain ⟨ml, c, hl, hm⟩ := F2.out.last; exact ⟨ml, c, hl, hm.skip hbe⟩⟩
    have BU : Hid (∀ B, B ≤ r3 → B ≤ w.heap.size → Below B w w2) := Lib.hid fun B _ h2 => B2.out.mono h2
    have GU : Hid (w.heap.size ≤ w2.heap.size ∧ ∀ g, g < w.heap.size → g ≠ r3 → w2.heap[g]? = w.heap[g]?) := Lib.hid ⟨B2.out.size, fun g h1 _ => B2.out.block g h1⟩
    clear hbe F2 B2 D2
    generalize w2 = U1 at GM BU GU ⊢
    go_wp2_with fail
    have bd : Below U1.heap.size U1 U1.drew := to_drew (Below.refl _ _)
    have d0 : DSet U1.drew r2 M := GM.out.2.2.1.later (w := U1) bd
    obtain ⟨U2, up, ds2, gr⟩ := run_dput d0 (x.e.rep, x.e.n)
    have K0 : U1.drew.heap[A]? = some (.cells (acg F r1 r2 r3) 68 (0, 0)) ∧ (∃ D, DSet U1.drew r2 D) ∧ U1.drew.heap[g3]? = some (.cells x.cells.toArray 48 (0, 0)) := ⟨GM.out.1, ⟨M, d0⟩, GM.out.2.2.2.1⟩
    have nA : A ≠ r2 := fun e => by have h1 := K0.1; obtain ⟨l, c, h2, _⟩ := d0; rw [e, h2] at h1; cases h1
    have nG : g3 ≠ r2 := fun e => by have h1 := K0.2.2; obtain ⟨l, c, h2, _⟩ := d0; rw [e, h2] at h1; cases h1
    refine rg_last (by kernel_rfl) rfl (S := fun U => U.heap[A]? = some (.cells (acg F r1 r2 r3) 68 (0, 0)) ∧ (∃ D, DSet U r2 D) ∧ U.heap[g3]? = some (.cells x.cells.toArray 48 (0, 0))) ?_
    refine rgd_pure 0 (some 19) rfl rfl (.pointer (some ⟨A, 0, none⟩)) (by kernel_rfl) (by kernel_rfl) (by kernel_rfl) (fun _ _ _ _ h => h) (by kernel_rfl) (fun w => by kernel_rfl) K0 ?_
    refine rgd_pure 1 (some 20) rfl rfl (.pointer (some ⟨A, 0, none⟩)) (by kernel_rfl) (by kernel_rfl) (by kernel_rfl) (fun _ _ _ _ h => h) (by kernel_rfl) (fun w => by kernel_rfl) K0 ?_
    refine rgd_pure 2 (some 21) rfl rfl (.pointer (some ⟨A, 65, none⟩)) (by kernel_rfl) (by kernel_rfl) (by kernel_rfl) (fun _ _ _ _ h => h) (by kernel_rfl) (fun w => by kernel_rfl) K0 ?_
    refine rgd_pure 4 (some 23) rfl rfl (.pointer (some ⟨g3, 0, none⟩)) (by kernel_rfl) (by kernel_rfl) (by kernel_rfl) (fun _ _ _ _ h => h) (by kernel_rfl) (fun w => by kernel_rfl) K0 ?_
    refine rgd_pure 6 (some 25) rfl rfl (.agg #[]) (by kernel_rfl) (by kernel_rfl) (by kernel_rfl) (fun _ _ _ _ h => h) (by kernel_rfl) (fun w => by kernel_rfl) K0 ?_
    refine rgd_pureS 3 (some 22) rfl rfl (.map (some r2)) (by kernel_rfl) (by kernel_rfl) (by kernel_rfl) (fun _ _ _ _ h => h) (by kernel_rfl) (fun U hU => exec_load1 _ _ rfl Tryd.underlying65 rfl ⟨A, 65, none⟩ _ (by kernel_rfl) (acg_at hU.1 1)) K0 ?_
    refine rgd_pureS 5 (some 24) rfl rfl (.agg (dcs x.e.rep x.e.n)) (by kernel_rfl) (by kernel_rfl) (by kernel_rfl) (fun _ _ _ _ h => h) (by kernel_rfl) (fun U hU => exec_gload 37 _ rfl g3 0 (by kernel_rfl) (dcs x.e.rep x.e.n).toList (xv_dot hU.2.2) Tryd.underlying37 rfl (sizeDtA _ _)) K0 ?_
    have a2 := (gr.block A (Array.getElem?_eq_some_iff.1 K0.1).1 (by simpa using nA)).trans K0.1
    refine rgd_do 7 none (by kernel_rfl) rfl rfl (by kernel_rfl) U2 (exec_putR 65 _ _ _ rfl (.map (some r2)) (.agg (dcs x.e.rep x.e.n)) (.agg #[]) (by kernel_rfl) (by kernel_rfl) (by kernel_rfl) up) ⟨a2, ⟨_, ds2⟩, (gr.block g3 (Array.getElem?_eq_some_iff.1 K0.2.2).1 (by simpa using nG)).trans K0.2.2⟩ ?_
    have FF : Hid (Frg U2 A r1 r2 r3 F S (M ++ [(x.e.rep, x.e.n)])) := Lib.hid (by
      obtain ⟨ml', c', hl', hm'⟩ := GM.out.2.2.2.2
      exact ⟨a2, (GM.out.2.1.later (w := U1) bd).kept gr (by simpa using Ne.symm n12), ds2, ml', c', (gr.block r3 (Array.getElem?_eq_some_iff.1 (show U1.drew.heap[r3]? = _ from hl')).1 (by simpa using n23)).trans hl', hm'⟩)
    have BF : Hid (∀ B, B ≤ r2 → B ≤ r3 → B ≤ w.heap.size → Below B w U2) := Lib.hid fun B h1 h2 h3 => ((BU.out B h2 h3).trans (bd.mono (Nat.le_trans h3 (BU.out B h2 h3).size))).trans (grown_below gr (Nat.le_trans (Nat.le_trans h3 (BU.out B h2 h3).size) bd.size) h1)
    have GF : Hid (∀ g, g < w.heap.size → g ≠ r2 → g ≠ r3 → U2.heap[g]? = w.heap[g]?) := Lib.hid fun g h1 h2 h3 => ((gr.block g (Nat.lt_of_lt_of_le (Nat.lt_of_lt_of_le h1 GU.out.1) bd.size) (by simpa using h2)).trans (bd.block g (Nat.lt_of_lt_of_le h1 GU.out.1))).trans (GU.out.2 g h1 h3)
    refine wpAnyH_done (by kernel_rfl) ?_ _
    exact bodyPost_end (results_none rfl _ _ _) rfl ⟨⟨_, rfl⟩, FF.out, BF.out, GF.out⟩
  | false =>
    obtain ⟨ml, c, hl, hm⟩ := F2.out.last
    have UP : Hid (∃ U1 : World, (∃ ml' c', U1.heap[r3]? = some (.map (ents ml').toArray c') ∧ LastM ml' (M ++ [(x.e.rep, x.e.n)])) ∧ (Instr.mapUpdate 66 (.map (some r3)) (.int .i64 x.e.rep) (.int .i64 x.e.n)).run Tryd.prog w2.drew = .ok () U1 ∧ w2.drew.grownBy U1 (some r3)) := Lib.hid (by
      have hl' : w2.drew.heap[r3]? = some (.map (ents ml).toArray c) := hl
      rcases hm.look x.e.rep with ⟨habs, _⟩ | ⟨la, lc, m, b, rfl, ha, hc, hyes⟩
      · exact ⟨_, ⟨_, _, mapTo_at hl', hm.put_new c habs⟩, run_update_absent (T := 66) Tryd.underlying66 Tryd.underlying3 hl' _ (.int .i64 x.e.n) habs, mapTo_grown _ _ _⟩
      · have hmn : m ≤ x.e.n := by have h := hyes x.e.n; rw [hbe] at h; have := of_decide_eq_false h.symm; omega
        exact ⟨_, ⟨_, _, mapTo_at hl', hm.put_here ha hc hmn⟩, run_updateA_here (T := 66) Tryd.underlying66 Tryd.underlying3 _ (.int .i64 m) (.int .i64 x.e.n) b la lc hl' ha, mapTo_grown _ _ _⟩)
    clear hl hm hbe
    go_wp2_with fail
    rename_i K3 hK3
    have m0 : Frg w2.drew A r1 r2 r3 F S M ∧ w2.drew.heap[g3]? = some (.cells x.cells.toArray 48 (0, 0)) ∧ Below w.heap.size w w2.drew := ⟨F2.out.later (w := w2) (to_drew (Below.refl _ _)), D2.out, to_drew B2.out⟩
    obtain ⟨_, _, hl0, _⟩ := m0.1.last
    have nA : A ≠ r3 := fun e => by have h1 := m0.1.blk; rw [e, hl0] at h1; cases h1
    have nG : g3 ≠ r3 := fun e => by have h1 := m0.2.1; rw [e, hl0] at h1; cases h1
    refine rg_calm (by kernel_rfl) rfl (S := fun U => U.heap[A]? = some (.cells (acg F r1 r2 r3) 68 (0, 0)) ∧ (∃ D, DSet U r2 D) ∧ U.heap[g3]? = some (.cells x.cells.toArray 48 (0, 0))) ?_
    have k0 : w2.drew.heap[A]? = some (.cells (acg F r1 r2 r3) 68 (0, 0)) ∧ (∃ D, DSet w2.drew r2 D) ∧ w2.drew.heap[g3]? = some (.cells x.cells.toArray 48 (0, 0)) := ⟨m0.1.blk, ⟨M, m0.1.met⟩, m0.2.1⟩
    refine rgd_pure 0 (some 9) rfl rfl (.pointer (some ⟨A, 0, none⟩)) (by kernel_rfl) (by kernel_rfl) (by kernel_rfl) (fun _ _ _ _ h => h) (by kernel_rfl) (fun w => by kernel_rfl) k0 ?_
    refine rgd_pure 1 (some 10) rfl rfl (.pointer (some ⟨A, 0, none⟩)) (by kernel_rfl) (by kernel_rfl) (by kernel_rfl) (fun _ _ _ _ h => h) (by kernel_rfl) (fun w => by kernel_rfl) k0 ?_
    refine rgd_pure 2 (some 11) rfl rfl (.pointer (some ⟨A, 66, none⟩)) (by kernel_rfl) (by kernel_rfl) (by kernel_rfl) (fun _ _ _ _ h => h) (by kernel_rfl) (fun w => by kernel_rfl) k0 ?_
    refine rgd_pureS 3 (some 12) rfl rfl (.map (some r3)) (by kernel_rfl) (by kernel_rfl) (by kernel_rfl) (fun _ _ _ _ h => h) (by kernel_rfl) (fun U hU => exec_load1 _ _ rfl Tryd.underlying66 rfl ⟨A, 66, none⟩ _ (by kernel_rfl) (acg_at hU.1 2)) k0 ?_
    refine rgd_pure 4 (some 13) rfl rfl (.pointer (some ⟨g3, 0, none⟩)) (by kernel_rfl) (by kernel_rfl) (by kernel_rfl) (fun _ _ _ _ h => h) (by kernel_rfl) (fun w => by kernel_rfl) k0 ?_
    refine rgd_pure 5 (some 14) rfl rfl (.pointer (some ⟨g3, 0, none⟩)) (by kernel_rfl) (by kernel_rfl) (by kernel_rfl) (fun _ _ _ _ h => h) (by kernel_rfl) (fun w => by kernel_rfl) k0 ?_
    refine rgd_pureS 6 (some 15) rfl rfl (.int .i64 x.e.rep) (by kernel_rfl) (by kernel_rfl) (by kernel_rfl) (fun _ _ _ _ h => h) (by kernel_rfl) (fun U hU => exec_load1 _ _ rfl Tryd.underlying3 rfl ⟨g3, 0, none⟩ _ (by kernel_rfl) (cell_of_row _ g3 0 _ _ _ hU.2.2)) k0 ?_
    refine rgd_pure 7 (some 16) rfl rfl (.pointer (some ⟨g3, 0, none⟩)) (by kernel_rfl) (by kernel_rfl) (by kernel_rfl) (fun _ _ _ _ h => h) (by kernel_rfl) (fun w => by kernel_rfl) k0 ?_
    refine rgd_pure 8 (some 17) rfl rfl (.pointer (some ⟨g3, 1, none⟩)) (by kernel_rfl) (by kernel_rfl) (by kernel_rfl) (fun _ _ _ _ h => h) (by kernel_rfl) (fun w => by kernel_rfl) k0 ?_
    refine rgd_pureS 9 (some 18) rfl rfl (.int .i64 x.e.n) (by kernel_rfl) (by kernel_rfl) (by kernel_rfl) (fun _ _ _ _ h => h) (by kernel_rfl) (fun U hU => exec_load1 _ _ rfl Tryd.underlying3 rfl ⟨g3, 1, none⟩ _ (by kernel_rfl) (cell_of_row _ g3 1 _ _ _ hU.2.2)) k0 ?_
    obtain ⟨U1, hlast, up, gr⟩ := UP.out
    have k1 : U1.heap[A]? = some (.cells (acg F r1 r2 r3) 68 (0, 0)) ∧ (∃ D, DSet U1 r2 D) ∧ U1.heap[g3]? = some (.cells x.cells.toArray 48 (0, 0)) := ⟨(gr.block A (Array.getElem?_eq_some_iff.1 k0.1).1 (by simpa using nA)).trans k0.1, ⟨M, m0.1.met.kept gr (by simpa using Ne.symm n23)⟩, (gr.block g3 (Array.getElem?_eq_some_iff.1 k0.2.2).1 (by simpa using nG)).trans k0.2.2⟩
    refine rgd_do 10 none (by kernel_rfl) rfl rfl (by kernel_rfl) U1 (exec_putR 66 _ _ _ rfl (.map (some r3)) (.int .i64 x.e.rep) (.int .i64 x.e.n) (by kernel_rfl) (by kernel_rfl) (by kernel_rfl) up) k1 ?_
    have BU : Hid (∀ B, B ≤ r3 → B ≤ w.heap.size → Below B w U1) := Lib.hid fun B h1 h2 => (m0.2.2.mono h2).trans (grown_below gr (Nat.le_trans h2 m0.2.2.size) h1)
    have GU : Hid (w.heap.size ≤ U1.heap.size ∧ ∀ g, g < w.heap.size → g ≠ r3 → U1.heap[g]? = w.heap[g]?) := Lib.hid ⟨Nat.le_trans m0.2.2.size gr.size, fun g h1 h2 => (gr.block g (Nat.lt_of_lt_of_le h1 m0.2.2.size) (by simpa using h2)).trans (m0.2.2.block g h1)⟩
    have GM : Hid (U1.heap[A]? = some (.cells (acg F r1 r2 r3) 68 (0, 0)) ∧ DSet U1 r1 S ∧ DSet U1 r2 M ∧ U1.heap[g3]? = some (.cells x.cells.toArray 48 (0, 0)) ∧ ∃ ml c, U1.heap[r3]? = some (.map (ents ml).toArray c) ∧ LastM ml (M ++ [(x.e.rep, x.e.n)])) := Lib.hid ⟨k1.1, m0.1.live.kept gr (by simpa using n13), m0.1.met.kept gr (by simpa using Ne.symm n23), k1.2.2, hlast⟩
    clear k0 k1 m0 up gr nA nG F2 D2 hl0 hlast UP
    have KE : K3 { tmps := #[.pointer (some ⟨A, 0, none⟩), .agg x.cells.toArray, undef, .pointer (some ⟨g3, 0, none⟩), .pointer (some ⟨A, 0, none⟩), .pointer (some ⟨g3, 0, none⟩), .agg (dcs x.e.rep x.e.n), .bool false, .bool true, .pointer (some ⟨A, 0, none⟩), .pointer (some ⟨A, 0, none⟩), .pointer (some ⟨A, 66, none⟩), .map (some r3), .pointer (some ⟨g3, 0, none⟩), .pointer (some ⟨g3, 0, none⟩), .int .i64 x.e.rep, .pointer (some ⟨g3, 0, none⟩), .pointer (some ⟨g3, 1, none⟩), .int .i64 x.e.n, undef, undef, undef, undef, undef, undef, undef], defers := [] } U1 := by
      refine hK3 _ _ ?_
      clear hK3
      go_wp2_with fail
      have bd : Below U1.heap.size U1 U1.drew := to_drew (Below.refl _ _)
      have d0 : DSet U1.drew r2 M := GM.out.2.2.1.later (w := U1) bd
      obtain ⟨U2, up, ds2, gr⟩ := run_dput d0 (x.e.rep, x.e.n)
      have K0 : U1.drew.heap[A]? = some (.cells (acg F r1 r2 r3) 68 (0, 0)) ∧ (∃ D, DSet U1.drew r2 D) ∧ U1.drew.heap[g3]? = some (.cells x.cells.toArray 48 (0, 0)) := ⟨GM.out.1, ⟨M, d0⟩, GM.out.2.2.2.1⟩
      have nA : A ≠ r2 := fun e => by have h1 := K0.1; obtain ⟨l, c, h2, _⟩ := d0; rw [e, h2] at h1; cases h1
      have nG : g3 ≠ r2 := fun e => by have h1 := K0.2.2; obtain ⟨l, c, h2, _⟩ := d0; rw [e, h2] at h1; cases h1
      refine rg_last (by kernel_rfl) rfl (S := fun U => U.heap[A]? = some (.cells (acg F r1 r2 r3) 68 (0, 0)) ∧ (∃ D, DSet U r2 D) ∧ U.heap[g3]? = some (.cells x.cells.toArray 48 (0, 0))) ?_
      refine rgd_pure 0 (some 19) rfl rfl (.pointer (some ⟨A, 0, none⟩)) (by kernel_rfl) (by kernel_rfl) (by kernel_rfl) (fun _ _ _ _ h => h) (by kernel_rfl) (fun w => by kernel_rfl) K0 ?_
      refine rgd_pure 1 (some 20) rfl rfl (.pointer (some ⟨A, 0, none⟩)) (by kernel_rfl) (by kernel_rfl) (by kernel_rfl) (fun _ _ _ _ h => h) (by kernel_rfl) (fun w => by kernel_rfl) K0 ?_
      refine rgd_pure 2 (some 21) rfl rfl (.pointer (some ⟨A, 65, none⟩)) (by kernel_rfl) (by kernel_rfl) (by kernel_rfl) (fun _ _ _ _ h => h) (by kernel_rfl) (fun w => by kernel_rfl) K0 ?_
      refine rgd_pure 4 (some 23) rfl rfl (.pointer (some ⟨g3, 0, none⟩)) (by kernel_rfl) (by kernel_rfl) (by kernel_rfl) (fun _ _ _ _ h => h) (by kernel_rfl) (fun w => by kernel_rfl) K0 ?_
      refine rgd_pure 6 (some 25) rfl rfl (.agg #[]) (by kernel_rfl) (by kernel_rfl) (by kernel_rfl) (fun _ _ _ _ h => h) (by kernel_rfl) (fun w => by kernel_rfl) K0 ?_
      refine rgd_pureS 3 (some 22) rfl rfl (.map (some r2)) (by kernel_rfl) (by kernel_rfl) (by kernel_rfl) (fun _ _ _ _ h => h) (by kernel_rfl) (fun U hU => exec_load1 _ _ rfl Tryd.underlying65 rfl ⟨A, 65, none⟩ _ (by kernel_rfl) (acg_at hU.1 1)) K0 ?_
      refine rgd_pureS 5 (some 24) rfl rfl (.agg (dcs x.e.rep x.e.n)) (by kernel_rfl) (by kernel_rfl) (by kernel_rfl) (fun _ _ _ _ h => h) (by kernel_rfl) (fun U hU => exec_gload 37 _ rfl g3 0 (by kernel_rfl) (dcs x.e.rep x.e.n).toList (xv_dot hU.2.2) Tryd.underlying37 rfl (sizeDtA _ _)) K0 ?_
      have a2 := (gr.block A (Array.getElem?_eq_some_iff.1 K0.1).1 (by simpa using nA)).trans K0.1
      refine rgd_do 7 none (by kernel_rfl) rfl rfl (by kernel_rfl) U2 (exec_putR 65 _ _ _ rfl (.map (some r2)) (.agg (dcs x.e.rep x.e.n)) (.agg #[]) (by kernel_rfl) (by kernel_rfl) (by kernel_rfl) up) ⟨a2, ⟨_, ds2⟩, (gr.block g3 (Array.getElem?_eq_some_iff.1 K0.2.2).1 (by simpa using nG)).trans K0.2.2⟩ ?_
      have FF : Hid (Frg U2 A r1 r2 r3 F S (M ++ [(x.e.rep, x.e.n)])) := Lib.hid (by
        obtain ⟨ml', c', hl', hm'⟩ := GM.out.2.2.2.2
        exact ⟨a2, (GM.out.2.1.later (w := U1) bd).kept gr (by simpa using Ne.symm n12), ds2, ml', c', (gr.block r3 (Array.getElem?_eq_some_iff.1 (show U1.drew.heap[r3]? = _ from hl')).1 (by simpa using n23)).trans hl', hm'⟩)
      have BF : Hid (∀ B, B ≤ r2 → B ≤ r3 → B ≤ w.heap.size → Below B w U2) := Lib.hid fun B h1 h2 h3 => ((BU.out B h2 h3).trans (bd.mono (Nat.le_trans h3 (BU.out B h2 h3).size))).trans (grown_below gr (Nat.le_trans (Nat.le_trans h3 (BU.out B h2 h3).size) bd.size) h1)
      have GF : Hid (∀ g, g < w.heap.size → g ≠ r2 → g ≠ r3 → U2.heap[g]? = w.heap[g]?) := Lib.hid fun g h1 h2 h3 => ((gr.block g (Nat.lt_of_lt_of_le (Nat.lt_of_lt_of_le h1 GU.out.1) bd.size) (by simpa using h2)).trans (bd.block g (Nat.lt_of_lt_of_le h1 GU.out.1))).trans (GU.out.2 g h1 h3)
      refine wpAnyH_done (by kernel_rfl) ?_ _
      exact bodyPost_end (results_none rfl _ _ _) rfl ⟨⟨_, rfl⟩, FF.out, BF.out, GF.out⟩
    exact wpAnyH_done (by kernel_rfl) (Eq.mp (by kernel_rfl) KE) _
end Go.Proofs.YtkpldjiloinaoaaDoor
