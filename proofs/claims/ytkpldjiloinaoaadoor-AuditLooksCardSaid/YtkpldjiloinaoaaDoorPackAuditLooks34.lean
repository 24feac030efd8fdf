/- The statement AuditLooks, proved for every input that its row reads: part 34 of 54. -/
import Derived.Test.YtkpldjiloinaoaaDoorPackAuditLooks32
import Derived.Test.YtkpldjiloinaoaaDoorPackAuditLooks17
/- What an event is held against, whatever was met: unknown, lives, behindLater. -/
namespace Go.Proofs.YtkpldjiloinaoaaDoor
open Go Go.RowKit
set_option linter.unusedVariables false
set_option maxRecDepth 1000000

def acg (F : Nat → Int) (r1 r2 r3 : Nat) : Array Value := ((vf F).toList ++ [Value.map (some r1), Value.map (some r2), Value.map (some r3)]).toArray
theorem acg_size (F : Nat → Int) (r1 r2 r3 : Nat) : (acg F r1 r2 r3).size = 67 := by simp [acg, vf_size]
/-- the front of a state whose writes have the dots S, the events M met -/
structure Frg (w : World) (A r1 r2 r3 : Nat) (F : Nat → Int) (S M : List Dt) : Prop where
  blk : w.heap[A]? = some (.cells (acg F r1 r2 r3) 68 (0, 0))
  live : DSet w r1 S
  met : DSet w r2 M
  last : ∃ ml c, w.heap[r3]? = some (.map (ents ml).toArray c) ∧ LastM ml M
theorem Frg.later {w w' : World} {A r1 r2 r3 : Nat} {F : Nat → Int} {S M : List Dt} (h : Frg w A r1 r2 r3 F S M) (hb : Below w.heap.size w w') : Frg w' A r1 r2 r3 F S M := by
  obtain ⟨ml, c, hl, hm⟩ := h.last
  exact ⟨(hb.block A (Array.getElem?_eq_some_iff.1 h.blk).1).trans h.blk, h.live.later hb, h.met.later hb, ml, c, (hb.block r3 (Array.getElem?_eq_some_iff.1 hl).1).trans hl, hm⟩
theorem Frg.vec {w : World} {A r1 r2 r3 : Nat} {F : Nat → Int} {S M : List Dt} (h : Frg w A r1 r2 r3 F S M) : w.rangeAt A 0 (vf F).toList := fun j u hu => by
  have hj : j < 64 := by have := (List.getElem?_eq_some_iff.1 hu).1; rwa [Array.length_toList, vf_size] at this
  have hc := cell_of_row w A j _ _ _ h.blk
  rw [Nat.zero_add, hc, acg, List.getElem?_toArray, List.getElem?_append_left (by rw [Array.length_toList, vf_size]; exact hj)]
  exact hu
theorem Frg.at {w : World} {A r1 r2 r3 : Nat} {F : Nat → Int} {S M : List Dt} (h : Frg w A r1 r2 r3 F S M) (i : Nat) : w.cell? ⟨A, 64 + i, none⟩ = ([Value.map (some r1), Value.map (some r2), Value.map (some r3)] : List Value)[i]? := by
  rw [cell_of_row w A (64 + i) _ _ _ h.blk, acg, List.getElem?_toArray, List.getElem?_append_right (by rw [Array.length_toList, vf_size]; omega), Array.length_toList, vf_size, Nat.add_sub_cancel_left]
set_option maxHeartbeats 4000000 in
theorem unknownG_is (A r1 r2 r3 : Nat) (F : Nat → Int) (S M : List Dt) (r n : Int) (w : World) (h : Frg w A r1 r2 r3 F S M) : Calls Tryd.prog 30 #[.pointer (some ⟨A, 0, none⟩), .agg (dcs r n)] w (RetBool w (!hasB F r n)) := by
  have FR := Lib.hid h
  clear h
  obtain ⟨hb, hhb⟩ : ∃ hb, hasB F r n = hb := ⟨_, rfl⟩
  have HS : Hid (∀ V : World, Calls Tryd.prog 26 #[.agg (vf F), .agg (dcs r n)] V (RetBool V hb)) := Lib.hid fun V => by rw [← hhb]; exact has_is _ _ _ V
  rw [hhb]
  clear hhb
  go_enter Tryd.func30, Tryd.ntmps30
  go_wp2_with (refine wpList_gbox rfl _ rfl (dcs r n) rfl ?_)
  intro g3 w1 l1 h1 hb1
  have F1 := Lib.hid (FR.out.later hb1); have B1 := Lib.hid hb1
  have D1 : Hid (w1.heap[g3]? = some (.cells (dcs r n) 37 (0, 0))) := Lib.hid h1
  clear hb1 h1 FR
  go_wp2_with fail
  rename_i K3 hK3
  have m0 : Frg w1.drew A r1 r2 r3 F S M ∧ w1.drew.heap[g3]? = some (.cells (dcs r n) 37 (0, 0)) := ⟨F1.out.later (w := w1) (to_drew (Below.refl _ _)), D1.out⟩
  refine rg_calm (by kernel_rfl) rfl (S := fun U => Frg U A r1 r2 r3 F S M ∧ U.heap[g3]? = some (.cells (dcs r n) 37 (0, 0))) ?_
  refine rgd_pure 0 (some 5) rfl rfl (.pointer (some ⟨A, 0, none⟩)) (by kernel_rfl) (by kernel_rfl) (by kernel_rfl) (fun _ _ _ _ h => h) (by kernel_rfl) (fun w => by kernel_rfl) m0 ?_
  refine rgd_pure 1 (some 6) rfl rfl (.pointer (some ⟨A, 0, none⟩)) (by kernel_rfl) (by kernel_rfl) (by kernel_rfl) (fun _ _ _ _ h => h) (by kernel_rfl) (fun w => by kernel_rfl) m0 ?_
  refine rgd_pure 2 (some 7) rfl rfl (.pointer (some ⟨A, 0, none⟩)) (by kernel_rfl) (by kernel_rfl) (by kernel_rfl) (fun _ _ _ _ h => h) (by kernel_rfl) (fun w => by kernel_rfl) m0 ?_
  refine rgd_pureS 3 (some 8) rfl rfl (.agg (vf F)) (by kernel_rfl) (by kernel_rfl) (by kernel_rfl) (fun _ _ _ _ h => h) (by kernel_rfl) (fun U hU => exec_gload 23 _ rfl A 0 (by kernel_rfl) _ hU.1.vec Tryd.underlying23 rfl (sizeVcl _)) m0 ?_
  refine rgd_pureS 4 (some 9) rfl rfl (.agg (dcs r n)) (by kernel_rfl) (by kernel_rfl) (by kernel_rfl) (fun _ _ _ _ h => h) (by kernel_rfl) (fun U hU => exec_gload 37 _ rfl g3 0 (by kernel_rfl) (dcs r n).toList (range_of_block hU.2) Tryd.underlying37 rfl (sizeDtA r n)) m0 ?_
  refine rgd_call 5 (some 10) (by kernel_rfl) rfl rfl (by kernel_rfl) 26 (#[.agg (vf F), .agg (dcs r n)]) (by kernel_rfl) (HS.out _) ?_
  rintro _ U1 ⟨rfl, bU1⟩
  have m1 : Frg U1 A r1 r2 r3 F S M ∧ U1.heap[g3]? = some (.cells (dcs r n) 37 (0, 0)) := ⟨m0.1.later bU1, (bU1.block g3 (Array.getElem?_eq_some_iff.1 m0.2).1).trans m0.2⟩
  have BU := Lib.hid (thenBelow B1.out (fromD (w := w1) bU1))
  refine ⟨_, rfl, m1, ?_⟩
  refine rgd_pure 6 (some 11) rfl rfl (.bool (!hb)) (by kernel_rfl) (by kernel_rfl) (by kernel_rfl) (fun _ _ _ _ h => h) (by kernel_rfl) (fun w => by kernel_rfl) m1 ?_
  refine rgd_pure 7 (some 4) rfl rfl (.bool (!hb)) (by kernel_rfl) (by kernel_rfl) (by kernel_rfl) (fun _ _ _ _ h => h) (by kernel_rfl) (fun w => by kernel_rfl) m1 ?_
  have KE : K3 { tmps := #[.pointer (some ⟨A, 0, none⟩), .agg (dcs r n), undef, .pointer (some ⟨g3, 0, none⟩), .bool (!hb), .pointer (some ⟨A, 0, none⟩), .pointer (some ⟨A, 0, none⟩), .pointer (some ⟨A, 0, none⟩), .agg (vf F), .agg (dcs r n), .bool hb, .bool (!hb)], defers := [] } U1 := by
    refine hK3 _ _ ?_
    clear hK3 m0 m1 bU1
    go_wp2
    go_ret
    exact ⟨rfl, BU.out⟩
  exact wpAnyH_done (by kernel_rfl) (Eq.mp (by kernel_rfl) KE) _
theorem acg_at {w : World} {A r1 r2 r3 : Nat} {F : Nat → Int} (h : w.heap[A]? = some (.cells (acg F r1 r2 r3) 68 (0, 0))) (i : Nat) : w.cell? ⟨A, 64 + i, none⟩ = ([Value.map (some r1), Value.map (some r2), Value.map (some r3)] : List Value)[i]? := by
  rw [cell_of_row w A (64 + i) _ _ _ h, acg, List.getElem?_toArray, List.getElem?_append_right (by rw [Array.length_toList, vf_size]; omega), Array.length_toList, vf_size, Nat.add_sub_cancel_left]
set_option maxHeartbeats 4000000 in
theorem behindG_is (A r1 r2 r3 : Nat) (F : Nat → Int) (S M : List Dt) (r n : Int) (w : World) (h : Frg w A r1 r2 r3 F S M) : Calls Tryd.prog 31 #[.pointer (some ⟨A, 0, none⟩), .agg (dcs r n)] w (RetBool w (behB M r n)) := by
  obtain ⟨ml, c, hl, hm⟩ := h.last
  have HA := Lib.hid h.blk; have HL := Lib.hid hl; have HM := Lib.hid (hm.look r)
  clear h hl hm
  go_enter Tryd.func31, Tryd.ntmps31
  go_wp2_with (refine wpList_gbox rfl _ rfl (dcs r n) rfl ?_)
  intro g3 w1 l1 h1 hb1
  have A1 : Hid (w1.heap[A]? = some (.cells (acg F r1 r2 r3) 68 (0, 0))) := Lib.hid ((hb1.block A (Array.getElem?_eq_some_iff.1 HA.out).1).trans HA.out)
  have L1 : Hid (w1.heap[r3]? = some (.map (ents ml).toArray c)) := Lib.hid ((hb1.block r3 (Array.getElem?_eq_some_iff.1 HL.out).1).trans HL.out)
  have B1 := Lib.hid hb1
  have D1 : Hid (w1.heap[g3]? = some (.cells (dcs r n) 37 (0, 0))) := Lib.hid h1
  clear hb1 h1 HA HL
  go_wp2_with fail
  rename_i K3 hK3
  have m0 : w1.drew.heap[A]? = some (.cells (acg F r1 r2 r3) 68 (0, 0)) ∧ w1.drew.heap[r3]? = some (.map (ents ml).toArray c) ∧ w1.drew.heap[g3]? = some (.cells (dcs r n) 37 (0, 0)) := ⟨A1.out, L1.out, D1.out⟩
  have BU := Lib.hid (to_drew B1.out)
  clear A1 L1 D1 B1
  rcases HM.out with ⟨habs, hno⟩ | ⟨la, lc, m, b, rfl, ha, _, hyes⟩
  · refine rg_calm (by kernel_rfl) rfl (S := fun U => U.heap[A]? = some (.cells (acg F r1 r2 r3) 68 (0, 0)) ∧ U.heap[r3]? = some (.map (ents ml).toArray c) ∧ U.heap[g3]? = some (.cells (dcs r n) 37 (0, 0))) ?_
    refine rgd_pure 0 (some 8) rfl rfl (.pointer (some ⟨A, 0, none⟩)) (by kernel_rfl) (by kernel_rfl) (by kernel_rfl) (fun _ _ _ _ h => h) (by kernel_rfl) (fun w => by kernel_rfl) m0 ?_
    refine rgd_pure 1 (some 9) rfl rfl (.pointer (some ⟨A, 0, none⟩)) (by kernel_rfl) (by kernel_rfl) (by kernel_rfl) (fun _ _ _ _ h => h) (by kernel_rfl) (fun w => by kernel_rfl) m0 ?_
    refine rgd_pure 2 (some 10) rfl rfl (.pointer (some ⟨A, 66, none⟩)) (by kernel_rfl) (by kernel_rfl) (by kernel_rfl) (fun _ _ _ _ h => h) (by kernel_rfl) (fun w => by kernel_rfl) m0 ?_
    refine rgd_pureS 3 (some 11) rfl rfl (.map (some r3)) (by kernel_rfl) (by kernel_rfl) (by kernel_rfl) (fun _ _ _ _ h => h) (by kernel_rfl) (fun U hU => exec_load1 _ _ rfl Tryd.underlying66 rfl ⟨A, 66, none⟩ _ (by kernel_rfl) (acg_at hU.1 2)) m0 ?_
    refine rgd_pure 4 (some 12) rfl rfl (.pointer (some ⟨g3, 0, none⟩)) (by kernel_rfl) (by kernel_rfl) (by kernel_rfl) (fun _ _ _ _ h => h) (by kernel_rfl) (fun w => by kernel_rfl) m0 ?_
    refine rgd_pureS 5 (some 13) rfl rfl (.int .i64 r) (by kernel_rfl) (by kernel_rfl) (by kernel_rfl) (fun _ _ _ _ h => h) (by kernel_rfl) (fun U hU => exec_load1 _ _ rfl Tryd.underlying3 rfl ⟨g3, 0, none⟩ _ (by kernel_rfl) (cell_of_row _ g3 0 _ _ _ hU.2.2)) m0 ?_
    refine rgd_pureS 6 (some 14) rfl rfl (.tuple #[.int .i64 0, .bool false]) (by kernel_rfl) (by kernel_rfl) (by kernel_rfl) (fun _ _ _ _ h => h) (by kernel_rfl) (fun U hU => exec_lookR 66 _ _ rfl (.map (some r3)) (.int .i64 r) (by kernel_rfl) (by kernel_rfl) _ (run_lookup_absent Tryd.underlying66 Tryd.underlying3 (zeroInt U) hU.2.1 r habs)) m0 ?_
    refine rgd_pure 7 (some 7) rfl rfl (.tuple #[.int .i64 0, .bool false]) (by kernel_rfl) (by kernel_rfl) (by kernel_rfl) (fun _ _ _ _ h => h) (by kernel_rfl) (fun w => by kernel_rfl) m0 ?_
    refine rgd_pure 8 (some 15) rfl rfl (.int .i64 0) (by kernel_rfl) (by kernel_rfl) (by kernel_rfl) (fun _ _ _ _ h => h) (by kernel_rfl) (fun w => by kernel_rfl) m0 ?_
    refine rgd_pure 9 (some 16) rfl rfl (.bool false) (by kernel_rfl) (by kernel_rfl) (by kernel_rfl) (fun _ _ _ _ h => h) (by kernel_rfl) (fun w => by kernel_rfl) m0 ?_
    refine rgd_pure 10 (some 5) rfl rfl (.int .i64 0) (by kernel_rfl) (by kernel_rfl) (by kernel_rfl) (fun _ _ _ _ h => h) (by kernel_rfl) (fun w => by kernel_rfl) m0 ?_
    refine rgd_pure 11 (some 6) rfl rfl (.bool false) (by kernel_rfl) (by kernel_rfl) (by kernel_rfl) (fun _ _ _ _ h => h) (by kernel_rfl) (fun w => by kernel_rfl) m0 ?_
    have KE : ∀ U : World, Below w.heap.size w U → U.heap[g3]? = some (.cells (dcs r n) 37 (0, 0)) → K3 { tmps := #[.pointer (some ⟨A, 0, none⟩), .agg (dcs r n), undef, .pointer (some ⟨g3, 0, none⟩), .bool false, .int .i64 0, .bool false, .tuple #[.int .i64 0, .bool false], .pointer (some ⟨A, 0, none⟩), .pointer (some ⟨A, 0, none⟩), .pointer (some ⟨A, 66, none⟩), .map (some r3), .pointer (some ⟨g3, 0, none⟩), .int .i64 r, .tuple #[.int .i64 0, .bool false], .int .i64 0, .bool false, undef, undef, undef, undef, undef, undef, undef], defers := [] } U := by
      intro U hU hG
      have HU := Lib.hid hU
      have k1 : U.cell? ⟨g3, 1, none⟩ = some (.int .i64 n) := cell_of_row _ g3 1 _ _ _ hG
      refine hK3 _ _ ?_
      clear hK3 m0 hU hG
      clear k1
      have HN := Lib.hid (hno n)
      go_wp2
      go_ret
      exact ⟨by rw [HN.out]; rfl, HU.out⟩
    exact wpAnyH_done (by kernel_rfl) (Eq.mp (by kernel_rfl) (KE _ BU.out m0.2.2)) _
  · refine rg_calm (by kernel_rfl) rfl (S := fun U => U.heap[A]? = some (.cells (acg F r1 r2 r3) 68 (0, 0)) ∧ U.heap[r3]? = some (.map (ents (la ++ (r, .int .i64 m, b) :: lc)).toArray c) ∧ U.heap[g3]? = some (.cells (dcs r n) 37 (0, 0))) ?_
    refine rgd_pure 0 (some 8) rfl rfl (.pointer (some ⟨A, 0, none⟩)) (by kernel_rfl) (by kernel_rfl) (by kernel_rfl) (fun _ _ _ _ h => h) (by kernel_rfl) (fun w => by kernel_rfl) m0 ?_
    refine rgd_pure 1 (some 9) rfl rfl (.pointer (some ⟨A, 0, none⟩)) (by kernel_rfl) (by kernel_rfl) (by kernel_rfl) (fun _ _ _ _ h => h) (by kernel_rfl) (fun w => by kernel_rfl) m0 ?_
    refine rgd_pure 2 (some 10) rfl rfl (.pointer (some ⟨A, 66, none⟩)) (by kernel_rfl) (by kernel_rfl) (by kernel_rfl) (fun _ _ _ _ h => h) (by kernel_rfl) (fun w => by kernel_rfl) m0 ?_
    refine rgd_pureS 3 (some 11) rfl rfl (.map (some r3)) (by kernel_rfl) (by kernel_rfl) (by kernel_rfl) (fun _ _ _ _ h => h) (by kernel_rfl) (fun U hU => exec_load1 _ _ rfl Tryd.underlying66 rfl ⟨A, 66, none⟩ _ (by kernel_rfl) (acg_at hU.1 2)) m0 ?_
    refine rgd_pure 4 (some 12) rfl rfl (.pointer (some ⟨g3, 0, none⟩)) (by kernel_rfl) (by kernel_rfl) (by kernel_rfl) (fun _ _ _ _ h => h) (by kernel_rfl) (fun w => by kernel_rfl) m0 ?_
    refine rgd_pureS 5 (some 13) rfl rfl (.int .i64 r) (by kernel_rfl) (by kernel_rfl) (by kernel_rfl) (fun _ _ _ _ h => h) (by kernel_rfl) (fun U hU => exec_load1 _ _ rfl Tryd.underlying3 rfl ⟨g3, 0, none⟩ _ (by kernel_rfl) (cell_of_row _ g3 0 _ _ _ hU.2.2)) m0 ?_
    refine rgd_pureS 6 (some 14) rfl rfl (.tuple #[.int .i64 m, .bool true]) (by kernel_rfl) (by kernel_rfl) (by kernel_rfl) (fun _ _ _ _ h => h) (by kernel_rfl) (fun U hU => exec_lookR 66 _ _ rfl (.map (some r3)) (.int .i64 r) (by kernel_rfl) (by kernel_rfl) _ (run_look2_here Tryd.underlying66 Tryd.underlying3 r (.int .i64 m) b la lc hU.2.1 ha)) m0 ?_
    refine rgd_pure 7 (some 7) rfl rfl (.tuple #[.int .i64 m, .bool true]) (by kernel_rfl) (by kernel_rfl) (by kernel_rfl) (fun _ _ _ _ h => h) (by kernel_rfl) (fun w => by kernel_rfl) m0 ?_
    refine rgd_pure 8 (some 15) rfl rfl (.int .i64 m) (by kernel_rfl) (by kernel_rfl) (by kernel_rfl) (fun _ _ _ _ h => h) (by kernel_rfl) (fun w => by kernel_rfl) m0 ?_
    refine rgd_pure 9 (some 16) rfl rfl (.bool true) (by kernel_rfl) (by kernel_rfl) (by kernel_rfl) (fun _ _ _ _ h => h) (by kernel_rfl) (fun w => by kernel_rfl) m0 ?_
    refine rgd_pure 10 (some 5) rfl rfl (.int .i64 m) (by kernel_rfl) (by kernel_rfl) (by kernel_rfl) (fun _ _ _ _ h => h) (by kernel_rfl) (fun w => by kernel_rfl) m0 ?_
    refine rgd_pure 11 (some 6) rfl rfl (.bool true) (by kernel_rfl) (by kernel_rfl) (by kernel_rfl) (fun _ _ _ _ h => h) (by kernel_rfl) (fun w => by kernel_rfl) m0 ?_
    have KE : ∀ U : World, Below w.heap.size w U → U.heap[g3]? = some (.cells (dcs r n) 37 (0, 0)) → K3 { tmps := #[.pointer (some ⟨A, 0, none⟩), .agg (dcs r n), undef, .pointer (some ⟨g3, 0, none⟩), .bool false, .int .i64 m, .bool true, .tuple #[.int .i64 m, .bool true], .pointer (some ⟨A, 0, none⟩), .pointer (some ⟨A, 0, none⟩), .pointer (some ⟨A, 66, none⟩), .map (some r3), .pointer (some ⟨g3, 0, none⟩), .int .i64 r, .tuple #[.int .i64 m, .bool true], .int .i64 m, .bool true, undef, undef, undef, undef, undef, undef, undef], defers := [] } U := by
      intro U hU hG
      have HU := Lib.hid hU
      have k1 : U.cell? ⟨g3, 1, none⟩ = some (.int .i64 n) := cell_of_row _ g3 1 _ _ _ hG
      refine hK3 _ _ ?_
      clear hK3 m0 hU hG
      have HN := Lib.hid (hyes n)
      go_wp2
      go_ret
      exact ⟨by rw [HN.out]; rfl, HU.out⟩
    exact wpAnyH_done (by kernel_rfl) (Eq.mp (by kernel_rfl) (KE _ BU.out m0.2.2)) _
set_option maxHeartbeats 4000000 in
theorem livesG_is (A r1 r2 r3 : Nat) (F : Nat → Int) (S M : List Dt) (r n : Int) (w : World) (h : Frg w A r1 r2 r3 F S M) : Calls Tryd.prog 33 #[.pointer (some ⟨A, 0, none⟩), .agg (dcs r n)] w (RetBool w (decide ((r, n) ∈ S))) := by
  have FR := Lib.hid h
  clear h
  obtain ⟨lb, hlb⟩ : ∃ lb, decide ((r, n) ∈ S) = lb := ⟨_, rfl⟩
  have HLB := Lib.hid hlb
  rw [hlb]
  clear hlb
  go_enter Tryd.func33, Tryd.ntmps33
  go_wp2_with (refine wpList_gbox rfl _ rfl (dcs r n) rfl ?_)
  intro g3 w1 l1 h1 hb1
  have F1 := Lib.hid (FR.out.later hb1); have B1 := Lib.hid hb1
  have D1 : Hid (w1.heap[g3]? = some (.cells (dcs r n) 37 (0, 0))) := Lib.hid h1
  clear hb1 h1 FR
  go_wp2_with fail
  rename_i K3 hK3
  have m0 : Frg w1.drew A r1 r2 r3 F S M ∧ w1.drew.heap[g3]? = some (.cells (dcs r n) 37 (0, 0)) := ⟨F1.out.later (w := w1) (to_drew (Below.refl _ _)), D1.out⟩
  refine rg_calm (by kernel_rfl) rfl (S := fun U => Frg U A r1 r2 r3 F S M ∧ U.heap[g3]? = some (.cells (dcs r n) 37 (0, 0))) ?_
  refine rgd_pure 0 (some 8) rfl rfl (.pointer (some ⟨A, 0, none⟩)) (by kernel_rfl) (by kernel_rfl) (by kernel_rfl) (fun _ _ _ _ h => h) (by kernel_rfl) (fun w => by kernel_rfl) m0 ?_
  refine rgd_pure 1 (some 9) rfl rfl (.pointer (some ⟨A, 0, none⟩)) (by kernel_rfl) (by kernel_rfl) (by kernel_rfl) (fun _ _ _ _ h => h) (by kernel_rfl) (fun w => by kernel_rfl) m0 ?_
  refine rgd_pure 2 (some 10) rfl rfl (.pointer (some ⟨A, 64, none⟩)) (by kernel_rfl) (by kernel_rfl) (by kernel_rfl) (fun _ _ _ _ h => h) (by kernel_rfl) (fun w => by kernel_rfl) m0 ?_
  refine rgd_pureS 3 (some 11) rfl rfl (.map (some r1)) (by kernel_rfl) (by kernel_rfl) (by kernel_rfl) (fun _ _ _ _ h => h) (by kernel_rfl) (fun U hU => exec_load1 _ _ rfl Tryd.underlying65 rfl ⟨A, 64, none⟩ _ (by kernel_rfl) (hU.1.at 0)) m0 ?_
  refine rgd_pureS 4 (some 12) rfl rfl (.agg (dcs r n)) (by kernel_rfl) (by kernel_rfl) (by kernel_rfl) (fun _ _ _ _ h => h) (by kernel_rfl) (fun U hU => exec_gload 37 _ rfl g3 0 (by kernel_rfl) (dcs r n).toList (range_of_block hU.2) Tryd.underlying37 rfl (sizeDtA r n)) m0 ?_
  refine rgd_pureS 5 (some 13) rfl rfl (.tuple #[.agg #[], .bool lb]) (by kernel_rfl) (by kernel_rfl) (by kernel_rfl) (fun _ _ _ _ h => h) (by kernel_rfl) (fun U hU => exec_lookR 65 _ _ rfl (.map (some r1)) (.agg (dcs r n)) (by kernel_rfl) (by kernel_rfl) _ (by have h := run_dlook hU.1.live (r, n); rw [HLB.out] at h; exact h)) m0 ?_
  refine rgd_pure 6 (some 7) rfl rfl (.tuple #[.agg #[], .bool lb]) (by kernel_rfl) (by kernel_rfl) (by kernel_rfl) (fun _ _ _ _ h => h) (by kernel_rfl) (fun w => by kernel_rfl) m0 ?_
  refine rgd_pure 7 (some 14) rfl rfl (.agg #[]) (by kernel_rfl) (by kernel_rfl) (by kernel_rfl) (fun _ _ _ _ h => h) (by kernel_rfl) (fun w => by kernel_rfl) m0 ?_
  refine rgd_pure 8 (some 15) rfl rfl (.bool lb) (by kernel_rfl) (by kernel_rfl) (by kernel_rfl) (fun _ _ _ _ h => h) (by kernel_rfl) (fun w => by kernel_rfl) m0 ?_
  have ba := below_alloc w1.drew (.cells #[] 69)
  have m1 : Frg (w1.drew.alloc (.cells #[] 69)) A r1 r2 r3 F S M ∧ (w1.drew.alloc (.cells #[] 69)).heap[g3]? = some (.cells (dcs r n) 37 (0, 0)) := ⟨m0.1.later ba, (ba.block g3 (Array.getElem?_eq_some_iff.1 m0.2).1).trans m0.2⟩
  have BA := Lib.hid (thenBelow (to_drew B1.out) ba)
  refine rgd_run 9 (some 5) (by kernel_rfl) rfl rfl (by kernel_rfl) _ _ (exec_unitA rfl _) m1 ?_
  generalize w1.drew.alloc (.cells #[] 69) = U1 at m1 BA ⊢
  generalize w1.drew.heap.size = GU
  refine rgd_do 10 none (by kernel_rfl) rfl rfl (by kernel_rfl) _ (exec_unitPutA _ _ rfl ⟨GU, 0, none⟩ (by kernel_rfl) (by kernel_rfl) _) m1 ?_
  refine rgd_pure 11 (some 6) rfl rfl (.bool lb) (by kernel_rfl) (by kernel_rfl) (by kernel_rfl) (fun _ _ _ _ h => h) (by kernel_rfl) (fun w => by kernel_rfl) m1 ?_
  have KE : K3 { tmps := #[.pointer (some ⟨A, 0, none⟩), .agg (dcs r n), undef, .pointer (some ⟨g3, 0, none⟩), .bool false, .pointer (some ⟨GU, 0, none⟩), .bool lb, .tuple #[.agg #[], .bool lb], .pointer (some ⟨A, 0, none⟩), .pointer (some ⟨A, 0, none⟩), .pointer (some ⟨A, 64, none⟩), .map (some r1), .agg (dcs r n), .tuple #[.agg #[], .bool lb], .agg #[], .bool lb, undef], defers := [] } U1 := by
    refine hK3 _ _ ?_
    clear hK3 m0 m1 ba
    go_wp2
    go_ret
    exact ⟨rfl, BA.out⟩
  exact wpAnyH_done (by kernel_rfl) (Eq.mp (by kernel_rfl) KE) _
end Go.Proofs.YtkpldjiloinaoaaDoor
