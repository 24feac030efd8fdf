/- The statement AuditLooks, proved for every input that its row reads: part 22 of 54. -/
import Derived.Test.YtkpldjiloinaoaaDoorPackAuditLooks21
import Derived.Test.YtkpldjiloinaoaaDoorPackAuditLooks19
import Derived.Test.YtkpldjiloinaoaaDoorPackAuditLooks16
/- What the first event of a past is held against: begin, unknown, behindLater, pass. -/
namespace Go.Proofs.YtkpldjiloinaoaaDoor
open Go Go.RowKit
set_option linter.unusedVariables false
set_option maxRecDepth 1000000

/-- the front's cells: nothing is known -/
def acs (r1 r2 r3 : Nat) : Array Value := ((vf fun _ => 0).toList ++ [Value.map (some r1), Value.map (some r2), Value.map (some r3)]).toArray
theorem acs_size (r1 r2 r3 : Nat) : (acs r1 r2 r3).size = 67 := by simp [acs, vf_size]
theorem acs_one (r1 r2 r3 : Nat) : ∀ u ∈ (acs r1 r2 r3).toList, u.oneCell' = true := by
  intro u hu
  simp only [acs, List.toList_toArray, List.mem_append, List.mem_cons, List.not_mem_nil, or_false] at hu
  rcases hu with hu | rfl | rfl | rfl
  · exact Array.all_eq_true_iff_forall_mem.1 (vf_one _) u (by simpa using hu)
  · rfl
  · rfl
  · rfl
/-- the front of a state without writes, no event met -/
structure Front (w : World) (A r1 r2 r3 : Nat) : Prop where
  blk : w.heap[A]? = some (.cells (acs r1 r2 r3) 68 (0, 0))
  live : DSet w r1 []
  met : DSet w r2 []
  last : w.heap[r3]? = some (.map (ents []).toArray 0)
theorem Front.later {w w' : World} {A r1 r2 r3 : Nat} (h : Front w A r1 r2 r3) (hb : Below w.heap.size w w') : Front w' A r1 r2 r3 :=
  ⟨(hb.block A (Array.getElem?_eq_some_iff.1 h.blk).1).trans h.blk, h.live.later hb, h.met.later hb, (hb.block r3 (Array.getElem?_eq_some_iff.1 h.last).1).trans h.last⟩
theorem Front.vec {w : World} {A r1 r2 r3 : Nat} (h : Front w A r1 r2 r3) : w.rangeAt A 0 (vf fun _ => 0).toList := fun j u hu => by
  have hj : j < 64 := by have := (List.getElem?_eq_some_iff.1 hu).1; rwa [Array.length_toList, vf_size] at this
  have hc := cell_of_row w A j _ _ _ h.blk
  rw [Nat.zero_add, hc, acs, List.getElem?_toArray, List.getElem?_append_left (by rw [Array.length_toList, vf_size]; exact hj)]
  exact hu
theorem Front.at {w : World} {A r1 r2 r3 : Nat} (h : Front w A r1 r2 r3) (i : Nat) : w.cell? ⟨A, 64 + i, none⟩ = ([Value.map (some r1), Value.map (some r2), Value.map (some r3)] : List Value)[i]? := by
  rw [cell_of_row w A (64 + i) _ _ _ h.blk, acs, List.getElem?_toArray, List.getElem?_append_right (by rw [Array.length_toList, vf_size]; omega), Array.length_toList, vf_size, Nat.add_sub_cancel_left]
theorem exec_lookR {P : Program} {o : Oper} {a : Act} {w : World} (t : TypeId) (x y : Operand) (ho : o.op = .lookup t x y true) (m k : Value) (hx : a.eval x = m) (hy : a.eval y = k) (v : Value) (hr : (Instr.lookup t m k true).run P w = .ok v w) : (execOp a.eval o).run P w = .ok (.value v) w := by
  unfold execOp
  simp only [ho, hx, hy]
  exact run_value_of hr
theorem exec_putR {P : Program} {o : Oper} {a : Act} {w w' : World} (t : TypeId) (x y z : Operand) (ho : o.op = .mapUpdate t x y z) (m k v : Value) (hx : a.eval x = m) (hy : a.eval y = k) (hz : a.eval z = v) (hr : (Instr.mapUpdate t m k v).run P w = .ok () w') : (execOp a.eval o).run P w = .ok .skip w' := by
  unfold execOp
  simp only [ho, hx, hy, hz, Sem.run_bind, hr, Result.andThen_ok]
  rfl
theorem zeroInt (w : World) : (zeroValue 3).run Tryd.prog w = .ok (.int .i64 0) w := by kernel_rfl
theorem has_no : hasB (fun _ => 0) 0 1 = false := by decide +kernel
set_option maxHeartbeats 4000000 in
theorem unknown_is (A r1 r2 r3 : Nat) (w : World) (h : Front w A r1 r2 r3) : Calls Tryd.prog 30 #[.pointer (some ⟨A, 0, none⟩), .agg (dcs 0 1)] w (RetBool w true) := by
  have FR := Lib.hid h
  clear h
  have HS : Hid (∀ V : World, Calls Tryd.prog 26 #[.agg (vf fun _ => 0), .agg (dcs 0 1)] V (RetBool V false)) := Lib.hid fun V => by rw [← has_no]; exact has_is _ _ _ V
  go_enter Tryd.func30, Tryd.ntmps30
  go_wp2_with (refine wpList_gbox rfl _ rfl (dcs 0 1) rfl ?_)
  intro g3 w1 l1 h1 hb1
  have F1 := Lib.hid (FR.out.later hb1); have B1 := Lib.hid hb1
  have D1 : Hid (w1.heap[g3]? = some (.cells (dcs 0 1) 37 (0, 0))) := Lib.hid h1
  clear hb1 h1 FR
  go_wp2_with fail
  rename_i K3 hK3
  have m0 : Front w1.drew A r1 r2 r3 ∧ w1.drew.heap[g3]? = some (.cells (dcs 0 1) 37 (0, 0)) := ⟨F1.out.later (w := w1) (to_drew (Below.refl _ _)), D1.out⟩
  refine rg_calm (by kernel_rfl) rfl (S := fun U => Front U A r1 r2 r3 ∧ U.heap[g3]? = some (.cells (dcs 0 1) 37 (0, 0))) ?_
  refine rgd_pure 0 (some 5) rfl rfl (.pointer (some ⟨A, 0, none⟩)) (by kernel_rfl) (by kernel_rfl) (by kernel_rfl) (fun _ _ _ _ h => h) (by kernel_rfl) (fun w => by kernel_rfl) m0 ?_
  refine rgd_pure 1 (some 6) rfl rfl (.pointer (some ⟨A, 0, none⟩)) (by kernel_rfl) (by kernel_rfl) (by kernel_rfl) (fun _ _ _ _ h => h) (by kernel_rfl) (fun w => by kernel_rfl) m0 ?_
  refine rgd_pure 2 (some 7) rfl rfl (.pointer (some ⟨A, 0, none⟩)) (by kernel_rfl) (by kernel_rfl) (by kernel_rfl) (fun _ _ _ _ h => h) (by kernel_rfl) (fun w => by kernel_rfl) m0 ?_
  refine rgd_pureS 3 (some 8) rfl rfl (.agg (vf fun _ => 0)) (by kernel_rfl) (by kernel_rfl) (by kernel_rfl) (fun _ _ _ _ h => h) (by kernel_rfl) (fun U hU => exec_gload 23 _ rfl A 0 (by kernel_rfl) _ hU.1.vec Tryd.underlying23 rfl (sizeVcl _)) m0 ?_
  refine rgd_pureS 4 (some 9) rfl rfl (.agg (dcs 0 1)) (by kernel_rfl) (by kernel_rfl) (by kernel_rfl) (fun _ _ _ _ h => h) (by kernel_rfl) (fun U hU => exec_gload 37 _ rfl g3 0 (by kernel_rfl) (dcs 0 1).toList (range_of_block hU.2) Tryd.underlying37 rfl (sizeDtA 0 1)) m0 ?_
  refine rgd_call 5 (some 10) (by kernel_rfl) rfl rfl (by kernel_rfl) 26 (#[.agg (vf fun _ => 0), .agg (dcs 0 1)]) (by kernel_rfl) (HS.out _) ?_
  rintro _ U1 ⟨rfl, bU1⟩
  have m1 : Front U1 A r1 r2 r3 ∧ U1.heap[g3]? = some (.cells (dcs 0 1) 37 (0, 0)) := ⟨m0.1.later bU1, (bU1.block g3 (Array.getElem?_eq_some_iff.1 m0.2).1).trans m0.2⟩
  have BU := Lib.hid (thenBelow B1.out (fromD (w := w1) bU1))
  refine ⟨_, rfl, m1, ?_⟩
  refine rgd_pure 6 (some 11) rfl rfl (.bool true) (by kernel_rfl) (by kernel_rfl) (by kernel_rfl) (fun _ _ _ _ h => h) (by kernel_rfl) (fun w => by kernel_rfl) m1 ?_
  refine rgd_pure 7 (some 4) rfl rfl (.bool true) (by kernel_rfl) (by kernel_rfl) (by kernel_rfl) (fun _ _ _ _ h => h) (by kernel_rfl) (fun w => by kernel_rfl) m1 ?_
  have KE : K3 { tmps := #[.pointer (some ⟨A, 0, none⟩), .agg (dcs 0 1), undef, .pointer (some ⟨g3, 0, none⟩), .bool true, .pointer (some ⟨A, 0, none⟩), .pointer (some ⟨A, 0, none⟩), .pointer (some ⟨A, 0, none⟩), .agg (vf fun _ => 0), .agg (dcs 0 1), .bool false, .bool true], defers := [] } U1 := by
    refine hK3 _ _ ?_
    clear hK3 m0 m1 bU1
    go_wp2
    go_ret
    exact ⟨rfl, BU.out⟩
  exact wpAnyH_done (by kernel_rfl) (Eq.mp (by kernel_rfl) KE) _
set_option maxHeartbeats 4000000 in
theorem behindLater_is (A r1 r2 r3 : Nat) (w : World) (h : Front w A r1 r2 r3) : Calls Tryd.prog 31 #[.pointer (some ⟨A, 0, none⟩), .agg (dcs 0 1)] w (RetBool w false) := by
  have FR := Lib.hid h
  clear h
  go_enter Tryd.func31, Tryd.ntmps31
  go_wp2_with (refine wpList_gbox rfl _ rfl (dcs 0 1) rfl ?_)
  intro g3 w1 l1 h1 hb1
  have F1 := Lib.hid (FR.out.later hb1); have B1 := Lib.hid hb1
  have D1 : Hid (w1.heap[g3]? = some (.cells (dcs 0 1) 37 (0, 0))) := Lib.hid h1
  clear hb1 h1 FR
  go_wp2_with fail
  rename_i K3 hK3
  have m0 : Front w1.drew A r1 r2 r3 ∧ w1.drew.heap[g3]? = some (.cells (dcs 0 1) 37 (0, 0)) := ⟨F1.out.later (w := w1) (to_drew (Below.refl _ _)), D1.out⟩
  refine rg_calm (by kernel_rfl) rfl (S := fun U => Front U A r1 r2 r3 ∧ U.heap[g3]? = some (.cells (dcs 0 1) 37 (0, 0))) ?_
  refine rgd_pure 0 (some 8) rfl rfl (.pointer (some ⟨A, 0, none⟩)) (by kernel_rfl) (by kernel_rfl) (by kernel_rfl) (fun _ _ _ _ h => h) (by kernel_rfl) (fun w => by kernel_rfl) m0 ?_
  refine rgd_pure 1 (some 9) rfl rfl (.pointer (some ⟨A, 0, none⟩)) (by kernel_rfl) (by kernel_rfl) (by kernel_rfl) (fun _ _ _ _ h => h) (by kernel_rfl) (fun w => by kernel_rfl) m0 ?_
  refine rgd_pure 2 (some 10) rfl rfl (.pointer (some ⟨A, 66, none⟩)) (by kernel_rfl) (by kernel_rfl) (by kernel_rfl) (fun _ _ _ _ h => h) (by kernel_rfl) (fun w => by kernel_rfl) m0 ?_
  refine rgd_pureS 3 (some 11) rfl rfl (.map (some r3)) (by kernel_rfl) (by kernel_rfl) (by kernel_rfl) (fun _ _ _ _ h => h) (by kernel_rfl) (fun U hU => exec_load1 _ _ rfl Tryd.underlying66 rfl ⟨A, 66, none⟩ _ (by kernel_rfl) (hU.1.at 2)) m0 ?_
  refine rgd_pure 4 (some 12) rfl rfl (.pointer (some ⟨g3, 0, none⟩)) (by kernel_rfl) (by kernel_rfl) (by kernel_rfl) (fun _ _ _ _ h => h) (by kernel_rfl) (fun w => by kernel_rfl) m0 ?_
  refine rgd_pureS 5 (some 13) rfl rfl (.int .i64 0) (by kernel_rfl) (by kernel_rfl) (by kernel_rfl) (fun _ _ _ _ h => h) (by kernel_rfl) (fun U hU => exec_load1 _ _ rfl Tryd.underlying3 rfl ⟨g3, 0, none⟩ _ (by kernel_rfl) (cell_of_row _ g3 0 _ _ _ hU.2)) m0 ?_
  refine rgd_pureS 6 (some 14) rfl rfl (.tuple #[.int .i64 0, .bool false]) (by kernel_rfl) (by kernel_rfl) (by kernel_rfl) (fun _ _ _ _ h => h) (by kernel_rfl) (fun U hU => exec_lookR 66 _ _ rfl (.map (some r3)) (.int .i64 0) (by kernel_rfl) (by kernel_rfl) _ (run_lookup_absent Tryd.underlying66 Tryd.underlying3 (zeroInt U) hU.1.last 0 (fun e he => by cases he))) m0 ?_
  refine rgd_pure 7 (some 7) rfl rfl (.tuple #[.int .i64 0, .bool false]) (by kernel_rfl) (by kernel_rfl) (by kernel_rfl) (fun _ _ _ _ h => h) (by kernel_rfl) (fun w => by kernel_rfl) m0 ?_
  refine rgd_pure 8 (some 15) rfl rfl (.int .i64 0) (by kernel_rfl) (by kernel_rfl) (by kernel_rfl) (fun _ _ _ _ h => h) (by kernel_rfl) (fun w => by kernel_rfl) m0 ?_
  refine rgd_pure 9 (some 16) rfl rfl (.bool false) (by kernel_rfl) (by kernel_rfl) (by kernel_rfl) (fun _ _ _ _ h => h) (by kernel_rfl) (fun w => by kernel_rfl) m0 ?_
  refine rgd_pure 10 (some 5) rfl rfl (.int .i64 0) (by kernel_rfl) (by kernel_rfl) (by kernel_rfl) (fun _ _ _ _ h => h) (by kernel_rfl) (fun w => by kernel_rfl) m0 ?_
  refine rgd_pure 11 (some 6) rfl rfl (.bool false) (by kernel_rfl) (by kernel_rfl) (by kernel_rfl) (fun _ _ _ _ h => h) (by kernel_rfl) (fun w => by kernel_rfl) m0 ?_
  have BU := Lib.hid (to_drew B1.out)
  have KE : ∀ U : World, Below w.heap.size w U → K3 { tmps := #[.pointer (some ⟨A, 0, none⟩), .agg (dcs 0 1), undef, .pointer (some ⟨g3, 0, none⟩), .bool false, .int .i64 0, .bool false, .tuple #[.int .i64 0, .bool false], .pointer (some ⟨A, 0, none⟩), .pointer (some ⟨A, 0, none⟩), .pointer (some ⟨A, 66, none⟩), .map (some r3), .pointer (some ⟨g3, 0, none⟩), .int .i64 0, .tuple #[.int .i64 0, .bool false], .int .i64 0, .bool false, undef, undef, undef, undef, undef, undef, undef], defers := [] } U := by
    intro U hU
    have HU := Lib.hid hU
    refine hK3 _ _ ?_
    clear hK3 m0 hU
    go_wp2
    go_ret
    exact ⟨rfl, HU.out⟩
  exact wpAnyH_done (by kernel_rfl) (Eq.mp (by kernel_rfl) (KE _ BU.out)) _
end Go.Proofs.YtkpldjiloinaoaaDoor
