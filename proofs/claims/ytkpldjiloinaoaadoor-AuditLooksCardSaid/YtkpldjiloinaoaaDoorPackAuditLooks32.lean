/- The statement AuditLooks, proved for every input that its row reads: part 32 of 54. -/
import Derived.Test.YtkpldjiloinaoaaDoorPackAuditLooks31
import Derived.Test.YtkpldjiloinaoaaDoorMemInts
import Derived.Deep.CutBlock
import Derived.Deep.DeepCutAuto
/- What is wrong with the example's event: it is not known. -/
namespace Go.Proofs.YtkpldjiloinaoaaDoor
open Go Go.RowKit
set_option linter.unusedVariables false
set_option maxRecDepth 1000000

theorem exec_unitA {o : Oper} {a : Act} (ho : o.op = .alloc 69) (w : World) : (execOp a.eval o).run Tryd.prog w = .ok (.value (.pointer (some ⟨w.heap.size, 0, none⟩))) (w.alloc (.cells #[] 69)) := by
  unfold execOp
  simp only [ho]
  kernel_rfl
theorem exec_unitPutA {o : Oper} {a : Act} (x y : Operand) (ho : o.op = .store 69 x y) (p : Addr) (hx : a.eval x = .pointer (some p)) (hy : a.eval y = .agg #[]) (w : World) : (execOp a.eval o).run Tryd.prog w = .ok .skip w := by
  unfold execOp
  simp only [ho, hx, hy]
  kernel_rfl
theorem au_dot {w : World} {g : Nat} {T : TypeId} {m : Nat × Nat} (h : w.heap[g]? = some (.cells auP.cells.toArray T m)) : w.rangeAt g 0 (dcs 0 1).toList := fun j u hu => by
  have h := range_of_block h
  match j, hu with
  | 0, hu => exact h 0 u hu
  | 1, hu => exact h 1 u hu
def KindsR (w : World) (e : Ending) (w' : World) : Prop := ∃ v, e = .returned v ∧ w'.ownsRow w.heap.size 3 1 v 1 (ints [3]) ∧ Below w.heap.size w w'
def kindB : List Value := [.int .i64 2, .bool false, .int .i64 3, .bool true, .int .i64 4, .bool false, .int .i64 5, .bool false, .int .i64 6, .bool false, .int .i64 8, .bool false]
set_option maxHeartbeats 4000000 in
theorem wrong_is (A r1 r2 r3 : Nat) (w : World) (h : Front w A r1 r2 r3) (hT : Shapes w) : Calls Tryd.prog 16 #[.pointer (some ⟨A, 0, none⟩), .agg auP.cells.toArray] w (KindsR w) := by
  have FR := Lib.hid h; have HT := Lib.hid hT
  clear h hT
  go_enter Tryd.func16, Tryd.ntmps16
  go_wp2_with (refine wpList_gbox rfl _ rfl auP.cells.toArray rfl ?_)
  intro g3 w1 l1 h1 hb1
  have F1 := Lib.hid (FR.out.later hb1); have B1 := Lib.hid hb1
  have D1 : Hid (w1.heap[g3]? = some (.cells auP.cells.toArray 48 (0, 0))) := Lib.hid h1
  clear hb1 h1 FR
  go_wp2_with fail
  rename_i K3 hK3
  have m0 : Front w1.drew A r1 r2 r3 ∧ w1.drew.heap[g3]? = some (.cells auP.cells.toArray 48 (0, 0)) ∧ Below w.heap.size w w1.drew := ⟨F1.out.later (w := w1) (to_drew (Below.refl _ _)), D1.out, to_drew B1.out⟩
  refine rg_calm (by kernel_rfl) rfl (S := fun U => Front U A r1 r2 r3 ∧ U.heap[g3]? = some (.cells auP.cells.toArray 48 (0, 0)) ∧ Below w.heap.size w U) ?_
  refine rgd_pure 0 (some 11) rfl rfl (.pointer (some ⟨A, 0, none⟩)) (by kernel_rfl) (by kernel_rfl) (by kernel_rfl) (fun _ _ _ _ h => h) (by kernel_rfl) (fun w => by kernel_rfl) m0 ?_
  refine rgd_pure 1 (some 12) rfl rfl (.pointer (some ⟨A, 0, none⟩)) (by kernel_rfl) (by kernel_rfl) (by kernel_rfl) (fun _ _ _ _ h => h) (by kernel_rfl) (fun w => by kernel_rfl) m0 ?_
  refine rgd_pure 2 (some 13) rfl rfl (.pointer (some ⟨A, 65, none⟩)) (by kernel_rfl) (by kernel_rfl) (by kernel_rfl) (fun _ _ _ _ h => h) (by kernel_rfl) (fun w => by kernel_rfl) m0 ?_
  refine rgd_pureS 3 (some 14) rfl rfl (.map (some r2)) (by kernel_rfl) (by kernel_rfl) (by kernel_rfl) (fun _ _ _ _ h => h) (by kernel_rfl) (fun U hU => exec_load1 _ _ rfl Tryd.underlying65 rfl ⟨A, 65, none⟩ _ (by kernel_rfl) (hU.1.at 1)) m0 ?_
  refine rgd_pure 4 (some 15) rfl rfl (.pointer (some ⟨g3, 0, none⟩)) (by kernel_rfl) (by kernel_rfl) (by kernel_rfl) (fun _ _ _ _ h => h) (by kernel_rfl) (fun w => by kernel_rfl) m0 ?_
  refine rgd_pureS 5 (some 16) rfl rfl (.agg (dcs 0 1)) (by kernel_rfl) (by kernel_rfl) (by kernel_rfl) (fun _ _ _ _ h => h) (by kernel_rfl) (fun U hU => exec_gload 37 _ rfl g3 0 (by kernel_rfl) (dcs 0 1).toList (au_dot hU.2.1) Tryd.underlying37 rfl (sizeDtA 0 1)) m0 ?_
  refine rgd_pureS 6 (some 17) rfl rfl (.tuple #[.agg #[], .bool false]) (by kernel_rfl) (by kernel_rfl) (by kernel_rfl) (fun _ _ _ _ h => h) (by kernel_rfl) (fun U hU => exec_lookR 65 _ _ rfl (.map (some r2)) (.agg (dcs 0 1)) (by kernel_rfl) (by kernel_rfl) _ (run_dlook hU.1.met (0, 1))) m0 ?_
  refine rgd_pure 7 (some 10) rfl rfl (.tuple #[.agg #[], .bool false]) (by kernel_rfl) (by kernel_rfl) (by kernel_rfl) (fun _ _ _ _ h => h) (by kernel_rfl) (fun w => by kernel_rfl) m0 ?_
  refine rgd_pure 8 (some 18) rfl rfl (.agg #[]) (by kernel_rfl) (by kernel_rfl) (by kernel_rfl) (fun _ _ _ _ h => h) (by kernel_rfl) (fun w => by kernel_rfl) m0 ?_
  refine rgd_pure 9 (some 19) rfl rfl (.bool false) (by kernel_rfl) (by kernel_rfl) (by kernel_rfl) (fun _ _ _ _ h => h) (by kernel_rfl) (fun w => by kernel_rfl) m0 ?_
  have ba := below_alloc w1.drew (.cells #[] 69)
  have m1 : Front (w1.drew.alloc (.cells #[] 69)) A r1 r2 r3 ∧ (w1.drew.alloc (.cells #[] 69)).heap[g3]? = some (.cells auP.cells.toArray 48 (0, 0)) ∧ Below w.heap.size w (w1.drew.alloc (.cells #[] 69)) := ⟨m0.1.later ba, (ba.block g3 (Array.getElem?_eq_some_iff.1 m0.2.1).1).trans m0.2.1, thenBelow m0.2.2 ba⟩
  refine rgd_run 10 (some 5) (by kernel_rfl) rfl rfl (by kernel_rfl) _ _ (exec_unitA rfl _) m1 ?_
  generalize w1.drew.alloc (.cells #[] 69) = U1 at m1 ⊢
  generalize w1.drew.heap.size = GU
  refine rgd_do 11 none (by kernel_rfl) rfl rfl (by kernel_rfl) _ (exec_unitPutA _ _ rfl ⟨GU, 0, none⟩ (by kernel_rfl) (by kernel_rfl) _) m1 ?_
  refine rgd_pure 12 (some 6) rfl rfl (.bool false) (by kernel_rfl) (by kernel_rfl) (by kernel_rfl) (fun _ _ _ _ h => h) (by kernel_rfl) (fun w => by kernel_rfl) m1 ?_
  have M := Lib.hid m1
  clear m0 ba D1 F1 B1
  have KE : K3 { tmps := #[.pointer (some ⟨A, 0, none⟩), .agg auP.cells.toArray, undef, .pointer (some ⟨g3, 0, none⟩), .slice none 0 0, .pointer (some ⟨GU, 0, none⟩), .bool false, undef, undef, undef, .tuple #[.agg #[], .bool false], .pointer (some ⟨A, 0, none⟩), .pointer (some ⟨A, 0, none⟩), .pointer (some ⟨A, 65, none⟩), .map (some r2), .pointer (some ⟨g3, 0, none⟩), .agg (dcs 0 1), .tuple #[.agg #[], .bool false], .agg #[], .bool false, undef, undef, undef, undef, undef, undef, undef, undef, undef, undef, undef, undef, undef, undef, undef, undef, undef, undef, undef, undef, undef, undef, undef, undef, undef, undef, undef, undef, undef, undef, undef, undef, undef, undef, undef, undef, undef, undef, undef, undef, undef, undef, undef], defers := [] } U1 := by
    refine hK3 _ _ ?_
    clear hK3 m1
    go_wp2_with fail
    rename_i K4 hK4
    have m0 : Front U1.drew A r1 r2 r3 ∧ U1.drew.heap[g3]? = some (.cells auP.cells.toArray 48 (0, 0)) ∧ Below w.heap.size w U1.drew := ⟨M.out.1.later (w := U1) (to_drew (Below.refl _ _)), M.out.2.1, to_drew M.out.2.2⟩
    refine rg_calm (by kernel_rfl) rfl (S := fun U => Front U A r1 r2 r3 ∧ U.heap[g3]? = some (.cells auP.cells.toArray 48 (0, 0)) ∧ Below w.heap.size w U) ?_
    refine rgd_pureS 0 (some 20) rfl rfl (.agg auP.cells.toArray) (by kernel_rfl) (by kernel_rfl) (by kernel_rfl) (fun _ _ _ _ h => h) (by kernel_rfl) (fun U hU => exec_gload 48 _ rfl g3 0 (by kernel_rfl) auP.cells (range_of_block hU.2.1) Tryd.underlying48 rfl (sizeEvA auP)) m0 ?_
    refine rgd_pure 4 (some 24) rfl rfl (.pointer (some ⟨A, 0, none⟩)) (by kernel_rfl) (by kernel_rfl) (by kernel_rfl) (fun _ _ _ _ h => h) (by kernel_rfl) (fun w => by kernel_rfl) m0 ?_
    refine rgd_pure 5 (some 25) rfl rfl (.pointer (some ⟨g3, 0, none⟩)) (by kernel_rfl) (by kernel_rfl) (by kernel_rfl) (fun _ _ _ _ h => h) (by kernel_rfl) (fun w => by kernel_rfl) m0 ?_
    refine rgd_pureS 6 (some 26) rfl rfl (.agg (dcs 0 1)) (by kernel_rfl) (by kernel_rfl) (by kernel_rfl) (fun _ _ _ _ h => h) (by kernel_rfl) (fun U hU => exec_gload 37 _ rfl g3 0 (by kernel_rfl) (dcs 0 1).toList (au_dot hU.2.1) Tryd.underlying37 rfl (sizeDtA 0 1)) m0 ?_
    refine rgd_pure 9 (some 29) rfl rfl (.pointer (some ⟨A, 0, none⟩)) (by kernel_rfl) (by kernel_rfl) (by kernel_rfl) (fun _ _ _ _ h => h) (by kernel_rfl) (fun w => by kernel_rfl) m0 ?_
    refine rgd_pure 10 (some 30) rfl rfl (.pointer (some ⟨g3, 0, none⟩)) (by kernel_rfl) (by kernel_rfl) (by kernel_rfl) (fun _ _ _ _ h => h) (by kernel_rfl) (fun w => by kernel_rfl) m0 ?_
    refine rgd_pureS 11 (some 31) rfl rfl (.agg (dcs 0 1)) (by kernel_rfl) (by kernel_rfl) (by kernel_rfl) (fun _ _ _ _ h => h) (by kernel_rfl) (fun U hU => exec_gload 37 _ rfl g3 0 (by kernel_rfl) (dcs 0 1).toList (au_dot hU.2.1) Tryd.underlying37 rfl (sizeDtA 0 1)) m0 ?_
    refine rgd_pure 14 (some 34) rfl rfl (.pointer (some ⟨g3, 7, none⟩)) (by kernel_rfl) (by kernel_rfl) (by kernel_rfl) (fun _ _ _ _ h => h) (by kernel_rfl) (fun w => by kernel_rfl) m0 ?_
    refine rgd_pureS 15 (some 35) rfl rfl (.slice none 0 0) (by kernel_rfl) (by kernel_rfl) (by kernel_rfl) (fun _ _ _ _ h => h) (by kernel_rfl) (fun U hU => exec_load1 _ _ rfl Tryd.underlying46 rfl ⟨g3, 7, none⟩ _ (by kernel_rfl) (cell_of_row _ g3 7 _ _ _ hU.2.1)) m0 ?_
    refine rgd_pure 16 (some 36) rfl rfl (.pointer (some ⟨A, 0, none⟩)) (by kernel_rfl) (by kernel_rfl) (by kernel_rfl) (fun _ _ _ _ h => h) (by kernel_rfl) (fun w => by kernel_rfl) m0 ?_
    refine rgd_pure 17 (some 37) rfl rfl (.func (.func 30) #[.pointer (some ⟨A, 0, none⟩)] #[]) (by kernel_rfl) (by kernel_rfl) (by kernel_rfl) (fun _ _ _ _ h => h) (by kernel_rfl) (fun w => by kernel_rfl) m0 ?_
    refine rgd_pure 20 (some 40) rfl rfl (.pointer (some ⟨g3, 7, none⟩)) (by kernel_rfl) (by kernel_rfl) (by kernel_rfl) (fun _ _ _ _ h => h) (by kernel_rfl) (fun w => by kernel_rfl) m0 ?_
    refine rgd_pureS 21 (some 41) rfl rfl (.slice none 0 0) (by kernel_rfl) (by kernel_rfl) (by kernel_rfl) (fun _ _ _ _ h => h) (by kernel_rfl) (fun U hU => exec_load1 _ _ rfl Tryd.underlying46 rfl ⟨g3, 7, none⟩ _ (by kernel_rfl) (cell_of_row _ g3 7 _ _ _ hU.2.1)) m0 ?_
    refine rgd_pure 22 (some 42) rfl rfl (.pointer (some ⟨A, 0, none⟩)) (by kernel_rfl) (by kernel_rfl) (by kernel_rfl) (fun _ _ _ _ h => h) (by kernel_rfl) (fun w => by kernel_rfl) m0 ?_
    refine rgd_pure 23 (some 43) rfl rfl (.func (.func 33) #[.pointer (some ⟨A, 0, none⟩)] #[]) (by kernel_rfl) (by kernel_rfl) (by kernel_rfl) (fun _ _ _ _ h => h) (by kernel_rfl) (fun w => by kernel_rfl) m0 ?_
    refine rgd_pure 30 (some 50) rfl rfl (.int .i64 0) (by kernel_rfl) (by kernel_rfl) (by kernel_rfl) (fun _ _ _ _ h => h) (by kernel_rfl) (fun w => by kernel_rfl) m0 ?_
    refine rgd_pure 26 (some 46) rfl rfl (.bool false) (by kernel_rfl) (by kernel_rfl) (by kernel_rfl) (fun _ _ _ _ h => h) (by kernel_rfl) (fun w => by kernel_rfl) m0 ?_
    refine rgd_pure 27 (some 47) rfl rfl (.agg #[.int .i64 8, .bool false]) (by kernel_rfl) (by kernel_rfl) (by kernel_rfl) (fun _ _ _ _ h => h) (by kernel_rfl) (fun w => by kernel_rfl) m0 ?_
    refine rgd_call 1 (some 21) (by kernel_rfl) rfl rfl (by kernel_rfl) 29 (#[.agg auP.cells.toArray]) (by kernel_rfl) (auCheck _ (HT.out.below m0.2.2)) ?_
    rintro _ V1 ⟨rfl, b1⟩
    have m1 : Front V1 A r1 r2 r3 ∧ V1.heap[g3]? = some (.cells auP.cells.toArray 48 (0, 0)) ∧ Below w.heap.size w V1 := ⟨m0.1.later b1, (b1.block g3 (Array.getElem?_eq_some_iff.1 m0.2.1).1).trans m0.2.1, thenBelow m0.2.2 b1⟩
    refine ⟨_, rfl, m1, ?_⟩
    refine rgd_pure 2 (some 22) rfl rfl (.bool false) (by kernel_rfl) (by kernel_rfl) (by kernel_rfl) (fun _ _ _ _ h => h) (by kernel_rfl) (fun w => by kernel_rfl) m1 ?_
    refine rgd_pure 3 (some 23) rfl rfl (.agg #[.int .i64 2, .bool false]) (by kernel_rfl) (by kernel_rfl) (by kernel_rfl) (fun _ _ _ _ h => h) (by kernel_rfl) (fun w => by kernel_rfl) m1 ?_
    refine rgd_call 7 (some 27) (by kernel_rfl) rfl rfl (by kernel_rfl) 30 (#[.pointer (some ⟨A, 0, none⟩), .agg (dcs 0 1)]) (by kernel_rfl) (unknown_is A r1 r2 r3 _ m1.1) ?_
    rintro _ V7 ⟨rfl, b7⟩
    have m2 : Front V7 A r1 r2 r3 ∧ V7.heap[g3]? = some (.cells auP.cells.toArray 48 (0, 0)) ∧ Below w.heap.size w V7 := ⟨m1.1.later b7, (b7.block g3 (Array.getElem?_eq_some_iff.1 m1.2.1).1).trans m1.2.1, thenBelow m1.2.2 b7⟩
    refine ⟨_, rfl, m2, ?_⟩
    refine rgd_pure 8 (some 28) rfl rfl (.agg #[.int .i64 3, .bool true]) (by kernel_rfl) (by kernel_rfl) (by kernel_rfl) (fun _ _ _ _ h => h) (by kernel_rfl) (fun w => by kernel_rfl) m2 ?_
    refine rgd_call 12 (some 32) (by kernel_rfl) rfl rfl (by kernel_rfl) 31 (#[.pointer (some ⟨A, 0, none⟩), .agg (dcs 0 1)]) (by kernel_rfl) (behindLater_is A r1 r2 r3 _ m2.1) ?_
    rintro _ V12 ⟨rfl, b12⟩
    have m3 : Front V12 A r1 r2 r3 ∧ V12.heap[g3]? = some (.cells auP.cells.toArray 48 (0, 0)) ∧ Below w.heap.size w V12 := ⟨m2.1.later b12, (b12.block g3 (Array.getElem?_eq_some_iff.1 m2.2.1).1).trans m2.2.1, thenBelow m2.2.2 b12⟩
    refine ⟨_, rfl, m3, ?_⟩
    refine rgd_pure 13 (some 33) rfl rfl (.agg #[.int .i64 4, .bool false]) (by kernel_rfl) (by kernel_rfl) (by kernel_rfl) (fun _ _ _ _ h => h) (by kernel_rfl) (fun w => by kernel_rfl) m3 ?_
    refine rgd_call 18 (some 38) (by kernel_rfl) rfl rfl (by kernel_rfl) 32 (#[.slice none 0 0, .func (.func 30) #[.pointer (some ⟨A, 0, none⟩)] #[]]) (by kernel_rfl) (none_is _ _ _ _) ?_
    rintro _ V18 ⟨rfl, b18⟩
    have m4 : Front V18 A r1 r2 r3 ∧ V18.heap[g3]? = some (.cells auP.cells.toArray 48 (0, 0)) ∧ Below w.heap.size w V18 := ⟨m3.1.later b18, (b18.block g3 (Array.getElem?_eq_some_iff.1 m3.2.1).1).trans m3.2.1, thenBelow m3.2.2 b18⟩
    refine ⟨_, rfl, m4, ?_⟩
    refine rgd_pure 19 (some 39) rfl rfl (.agg #[.int .i64 5, .bool false]) (by kernel_rfl) (by kernel_rfl) (by kernel_rfl) (fun _ _ _ _ h => h) (by kernel_rfl) (fun w => by kernel_rfl) m4 ?_
    refine rgd_call 24 (some 44) (by kernel_rfl) rfl rfl (by kernel_rfl) 32 (#[.slice none 0 0, .func (.func 33) #[.pointer (some ⟨A, 0, none⟩)] #[]]) (by kernel_rfl) (none_is _ _ _ _) ?_
    rintro _ V24 ⟨rfl, b24⟩
    have m5 : Front V24 A r1 r2 r3 ∧ V24.heap[g3]? = some (.cells auP.cells.toArray 48 (0, 0)) ∧ Below w.heap.size w V24 := ⟨m4.1.later b24, (b24.block g3 (Array.getElem?_eq_some_iff.1 m4.2.1).1).trans m4.2.1, thenBelow m4.2.2 b24⟩
    refine ⟨_, rfl, m5, ?_⟩
    refine rgd_pure 25 (some 45) rfl rfl (.agg #[.int .i64 6, .bool false]) (by kernel_rfl) (by kernel_rfl) (by kernel_rfl) (fun _ _ _ _ h => h) (by kernel_rfl) (fun w => by kernel_rfl) m5 ?_
    have bk := below_alloc V24 (.cells kindB.toArray 73)
    have nk := heap_alloc_new V24 (.cells kindB.toArray 73)
    have zk : (V24.alloc (.cells kindB.toArray 73)).heap.size = V24.heap.size + 1 := by simp
    have m6 : Front (V24.alloc (.cells kindB.toArray 73)) A r1 r2 r3 ∧ (V24.alloc (.cells kindB.toArray 73)).heap[g3]? = some (.cells auP.cells.toArray 48 (0, 0)) ∧ Below w.heap.size w (V24.alloc (.cells kindB.toArray 73)) := ⟨m5.1.later bk, (bk.block g3 (Array.getElem?_eq_some_iff.1 m5.2.1).1).trans m5.2.1, thenBelow m5.2.2 bk⟩
    refine rgd_run 28 (some 48) (by kernel_rfl) rfl rfl (by kernel_rfl) (.slice (some ⟨V24.heap.size, 0, none⟩) 6 6) (V24.alloc (.cells kindB.toArray 73)) (by kernel_rfl) m6 ?_
    generalize V24.alloc (.cells kindB.toArray 73) = U2 at nk zk m6 ⊢
    generalize V24.heap.size = GB at nk zk ⊢
    refine rgd_pure 29 (some 49) rfl rfl (.int .i64 6) (by kernel_rfl) (by kernel_rfl) (by kernel_rfl) (fun _ _ _ _ h => h) (by kernel_rfl) (fun w => by kernel_rfl) m6 ?_
    have KE : K4 { tmps := #[.pointer (some ⟨A, 0, none⟩), .agg auP.cells.toArray, undef, .pointer (some ⟨g3, 0, none⟩), .slice none 0 0, .pointer (some ⟨GU, 0, none⟩), .bool false, .slice none 0 0, undef, undef, .tuple #[.agg #[], .bool false], .pointer (some ⟨A, 0, none⟩), .pointer (some ⟨A, 0, none⟩), .pointer (some ⟨A, 65, none⟩), .map (some r2), .pointer (some ⟨g3, 0, none⟩), .agg (dcs 0 1), .tuple #[.agg #[], .bool false], .agg #[], .bool false, .agg auP.cells.toArray, .int .i64 0, .bool false, .agg #[.int .i64 2, .bool false], .pointer (some ⟨A, 0, none⟩), .pointer (some ⟨g3, 0, none⟩), .agg (dcs 0 1), .bool true, .agg #[.int .i64 3, .bool true], .pointer (some ⟨A, 0, none⟩), .pointer (some ⟨g3, 0, none⟩), .agg (dcs 0 1), .bool false, .agg #[.int .i64 4, .bool false], .pointer (some ⟨g3, 7, none⟩), .slice none 0 0, .pointer (some ⟨A, 0, none⟩), .func (.func 30) #[.pointer (some ⟨A, 0, none⟩)] #[], .bool false, .agg #[.int .i64 5, .bool false], .pointer (some ⟨g3, 7, none⟩), .slice none 0 0, .pointer (some ⟨A, 0, none⟩), .func (.func 33) #[.pointer (some ⟨A, 0, none⟩)] #[], .bool false, .agg #[.int .i64 6, .bool false], .bool false, .agg #[.int .i64 8, .bool false], .slice (some ⟨GB, 0, none⟩) 6 6, .int .i64 6, .int .i64 0, undef, undef, undef, undef, undef, undef, undef, undef, undef, undef, undef, undef], defers := [] } U2 := by
      refine hK4 _ _ ?_
      have N2 := Lib.hid nk; have B2 := Lib.hid m6.2.2
      have hz : U2.heap.size = GB + 1 := zk
      clear hK4 m0 m1 m2 m3 m4 m5 m6 nk zk bk b1 b7 b12 b18 b24 M HT
      go_wp2
      go_loopw [7, 50] (fun v i wr => ∃ (k : Nat) (l : List Int), k ≤ 6 ∧ l = (if k ≤ 1 then [] else [3]) ∧ i = .int .i64 k ∧ wr.ownsRow U2.heap.size 3 1 v l.length (ints l) ∧ Below U2.heap.size U2 wr) (fun _ i _ => 6 - (RowKit.intOf i).toNat)
      case atStart => exact ⟨0, [], by omega, rfl, rfl, ⟨rfl, .inl ⟨rfl, rfl⟩⟩, Below.refl _ _⟩
      case round =>
        obtain ⟨k, l, hk, hl, rfl, ow, hb⟩ := hrel
        have OW := Lib.hid ow; have BR := Lib.hid hb
        have NR := Lib.hid ((hb.block GB (by omega)).trans N2.out)
        clear ow hb
        by_cases h6 : k = 6
        · subst h6
          have hl : l = [3] := hl
          subst hl
          go_wp2
          go_ret
          exact ⟨_, rfl, own_base OW.out B2.out.size, thenBelow B2.out BR.out⟩
        · have hc : k = 0 ∨ k = 1 ∨ k = 2 ∨ k = 3 ∨ k = 4 ∨ k = 5 := by omega
          clear h6
          rcases hc with rfl | rfl | rfl | rfl | rfl | rfl
          · have c0 : wr.cell? ⟨GB, 0, none⟩ = some (.int .i64 2) := cell_of_row _ GB 0 _ _ _ NR.out
            have c1 : wr.cell? ⟨GB, 1, none⟩ = some (.bool false) := cell_of_row _ GB 1 _ _ _ NR.out
            have ba := below_alloc wr (.cells #[.int .i64 2, .bool false] 73)
            have O6 := Lib.hid (ownI_later OW.out ba); have B6 := Lib.hid (thenBelow BR.out ba)
            have hl : l = [] := hl
            subst hl
            clear ba
            go_wp2
            go_roundw
            case rel => exact ⟨1, _, by omega, rfl, by go_num, O6.out, B6.out⟩
            case measure => simp [intOf]
          · have c0 : wr.cell? ⟨GB, 2, none⟩ = some (.int .i64 3) := cell_of_row _ GB 2 _ _ _ NR.out
            have c1 : wr.cell? ⟨GB, 3, none⟩ = some (.bool true) := cell_of_row _ GB 3 _ _ _ NR.out
            have ba := below_alloc wr (.cells #[.int .i64 3, .bool true] 73)
            have O6 := Lib.hid (ownI_later OW.out ba); have B6 := Lib.hid (thenBelow BR.out ba)
            have hl : l = [] := hl
            subst hl
            clear ba
            have n0 : (wr.alloc (.cells #[.int .i64 3, .bool true] 73)).cell? ⟨wr.heap.size, 0, none⟩ = some (.int .i64 3) := cell_of_row _ wr.heap.size 0 _ _ _ (heap_alloc_new wr _)
            go_upto_region 7 with fail
            clear c0 c1
            generalize wr.alloc (.cells #[.int .i64 3, .bool true] 73) = W6 at n0 O6 B6 ⊢
            generalize wr.heap.size = G9 at n0 ⊢
            have hz6 := B6.out.size
            go_wp2_with (at_builtin; refine wpList_int isI64 _ rfl _ _ rfl U2.heap.size 0 [] _ rfl O6.out _ rfl (by omega) hz6 ?_)
            intro v8 w8 o8 b8
            have O8 := Lib.hid o8; have B8 := Lib.hid (B6.out.trans b8)
            clear o8 b8 O6 B6 n0
            go_wp2
            go_roundw
            case rel => exact ⟨2, [3], by omega, rfl, by go_num, O8.out, B8.out⟩
            case measure => simp [intOf]
          · have c0 : wr.cell? ⟨GB, 4, none⟩ = some (.int .i64 4) := cell_of_row _ GB 4 _ _ _ NR.out
            have c1 : wr.cell? ⟨GB, 5, none⟩ = some (.bool false) := cell_of_row _ GB 5 _ _ _ NR.out
            have ba := below_alloc wr (.cells #[.int .i64 4, .bool false] 73)
            have O6 := Lib.hid (ownI_later OW.out ba); have B6 := Lib.hid (thenBelow BR.out ba)
            have hl : l = [3] := hl
            subst hl
            clear ba
            go_wp2
            go_roundw
            case rel => exact ⟨3, _, by omega, rfl, by go_num, O6.out, B6.out⟩
            case measure => simp [intOf]
          · have c0 : wr.cell? ⟨GB, 6, none⟩ = some (.int .i64 5) := cell_of_row _ GB 6 _ _ _ NR.out
            have c1 : wr.cell? ⟨GB, 7, none⟩ = some (.bool false) := cell_of_row _ GB 7 _ _ _ NR.out
            have ba := below_alloc wr (.cells #[.int .i64 5, .bool false] 73)
            have O6 := Lib.hid (ownI_later OW.out ba); have B6 := Lib.hid (thenBelow BR.out ba)
            have hl : l = [3] := hl
            subst hl
            clear ba
            go_wp2
            go_roundw
            case rel => exact ⟨4, _, by omega, rfl, by go_num, O6.out, B6.out⟩
            case measure => simp [intOf]
          · have c0 : wr.cell? ⟨GB, 8, none⟩ = some (.int .i64 6) := cell_of_row _ GB 8 _ _ _ NR.out
            have c1 : wr.cell? ⟨GB, 9, none⟩ = some (.bool false) := cell_of_row _ GB 9 _ _ _ NR.out
            have ba := below_alloc wr (.cells #[.int .i64 6, .bool false] 73)
            have O6 := Lib.hid (ownI_later OW.out ba); have B6 := Lib.hid (thenBelow BR.out ba)
            have hl : l = [3] := hl
            subst hl
            clear ba
            go_wp2
            go_roundw
            case rel => exact ⟨5, _, by omega, rfl, by go_num, O6.out, B6.out⟩
            case measure => simp [intOf]
          · have c0 : wr.cell? ⟨GB, 10, none⟩ = some (.int .i64 8) := cell_of_row _ GB 10 _ _ _ NR.out
            have c1 : wr.cell? ⟨GB, 11, none⟩ = some (.bool false) := cell_of_row _ GB 11 _ _ _ NR.out
            have ba := below_alloc wr (.cells #[.int .i64 8, .bool false] 73)
            have O6 := Lib.hid (ownI_later OW.out ba); have B6 := Lib.hid (thenBelow BR.out ba)
            have hl : l = [3] := hl
            subst hl
            clear ba
            go_wp2
            go_roundw
            case rel => exact ⟨6, _, by omega, rfl, by go_num, O6.out, B6.out⟩
            case measure => simp [intOf]
    exact wpAnyH_done (by kernel_rfl) (Eq.mp (by kernel_rfl) KE) _
  exact wpAnyH_done (by kernel_rfl) (Eq.mp (by kernel_rfl) KE) _
end Go.Proofs.YtkpldjiloinaoaaDoor
