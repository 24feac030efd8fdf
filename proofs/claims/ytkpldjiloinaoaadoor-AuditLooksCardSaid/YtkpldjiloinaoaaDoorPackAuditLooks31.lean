/- The statement AuditLooks, proved for every input that its row reads: part 31 of 54. -/
import Derived.Test.YtkpldjiloinaoaaDoorPackAuditLooks22
import Derived.Test.YtkpldjiloinaoaaDoorPackAuditLooks30
/- The front made; nothing looked for; an event passed. -/
namespace Go.Proofs.YtkpldjiloinaoaaDoor
open Go Go.RowKit
set_option linter.unusedVariables false
set_option maxRecDepth 1000000

theorem mkDots (W : World) : (Instr.makeMap 65 none).run Tryd.prog W = .ok (.map (some W.heap.size)) (W.alloc (.map #[] 0)) := by
  unfold Instr.makeMap
  simp only [Sem.run_bind, run_underlying Tryd.underlying65, Result.andThen_ok]
  rfl
theorem mkInts (W : World) : (Instr.makeMap 66 none).run Tryd.prog W = .ok (.map (some W.heap.size)) (W.alloc (.map #[] 0)) := by
  unfold Instr.makeMap
  simp only [Sem.run_bind, run_underlying Tryd.underlying66, Result.andThen_ok]
  rfl
theorem builtA (r1 r2 r3 : Nat) (w : World) : (Instr.build 68 #[(0, .agg (vf fun _ => 0)), (1, .map (some r1)), (2, .map (some r2)), (3, .map (some r3))]).run Tryd.prog w = .ok (.agg (acs r1 r2 r3)) w := run_build w _ _ _ (by kernel_rfl)
theorem sizeA (r1 r2 r3 : Nat) : (Tryd.prog.info? 68).map (·.size) = some (acs r1 r2 r3).size := by rw [acs_size]; kernel_rfl
def BeginR (w : World) (e : Ending) (w' : World) : Prop := ∃ A r1 r2 r3, e = .returned (.pointer (some ⟨A, 0, none⟩)) ∧ Front w' A r1 r2 r3 ∧ w.heap.size ≤ A ∧ w.heap.size ≤ r1 ∧ w.heap.size ≤ r2 ∧ w.heap.size ≤ r3 ∧ r2 ≠ r3 ∧ Below w.heap.size w w'
set_option maxHeartbeats 4000000 in
theorem begin_is (w : World) : Calls Tryd.prog 15 #[.agg (scs (fun _ => 0) (.slice none 0 0))] w (BeginR w) := by
  go_enter Tryd.func15, Tryd.ntmps15
  go_wp2_with (refine wpList_gbox rfl _ rfl (scs (fun _ => 0) (.slice none 0 0)) rfl ?_)
  intro g1 w1 l1 h1 hb1
  have S1 : Hid (Sx w1 g1 (fun _ => 0) (.slice none 0 0)) := Lib.hid h1
  have B1 := Lib.hid hb1
  clear h1 hb1
  have V1 := Lib.hid S1.out.vec
  have m1 := mkDots w1
  have m2 := mkDots (w1.alloc (.map #[] 0))
  have m3 := mkInts ((w1.alloc (.map #[] 0)).alloc (.map #[] 0))
  have BA := Lib.hid builtA
  have hs1 : (w1.alloc (.map #[] 0)).heap.size = w1.heap.size + 1 := by simp
  have hs2 : ((w1.alloc (.map #[] 0)).alloc (.map #[] 0)).heap.size = w1.heap.size + 2 := by simp
  have q1 := below_alloc w1 (.map #[] 0)
  have q2 := below_alloc (w1.alloc (.map #[] 0)) (.map #[] 0)
  have q3 := below_alloc ((w1.alloc (.map #[] 0)).alloc (.map #[] 0)) (.map #[] 0)
  have M3 : Hid (DSet (((w1.alloc (.map #[] 0)).alloc (.map #[] 0)).alloc (.map #[] 0)) w1.heap.size [] ∧ DSet (((w1.alloc (.map #[] 0)).alloc (.map #[] 0)).alloc (.map #[] 0)) (w1.heap.size + 1) [] ∧ (((w1.alloc (.map #[] 0)).alloc (.map #[] 0)).alloc (.map #[] 0)).heap[w1.heap.size + 2]? = some (.map (ents []).toArray 0) ∧ Below w1.heap.size w1 (((w1.alloc (.map #[] 0)).alloc (.map #[] 0)).alloc (.map #[] 0))) := Lib.hid ⟨((dset_new w1).later q2).later q3, by have := (dset_new (w1.alloc (.map #[] 0))).later q3; rw [hs1] at this; exact this, by have := heap_alloc_new ((w1.alloc (.map #[] 0)).alloc (.map #[] 0)) (.map #[] 0); rw [hs2] at this; exact this, thenBelow (thenBelow q1 q2) q3⟩
  clear q1 q2 q3 hs1 hs2
  go_wp2_with (first | refine wpList_gload rfl _ rfl g1 0 rfl _ V1.out _ Tryd.underlying23 rfl (sizeVcl _) ?_ | refine wpList_pbuild (by rfl) _ rfl (acs w1.heap.size (w1.heap.size + 1) (w1.heap.size + 2)) (by simp only [List.map_toArray, List.map_cons, List.map_nil]; exact BA.out _ _ _ _) ?_ | refine wpList_gbox rfl _ rfl (acs w1.heap.size (w1.heap.size + 1) (w1.heap.size + 2)) rfl ?_)
  intro A w5 lA hA hbA
  clear m1 m2 m3 BA V1
  have sz4 : (((w1.alloc (.map #[] 0)).alloc (.map #[] 0)).alloc (.map #[] 0)).heap.size = w1.heap.size + 1 + 1 + 1 := by simp
  have lw := B1.out.size
  generalize ((w1.alloc (.map #[] 0)).alloc (.map #[] 0)).alloc (.map #[] 0) = w4 at M3 lA hbA sz4
  rw [← sz4] at lA hbA
  clear sz4
  have F5 : Hid (Front w5 A w1.heap.size (w1.heap.size + 1) (w1.heap.size + 2)) := Lib.hid ⟨hA, M3.out.1.later hbA, M3.out.2.1.later hbA, (hbA.block _ (Array.getElem?_eq_some_iff.1 M3.out.2.2.1).1).trans M3.out.2.2.1⟩
  have lA' : w.heap.size ≤ A := Nat.le_trans lw (Nat.le_trans M3.out.2.2.2.size lA)
  have S5 := Lib.hid ((S1.out.later M3.out.2.2.2).later hbA)
  have B5 := Lib.hid (thenBelow (thenBelow B1.out M3.out.2.2.2) hbA)
  have k64 := S5.out.slot
  generalize w1.heap.size = H1 at F5 lw
  clear hA hbA M3 S1 B1 S5
  go_wp2
  clear k64
  go_loopw [16] (fun i wr => i = .int .i64 0 ∧ wr = w5) (fun i _ => 0)
  case atStart => exact ⟨rfl, rfl⟩
  case round =>
    obtain ⟨rfl, rfl⟩ := hrel
    go_wp2
    go_ret
    exact ⟨A, _, _, _, rfl, F5.out, lA', lw, by omega, by omega, by omega, B5.out⟩
/-- nothing is to be found where nothing is -/
theorem noneIdx_is (F : FuncId) (bd caps : Array Value) (w : World) : Calls Tryd.prog 51 #[.slice none 0 0, .func (.func F) bd caps] w fun e w' => e = .returned (.int .i64 (-1)) ∧ Below w.heap.size w w' := by
  go_enter Tryd.func51, Tryd.ntmps51
  go_wp2
  go_loopw [8] (fun i wr => i = .int .i64 0 ∧ wr = w) (fun i _ => 0)
  case atStart => exact ⟨rfl, rfl⟩
  case round =>
    obtain ⟨rfl, rfl⟩ := hrel
    go_wp2
    go_ret
    exact ⟨rfl, Below.refl _ _⟩
theorem none_is (F : FuncId) (bd caps : Array Value) (w : World) : Calls Tryd.prog 32 #[.slice none 0 0, .func (.func F) bd caps] w (RetBool w false) := by
  have NI := Lib.hid (noneIdx_is F bd caps w)
  go_enter Tryd.func32, Tryd.ntmps32
  go_wp2_with fail
  refine NI.out.mono ?_
  rintro e w2 ⟨rfl, hb⟩
  have HB := Lib.hid hb
  clear hb NI
  go_wp2
  go_ret
  exact ⟨rfl, HB.out⟩
/-- the example's event -/
def auE : Ev := ⟨0, 1, 1, 1, ⟨#[97]⟩, 1, ⟨#[120]⟩, []⟩
def auP : EvP := ⟨auE, none, 0⟩
theorem auHead : headB auE = true := (head_iff auE).2 ⟨by decide, by decide, by decide +kernel, goB_iff.2 ⟨by decide, fun i h => absurd h (by simp [auE]), fun i h => absurd h (by simp [auE])⟩⟩
theorem auChk : chk auE = 0 := by rw [chk_put auHead rfl]; decide +kernel
theorem builtAu (w : World) : (Instr.build 48 #[(0, .agg #[.int .i64 0, .int .i64 1]), (1, .int .i64 1), (2, .int .i64 1), (3, .string ⟨#[97]⟩), (4, .int .i64 1), (5, .string ⟨#[120]⟩)]).run Tryd.prog w = .ok (.agg auP.cells.toArray) w := run_build w _ _ _ (by kernel_rfl)
/-- docs.Check of it -/
theorem auCheck (w : World) (hT : Shapes w) : Calls Tryd.prog 29 #[.agg auP.cells.toArray] w fun e w' => e = .returned (.int .i64 0) ∧ Below w.heap.size w w' := by
  have h := check_is auP w ⟨DRow.nil _ _, fun _ => rfl⟩ hT
  rw [show chk auP.e = 0 from auChk] at h
  exact h
theorem canNone : canB (fun _ => 0) [] = true := can_iff.2 ⟨by decide +kernel, by simp, (fun y hy => absurd hy (by simp)), List.Pairwise.nil⟩
end Go.Proofs.YtkpldjiloinaoaaDoor
