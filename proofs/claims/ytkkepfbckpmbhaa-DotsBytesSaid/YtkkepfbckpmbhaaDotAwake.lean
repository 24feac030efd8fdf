/- The example that each law of layer 8 ends with. -/
import Derived.Test.YtkkepfbckpmbhaaDotTidy
namespace Go.Proofs.Ytkkepfbckpmbhaa
open Go Go.RowKit
set_option linter.unusedVariables false

def ex2 : Nat → Int := fun i => if i = 0 then 2 else 0
theorem built1 (w : World) : (Instr.build 25 #[(0, .int .i64 2)]).run Try.prog w = .ok (.agg (vf ex2)) w := by kernel_rfl
theorem six_mk (w : World) (t : TypeId) : Six (w.alloc (.cells #[.int .i64 0, .int .i64 4, .int .i64 0, .int .i64 3, .int .i64 0, .int .i64 6] t)) w.heap.size 4 3 6 := by
  have h := heap_alloc_new w (.cells #[.int .i64 0, .int .i64 4, .int .i64 0, .int .i64 3, .int .i64 0, .int .i64 6] t)
  refine ⟨?_, ?_, ?_, ?_, ?_, ?_, fun i => frozen_of_row _ _ _ _ _ h⟩
  all_goals rw [cell_of_row _ w.heap.size _ _ _ _ h]; rfl
section
variable {P : Program} {t : TypeId} {ops : Array Oper} {rest : List Oper} {o : Oper} {a : Act} {w : World} {Q : Exit → Act → World → Prop}
theorem wpList_gbuild (hw : Region.wanted o (yielded ops a.tmps) = true) (parts : Array (Nat × Operand)) (ho : o.op = .build t parts) (cs : Array Value) (hb : (Instr.build t (parts.map fun (i, x) => (i, a.eval x))).run P w = .ok (.agg cs) w)
    (h : wpList P ops Q rest (a.put o.dst (.agg cs)) w) : wpList P ops Q (o :: rest) a w := by
  refine BigFrame.wpList_want hw fun K hK => ?_
  unfold Oper.wp execOp
  simp only [ho, Sem.run_bind, hb, Result.andThen_ok]
  exact hK _ _ h
end
set_option maxHeartbeats 2000000 in
set_option maxRecDepth 100000 in
theorem awake8 (w : World) : Calls Try.prog 19 #[] w (Yes w) := by
  have S := Lib.hid (six_mk w 23)
  have B1 := Lib.hid (below_alloc w (.cells #[.int .i64 0, .int .i64 4, .int .i64 0, .int .i64 3, .int .i64 0, .int .i64 6] 23))
  have T := Lib.hid (tidy_ex ex2 w.heap.size 3 _ S.out rfl)
  go_enter Try.func19, Try.ntmps19
  go_wp2_with (first | refine wpList_vbuild (by rfl) _ rfl ex2 (by simp only [List.map_toArray, List.map_cons, List.map_nil, BigFrame.eval_const]; exact built1 _) ?_ | refine wpList_gbuild (by rfl) _ rfl (ccs ex2 (.slice (some ⟨w.heap.size, 0, none⟩) 3 3)) (by simp only [List.map_toArray, List.map_cons, List.map_nil]; exact builtC2 ex2 (some ⟨w.heap.size, 0, none⟩) 3 3 _) ?_)
  refine T.out.mono ?_
  rintro e w2 ⟨F, q, cap, rfl, hF, hq0, hq1, hb2⟩
  have B2 := Lib.hid (thenBelow B1.out hb2); have Q0 := Lib.hid hq0; have Q1 := Lib.hid hq1; have HF := Lib.hid hF
  clear hb2 T hq0 hq1 hF
  go_wp2_with (refine wpList_galloc _ zeroC rfl rfl ?_)
  intro g w3 lg hg hb3
  have B3 := Lib.hid (thenBelow B2.out hb3)
  have hqlt := World.block_lt_of_cell? _ _ Q0.out
  have lw := Nat.le_trans B2.out.size lg
  have q0 := Lib.hid ((hb3.cell (p := ⟨q, 0, none⟩) hqlt).trans Q0.out); have q1 := Lib.hid ((hb3.cell (p := ⟨q, 1, none⟩) hqlt).trans Q1.out)
  have hqg : q < g := Nat.lt_of_lt_of_le hqlt lg
  clear hb3 hqlt
  go_wp2_with (refine wpList_gstore rfl _ _ rfl g rfl (ccs F (.slice (some ⟨q, 0, none⟩) 1 cap)) rfl _ _ hg (sizeC _ _) (by rw [ccs_size, ccs_size]) (ccs_one F _ _ _) ?_)
  intro w4 h4 g4
  have C4 : Cx w4 g F (.slice (some ⟨q, 0, none⟩) 1 cap) := h4
  have B4 := Lib.hid (B3.out.trans (grown_below g4 B3.out.size lw))
  have r0 := g4.cell q0.out (by simp; omega); have r1 := g4.cell q1.out (by simp; omega)
  have s0 := C4.slot
  have s1 := C4.cell 0 (by omega)
  rw [HF.out] at s1
  clear C4 h4 g4 hg
  go_wp2
  go_ret
  exact ⟨ret_bool (by first | rfl | (simp; done)), B4.out⟩
end Go.Proofs.Ytkkepfbckpmbhaa
