/- past: Add of any past. -/
import Derived.Test.YtimfcedkmdbnfaaPastAdd
namespace Go.Proofs.Ytimfcedkmdbnfaa
open Go Go.RowKit
set_option linter.unusedVariables false

theorem sizeEv (x : EvP) : (Try.prog.info? 35).map (·.size) = some x.cells.length := by rw [EvP.cells_len]; kernel_rfl
theorem evs_one {w : World} {g : Nat} {x : EvP} (h : x.Ok w) (hg : w.rangeAt g 0 x.cells) : EvsAt w (some ⟨g, 0, none⟩) [x] :=
  ⟨fun _ => ⟨g, 0, rfl, by simpa [ecl] using hg⟩, fun y hy => by obtain rfl := List.mem_singleton.1 hy; exact h, fun e => by cases e⟩
theorem exec_pbuild {P : Program} {o : Oper} {a : Act} {w : World} (t : TypeId) (parts : Array (Nat × Operand)) (ho : o.op = .build t parts) (cs : Array Value) (hb : (Instr.build t (parts.map fun (i, x) => (i, a.eval x))).run P w = .ok (.agg cs) w) :
    (execOp a.eval o).run P w = .ok (.value (.agg cs)) w := by
  unfold execOp
  simp only [ho, Sem.run_bind, hb, Result.andThen_ok]
  rfl
theorem builtP2 (p : Option Addr) (n c : Nat) (f : Nat → Int) (w : World) : (Instr.build 26 #[(0, .slice p n c), (1, .agg (vf f))]).run Try.prog w = .ok (.agg (pcs (.slice p n c) f)) w := run_build w _ _ _ (by kernel_rfl)
end Go.Proofs.Ytimfcedkmdbnfaa
