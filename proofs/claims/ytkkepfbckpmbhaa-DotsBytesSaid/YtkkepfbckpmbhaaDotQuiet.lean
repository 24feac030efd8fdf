/- Quiet regions over rows of 64: reads that are guarded. -/
import Derived.Test.YtkkepfbckpmbhaaDotAwake
import Derived.Test.YtkkepfbckpmbhaaVecRows
namespace Go.Proofs.Ytkkepfbckpmbhaa
open Go Go.RowKit
set_option linter.unusedVariables false

section
variable {P : Program} {t e : TypeId} {ops : Array Oper} {rest : List Oper} {o : Oper} {a : Act} {C : World → Prop} {R : Act → Prop}
theorem wpQuiet_valG {v : Value} (hw : Region.wanted o (yielded ops a.tmps) = true) (h : ∀ w, C w → (execOp a.eval o).run P w = .ok (.value v) w) (hk : wpQuiet P ops C R rest (a.put o.dst v)) : wpQuiet P ops C R (o :: rest) a := by
  refine wpQuiet_step fun K hK => ?_
  rw [if_pos hw]
  exact ⟨v, fun w hw => by unfold Oper.quietAt; rw [h w hw]; exact ⟨rfl, rfl⟩, hK _ hk⟩
theorem wpQuiet_vloadG (V : Vec P t e) (hw : Region.wanted o (yielded ops a.tmps) = true) (x : Operand) (ho : o.op = .load t x) (g : Nat) (hx : a.eval x = .pointer (some ⟨g, 0, none⟩)) (ty : TypeId) (f : Nat → Int) (hr : ∀ w, C w → Row w g ty f)
    (hk : wpQuiet P ops C R rest (a.put o.dst (.agg (vf f)))) : wpQuiet P ops C R (o :: rest) a := by
  refine wpQuiet_valG hw (fun w hw => ?_) hk
  unfold execOp
  simp only [ho, hx, Sem.run_bind, V.loadAt (hr w hw), Result.andThen_ok]
  rfl
end
end Go.Proofs.Ytkkepfbckpmbhaa
