/- Things of some cells by value, as a walk meets them: read from a place, a variable made, written whole. No number of a program stands here. -/
import Derived.Test.YtjmglgcifekhgaaDoorVecMat
namespace Go.Proofs.YtjmglgcifekhgaaDoor
open Go Go.RowKit
set_option linter.unusedVariables false

section
variable {P : Program} {t : TypeId} {ops : Array Oper} {rest : List Oper} {o : Oper} {a : Act} {w : World} {Q : Exit → Act → World → Prop}
theorem wpList_gload (hg : o.guard = none) (x : Operand) (ho : o.op = .load t x) (b c : Nat) (hx : a.eval x = .pointer (some ⟨b, c, none⟩)) (cs : List Value) (hr : w.rangeAt b c cs) (d : TypeDesc) (hu : P.underlying t = some d) (hd : d.isRow = true) (hi : (P.info? t).map (·.size) = some cs.length)
    (h : wpList P ops Q rest (a.put o.dst (.agg cs.toArray)) w) : wpList P ops Q (o :: rest) a w :=
  wpList_load_mid hg t x ho b c hx cs d hr hu hd hi h
theorem wpList_galloc (z : Value) (hz : ∀ w, (zeroValue t).run P w = .ok z w) (hg : o.guard = none) (ho : o.op = .alloc t)
    (h : ∀ g w', w.heap.size ≤ g → w'.heap[g]? = some (.cells z.cells t (0, 0)) → Below w.heap.size w w' → wpList P ops Q rest (a.put o.dst (.pointer (some ⟨g, 0, none⟩))) w') : wpList P ops Q (o :: rest) a w := by
  refine Great.wpList_runTo hg o.dst rfl (.pointer (some ⟨w.heap.size, 0, none⟩)) (w.alloc (.cells z.cells t)) ?_ (h _ _ (Nat.le_refl _) (heap_alloc_new w _) (below_alloc w _))
  unfold execOp
  simp only [ho, Instr.alloc, Sem.run_bind, hz, Result.andThen_ok]
  rfl
theorem wpList_gbox (hg : o.guard = none) (x : Operand) (ho : o.op = .box t x) (cs : Array Value) (hx : a.eval x = .agg cs)
    (h : ∀ g w', w.heap.size ≤ g → w'.heap[g]? = some (.cells cs t (0, 0)) → Below w.heap.size w w' → wpList P ops Q rest (a.put o.dst (.pointer (some ⟨g, 0, none⟩))) w') : wpList P ops Q (o :: rest) a w := by
  refine Great.wpList_runTo hg o.dst rfl (.pointer (some ⟨w.heap.size, 0, none⟩)) (w.alloc (.cells cs t)) ?_ (h _ _ (Nat.le_refl _) (heap_alloc_new w _) (below_alloc w _))
  unfold execOp
  simp only [ho, hx]
  rfl
theorem grown_setRow {g : Nat} {cs old : Array Value} {ty : TypeId} {m : Nat × Nat} (h : w.heap[g]? = some (.cells old ty m)) : w.grownBy (w.setRow g cs) (some g) ∧ (w.setRow g cs).heap[g]? = some (.cells cs ty m) := by
  refine ⟨⟨rfl, rfl, rfl, by simp [World.setRow], fun i hi hne => ?_⟩, ?_⟩
  · show (w.heap.modify g _)[i]? = _
    rw [Array.getElem?_modify, if_neg (fun e => hne (by rw [e]))]
  · show (w.heap.modify g _)[g]? = _
    rw [Array.getElem?_modify, if_pos rfl, h]
    rfl
theorem wpList_gstore (hg : o.guard = none) (x y : Operand) (ho : o.op = .store t x y) (g : Nat) (hx : a.eval x = .pointer (some ⟨g, 0, none⟩)) (cs : Array Value) (hy : a.eval y = .agg cs) (ty : TypeId) (old : Array Value) (hr : w.heap[g]? = some (.cells old ty (0, 0)))
    (hi : (P.info? t).map (·.size) = some cs.size) (hold : old.size = cs.size) (h1 : ∀ v ∈ cs.toList, v.oneCell' = true)
    (h : ∀ w', w'.heap[g]? = some (.cells cs ty (0, 0)) → w.grownBy w' (some g) → wpList P ops Q rest (a.put o.dst undef) w') : wpList P ops Q (o :: rest) a w :=
  wpList_store_row hg t x y ho g cs hx hy ty old hr hi hold (Array.all_eq_true_iff_forall_mem.2 (fun v hv => h1 v (by simpa using hv)))
    (h _ (grown_setRow hr).2 (grown_setRow hr).1)
theorem wpList_gloadG (hw : Region.wanted o (yielded ops a.tmps) = true) (x : Operand) (ho : o.op = .load t x) (b c : Nat) (hx : a.eval x = .pointer (some ⟨b, c, none⟩)) (cs : List Value) (hr : w.rangeAt b c cs) (d : TypeDesc) (hu : P.underlying t = some d) (hd : d.isRow = true) (hi : (P.info? t).map (·.size) = some cs.length)
    (h : wpList P ops Q rest (a.put o.dst (.agg cs.toArray)) w) : wpList P ops Q (o :: rest) a w := by
  refine BigFrame.wpList_want hw fun K hK => ?_
  exact wp_load_mid t x ho b c hx cs d hr hu hd hi (hK _ _ h)
theorem range_of_block {g : Nat} {cs : Array Value} {ty : TypeId} {m : Nat × Nat} (h : w.heap[g]? = some (.cells cs ty m)) : w.rangeAt g 0 cs.toList := fun j v hv => by
  rw [cell_of_row w g (0 + j) _ _ _ h, Nat.zero_add]; simpa using hv
end
end Go.Proofs.YtjmglgcifekhgaaDoor
