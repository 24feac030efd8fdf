/- A region that leaves its order open, in which a block is made beside calls: each operation's rule where it comes up, and one continuation for all orders. No number of a program stands here. -/
import Derived.Test.YtkejonihciliaaaVecJoin
import Derived.OrdersHeld
import Derived.Deep.RegionHeld
namespace Go.Proofs.Ytkejonihciliaaa
open Go Go.RowKit
set_option linter.unusedVariables false

section
variable {P : Program} {ops : Array Oper} {o : Oper} {a : Act} {w : World} {Q : Exit → Act → World → Prop} {K : Act → World → Prop} {i : Nat} {t e : TypeId}
theorem wpOp_one (hi : ops[i]? = some o) (hg : o.guard = none) (h : o.wp P a w K Q) : wpOp P ops Q i K a w := by
  unfold wpOp
  rw [hi]
  show if _ then _ else _
  rw [if_pos (by simp [Region.wanted, hg])]
  exact Or.inl h
theorem wpOp_runTo (hi : ops[i]? = some o) (hg : o.guard = none) (v : Value) (w' : World) (hrun : (execOp a.eval o).run P w = .ok (.value v) w') (h : K (a.put o.dst v) w') : wpOp P ops Q i K a w := by
  refine wpOp_one hi hg ?_
  unfold Oper.wp
  rw [hrun, Oper.upon_value]
  exact h
theorem wpOp_enter (hi : ops[i]? = some o) (hg : o.guard = none) (f : FuncId) (args : Array Value) (g : Nat → Int) (hrun : (execOp a.eval o).run P w = .ok (.enter f args) w)
    (hc : Calls P f args w (RetVec w g)) (h : ∀ w', Below w.heap.size w w' → K (a.put o.dst (.agg (vf g))) w') : wpOp P ops Q i K a w := by
  refine wpOp_one hi hg ?_
  unfold Oper.wp
  rw [hrun, Oper.upon_enter]
  exact hc.mono fun e w' he => by obtain ⟨rfl, hw⟩ := he; exact h _ hw
theorem wpOp_valloc (hz : ∀ w, (zeroValue t).run P w = .ok (.agg (vf fun _ => 0)) w) (hi : ops[i]? = some o) (hg : o.guard = none) (ho : o.op = .alloc t)
    (h : ∀ g w', w.heap.size ≤ g → Row w' g t (fun _ => 0) → Below w.heap.size w w' → K (a.put o.dst (.pointer (some ⟨g, 0, none⟩))) w') : wpOp P ops Q i K a w := by
  refine wpOp_runTo hi hg (.pointer (some ⟨w.heap.size, 0, none⟩)) (w.alloc (.cells (vf fun _ => 0) t)) ?_ (h _ _ (Nat.le_refl _) (heap_alloc_new w _) (below_alloc w _))
  unfold execOp
  simp only [ho, Instr.alloc, Sem.run_bind, hz, Result.andThen_ok]
  rfl
theorem wpOp_vstore (V : Vec P t e) (hi : ops[i]? = some o) (hg : o.guard = none) (x y : Operand) (ho : o.op = .store t x y) (g : Nat) (hx : a.eval x = .pointer (some ⟨g, 0, none⟩)) (f : Nat → Int) (hy : a.eval y = .agg (vf f)) (ty : TypeId) (f0 : Nat → Int) (hr : Row w g ty f0)
    (h : ∀ w', Row w' g ty f → w.grownBy w' (some g) → K (a.put o.dst undef) w') : wpOp P ops Q i K a w :=
  wpOp_one hi hg (wp_store_row t x y ho g (vf f) hx hy ty (vf f0) hr (by rw [vf_size]; exact V.whole) (by rw [vf_size, vf_size]) (vf_one f) (h _ (grown_row hr f).2 (grown_row hr f).1))
/-- a row read whole, taken first -/
theorem wpAnyH_vload {md : Region.Mode} {S : World → Prop} {fuel : Nat} {listed : Array Bool} (V : Vec P t e) (hi : ops[i]? = some o) (hs : Region.noSelect ops = true) (hf : Region.free md ops listed i = true) (hr : (Region.ready md ops listed).contains i = true)
    (hQ : ∀ c (a : Act) w v, Q (.panic c) (a.put o.dst v) w → Q (.panic c) a w) (hg : o.guard = none) (x : Operand) (ho : o.op = .load t x) (g : Nat) (hx : a.eval x = .pointer (some ⟨g, 0, none⟩)) (ty : TypeId) (f : Nat → Int) (hrow : ∀ w, S w → Row w g ty f) (hS : S w)
    (h : wpAnyH P md ops Q S fuel (listed.setIfInBounds i true) (a.put o.dst (.agg (vf f))) w) : wpAnyH P md ops Q S (fuel + 1) listed a w := by
  refine wpAnyH_take (v := .agg (vf f)) hi hs hf hr (fun c a w => hQ c a w _) (Or.inl ⟨by simp [Region.wanted, hg], fun w hw => ?_⟩) hS h
  unfold execOp
  simp only [ho, hx, Sem.run_bind, V.loadAt (hrow w hw), Result.andThen_ok]
  rfl
/-- the beginning: the n operations in whatever order, all ending at acts that one function gives, with F -/
theorem wp_region_alloc {id n : Nat} {S : World → Prop} (F : Nat → World → Prop) {act : Nat → Act} (hm : P.follows .mixedOrders = true) (hn : ops.size = n) (hS : S w.drew)
    (h : (∀ g w', F g w' → Q .normal (act g) w') → wpAnyH P .any ops Q S n (Array.replicate n false) a w.drew)
    (hK : ∀ g w', F g w' → Q .normal (act g) w') : (Code.region id ops true).wp P Q a w := by
  subst hn
  exact wp_region_held_drew hm hS fun _ => h hK
end
end Go.Proofs.Ytkejonihciliaaa
