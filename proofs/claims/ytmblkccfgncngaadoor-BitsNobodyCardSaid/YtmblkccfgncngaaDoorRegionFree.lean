/- A region that leaves its order open, guarded operations and calls in it: each operation's rule where it comes up (no number of a program stands here). -/
import Derived.Test.YtmblkccfgncngaaDoorProg
import Derived.WalkKit
import Derived.OrdersHeld
import Derived.Deep.RegionHeld
namespace Go.Proofs.YtmblkccfgncngaaDoor
open Go Go.RowKit
set_option linter.unusedVariables false

section
variable {P : Program} {ops : Array Oper} {o : Oper} {a : Act} {w : World} {Q : Exit → Act → World → Prop} {K : Act → World → Prop} {i : Nat}
theorem wpOp_one (hi : ops[i]? = some o) (hw : Region.wanted o (yielded ops a.tmps) = true) (h : o.wp P a w K Q) : wpOp P ops Q i K a w := by
  unfold wpOp
  rw [hi]
  show if _ then _ else _
  rw [if_pos hw]
  exact Or.inl h
theorem wpOp_runTo (hi : ops[i]? = some o) (hw : Region.wanted o (yielded ops a.tmps) = true) (v : Value) (w' : World) (hrun : (execOp a.eval o).run P w = .ok (.value v) w') (h : K (a.put o.dst v) w') : wpOp P ops Q i K a w := by
  refine wpOp_one hi hw ?_
  unfold Oper.wp
  rw [hrun, Oper.upon_value]
  exact h
theorem wpOp_callG (hi : ops[i]? = some o) (hw : Region.wanted o (yielded ops a.tmps) = true) (f : FuncId) (args : Array Value) {Post : Ending → World → Prop} (hrun : (execOp a.eval o).run P w = .ok (.enter f args) w)
    (hc : Calls P f args w Post) (h : ∀ e w', Post e w' → ∃ v, e = .returned v ∧ K (a.put o.dst v) w') : wpOp P ops Q i K a w := by
  refine wpOp_one hi hw ?_
  unfold Oper.wp
  rw [hrun, Oper.upon_enter]
  exact hc.mono fun e w' he => by obtain ⟨v, rfl, hk⟩ := h _ _ he; exact hk
theorem wpAnyH_pure {md : Region.Mode} {fuel : Nat} {listed : Array Bool} (hi : ops[i]? = some o) (v : Value) (hs : Region.noSelect ops = true) (hf : Region.free md ops listed i = true) (hr : (Region.ready md ops listed).contains i = true)
    (hQ : ∀ c (a : Act) w v, Q (.panic c) (a.put o.dst v) w → Q (.panic c) a w) (hw : Region.wanted o (yielded ops a.tmps) = true) (hrun : ∀ w, (execOp a.eval o).run P w = .ok (.value v) w)
    (h : wpAnyH P md ops Q (fun _ => True) fuel (listed.setIfInBounds i true) (a.put o.dst v) w) : wpAnyH P md ops Q (fun _ => True) (fuel + 1) listed a w :=
  wpAnyH_take (v := v) hi hs hf hr (fun c a w => hQ c a w _) (Or.inl ⟨hw, fun w _ => hrun w⟩) trivial h
theorem wpAnyH_call1 {md : Region.Mode} {fuel : Nat} {listed : Array Bool} (i : Nat) (hr : Region.ready md ops listed = [i]) (hi : ops[i]? = some o) (hw : Region.wanted o (yielded ops a.tmps) = true) (f : FuncId) (args : Array Value) {Post : Ending → World → Prop} (hrun : (execOp a.eval o).run P w = .ok (.enter f args) w)
    (hc : Calls P f args w Post) (h : ∀ e w', Post e w' → ∃ v, e = .returned v ∧ wpAnyH P md ops Q (fun _ => True) fuel (listed.setIfInBounds i true) (a.put o.dst v) w') : wpAnyH P md ops Q (fun _ => True) (fuel + 1) listed a w :=
  wpAnyH_all hr (by simp) fun j hj => by
    obtain rfl := List.mem_singleton.1 hj
    exact wpOp_callG hi hw f args hrun hc fun e w' he => by obtain ⟨v, h1, h2⟩ := h e w' he; exact ⟨v, h1, trivial, h2⟩
theorem wpAnyH_run1 {md : Region.Mode} {fuel : Nat} {listed : Array Bool} (i : Nat) (hr : Region.ready md ops listed = [i]) (hi : ops[i]? = some o) (hw : Region.wanted o (yielded ops a.tmps) = true) (v : Value) (w' : World) (hrun : (execOp a.eval o).run P w = .ok (.value v) w')
    (h : wpAnyH P md ops Q (fun _ => True) fuel (listed.setIfInBounds i true) (a.put o.dst v) w') : wpAnyH P md ops Q (fun _ => True) (fuel + 1) listed a w :=
  wpAnyH_all hr (by simp) fun j hj => by
    obtain rfl := List.mem_singleton.1 hj
    exact wpOp_runTo hi hw v w' hrun ⟨trivial, h⟩
/-- a call or a block made, whichever comes up first -/
theorem wpAnyH_two {md : Region.Mode} {fuel : Nat} {listed : Array Bool} {o2 : Oper} (i j : Nat) (hr : Region.ready md ops listed = [i, j]) (hi : ops[i]? = some o) (hw : Region.wanted o (yielded ops a.tmps) = true) (f : FuncId) (args : Array Value) {Post : Ending → World → Prop} (hrun : (execOp a.eval o).run P w = .ok (.enter f args) w)
    (hc : Calls P f args w Post) (hj : ops[j]? = some o2) (hw2 : Region.wanted o2 (yielded ops a.tmps) = true) (v : Value) (w' : World) (hrun2 : (execOp a.eval o2).run P w = .ok (.value v) w')
    (h : ∀ e w', Post e w' → ∃ v, e = .returned v ∧ wpAnyH P md ops Q (fun _ => True) fuel (listed.setIfInBounds i true) (a.put o.dst v) w')
    (h2 : wpAnyH P md ops Q (fun _ => True) fuel (listed.setIfInBounds j true) (a.put o2.dst v) w') : wpAnyH P md ops Q (fun _ => True) (fuel + 1) listed a w :=
  wpAnyH_all hr (by simp) fun k hk => by
    rcases List.mem_cons.1 hk with rfl | hk
    · exact wpOp_callG hi hw f args hrun hc fun e w' he => by obtain ⟨v, h1, h2⟩ := h e w' he; exact ⟨v, h1, trivial, h2⟩
    · obtain rfl := List.mem_singleton.1 hk
      exact wpOp_runTo hj hw2 v w' hrun2 ⟨trivial, h2⟩
theorem wp_region_free {id n : Nat} (hm : P.follows .mixedOrders = true) (hn : ops.size = n) (h : wpAnyH P .any ops Q (fun _ => True) n (Array.replicate n false) a w.drew) : (Code.region id ops true).wp P Q a w := by
  subst hn
  exact wp_region_held_drew hm trivial fun _ => h
theorem run_value_of {m : Sem Value} {v : Value} {w w' : World} (h : m.run P w = .ok v w') : (do pure (Next.value (← m)) : Sem Next).run P w = .ok (.value v) w' := by
  simp [Sem.run_bind, h, Result.andThen]
end
end Go.Proofs.YtmblkccfgncngaaDoor
