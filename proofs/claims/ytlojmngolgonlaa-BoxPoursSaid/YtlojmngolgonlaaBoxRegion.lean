/- A region that leaves its order open, guarded operations and calls in it: each operation's rule where it comes up; pieces of slices of texts. -/
import Derived.Test.YtlojmngolgonlaaBoxCat
import Derived.OrdersHeld
import Derived.Deep.RegionHeld
namespace Go.Proofs.Ytlojmngolgonlaa
open Go Go.RowKit
set_option linter.unusedVariables false

section
variable {P : Program} {ops : Array Oper} {o : Oper} {a : Act} {w : World} {Q : Exit → Act → World → Prop} {K : Act → World → Prop} {i : Nat}
theorem wpOp_one (hi : ops[i]? = some o) (hw : Region.wanted o (yielded ops a.tmps) = true) (h : o.wp P a w K Q) : wpOp P ops Q i K a w := by
  unfold wpOp
  rw [hi]
  show if _ then _ else _
  rw [if_pos hw]
  exact Or.inl h
theorem wpOp_runTo (hi : ops[i]? = some o) (hw : Region.wanted o (yielded ops a.tmps) = true) (v : Value) (w' : World) (hrun : (execOp a.eval o).run P w = .ok (.value v) w') (h : K (a.put o.dst v) w') : wpOp P ops Q i K a w := by
  refine wpOp_one hi hw ?_
  unfold Oper.wp
  rw [hrun, Oper.upon_value]
  exact h
theorem wpOp_callG (hi : ops[i]? = some o) (hw : Region.wanted o (yielded ops a.tmps) = true) (f : FuncId) (args : Array Value) {Post : Ending → World → Prop} (hrun : (execOp a.eval o).run P w = .ok (.enter f args) w)
    (hc : Calls P f args w Post) (h : ∀ e w', Post e w' → ∃ v, e = .returned v ∧ K (a.put o.dst v) w') : wpOp P ops Q i K a w := by
  refine wpOp_one hi hw ?_
  unfold Oper.wp
  rw [hrun, Oper.upon_enter]
  exact hc.mono fun e w' he => by obtain ⟨v, rfl, hk⟩ := h _ _ he; exact hk
theorem wpAnyH_pure {md : Region.Mode} {fuel : Nat} {listed : Array Bool} (hi : ops[i]? = some o) (v : Value) (hs : Region.noSelect ops = true) (hf : Region.free md ops listed i = true) (hr : (Region.ready md ops listed).contains i = true)
    (hQ : ∀ c (a : Act) w v, Q (.panic c) (a.put o.dst v) w → Q (.panic c) a w) (hw : Region.wanted o (yielded ops a.tmps) = true) (hrun : ∀ w, (execOp a.eval o).run P w = .ok (.value v) w)
    (h : wpAnyH P md ops Q (fun _ => True) fuel (listed.setIfInBounds i true) (a.put o.dst v) w) : wpAnyH P md ops Q (fun _ => True) (fuel + 1) listed a w :=
  wpAnyH_take (v := v) hi hs hf hr (fun c a w => hQ c a w _) (Or.inl ⟨hw, fun w _ => hrun w⟩) trivial h
theorem wpAnyH_call1 {md : Region.Mode} {fuel : Nat} {listed : Array Bool} (i : Nat) (hr : Region.ready md ops listed = [i]) (hi : ops[i]? = some o) (hw : Region.wanted o (yielded ops a.tmps) = true) (f : FuncId) (args : Array Value) {Post : Ending → World → Prop} (hrun : (execOp a.eval o).run P w = .ok (.enter f args) w)
    (hc : Calls P f args w Post) (h : ∀ e w', Post e w' → ∃ v, e = .returned v ∧ wpAnyH P md ops Q (fun _ => True) fuel (listed.setIfInBounds i true) (a.put o.dst v) w') : wpAnyH P md ops Q (fun _ => True) (fuel + 1) listed a w :=
  wpAnyH_all hr (by simp) fun j hj => by
    obtain rfl := List.mem_singleton.1 hj
    exact wpOp_callG hi hw f args hrun hc fun e w' he => by obtain ⟨v, h1, h2⟩ := h e w' he; exact ⟨v, h1, trivial, h2⟩
theorem wpAnyH_run1 {md : Region.Mode} {fuel : Nat} {listed : Array Bool} (i : Nat) (hr : Region.ready md ops listed = [i]) (hi : ops[i]? = some o) (hw : Region.wanted o (yielded ops a.tmps) = true) (v : Value) (w' : World) (hrun : (execOp a.eval o).run P w = .ok (.value v) w')
    (h : wpAnyH P md ops Q (fun _ => True) fuel (listed.setIfInBounds i true) (a.put o.dst v) w') : wpAnyH P md ops Q (fun _ => True) (fuel + 1) listed a w :=
  wpAnyH_all hr (by simp) fun j hj => by
    obtain rfl := List.mem_singleton.1 hj
    exact wpOp_runTo hi hw v w' hrun ⟨trivial, h⟩
/-- a call or a block made, whichever comes up first -/
theorem wpAnyH_two {md : Region.Mode} {fuel : Nat} {listed : Array Bool} {o2 : Oper} (i j : Nat) (hr : Region.ready md ops listed = [i, j]) (hi : ops[i]? = some o) (hw : Region.wanted o (yielded ops a.tmps) = true) (f : FuncId) (args : Array Value) {Post : Ending → World → Prop} (hrun : (execOp a.eval o).run P w = .ok (.enter f args) w)
    (hc : Calls P f args w Post) (hj : ops[j]? = some o2) (hw2 : Region.wanted o2 (yielded ops a.tmps) = true) (v : Value) (w' : World) (hrun2 : (execOp a.eval o2).run P w = .ok (.value v) w')
    (h : ∀ e w', Post e w' → ∃ v, e = .returned v ∧ wpAnyH P md ops Q (fun _ => True) fuel (listed.setIfInBounds i true) (a.put o.dst v) w')
    (h2 : wpAnyH P md ops Q (fun _ => True) fuel (listed.setIfInBounds j true) (a.put o2.dst v) w') : wpAnyH P md ops Q (fun _ => True) (fuel + 1) listed a w :=
  wpAnyH_all hr (by simp) fun k hk => by
    rcases List.mem_cons.1 hk with rfl | hk
    · exact wpOp_callG hi hw f args hrun hc fun e w' he => by obtain ⟨v, h1, h2⟩ := h e w' he; exact ⟨v, h1, trivial, h2⟩
    · obtain rfl := List.mem_singleton.1 hk
      exact wpOp_runTo hj hw2 v w' hrun2 ⟨trivial, h2⟩
theorem wp_region_free {id n : Nat} (hm : P.follows .mixedOrders = true) (hn : ops.size = n) (h : wpAnyH P .any ops Q (fun _ => True) n (Array.replicate n false) a w.drew) : (Code.region id ops true).wp P Q a w := by
  subst hn
  exact wp_region_held_drew hm trivial fun _ => h
theorem run_value_of {m : Sem Value} {v : Value} {w w' : World} (h : m.run P w = .ok v w') : (do pure (Next.value (← m)) : Sem Next).run P w = .ok (.value v) w' := by
  simp [Sem.run_bind, h, Result.andThen]
end
theorem sizeT (w : World) : (sizeOf (Try.prog.elem 40)).run Try.prog w = .ok 1 w := by kernel_rfl
theorem elemT : Try.prog.underlying 40 = some (.slice (Try.prog.elem 40)) := by kernel_rfl
/-- where a piece from n on begins -/
def fromAt (p : Option Addr) (c n : Nat) : Option Addr := if c = n then p else p.map (·.add n)
theorem cut_from (p : Option Addr) (A c n : Nat) (w : World) (hn : n ≤ A) : (Instr.sliceAt 40 (.slice p A c) (some (.int .i64 (n : Int))) none none).run Try.prog w = .ok (.slice (fromAt p c n) (A - n) (c - n)) w := by
  rw [run_sliceAt_slice (h := elemT), run_slice_l (ht := elemT) (h0 := by omega) (h1 := by omega), sizeT]
  simp [Result.andThen, sliced, fromAt]
theorem cut_to (p : Option Addr) (A c n : Nat) (w : World) (hn : n ≤ c) : (Instr.sliceAt 40 (.slice p A c) none (some (.int .i64 (n : Int))) none).run Try.prog w = .ok (.slice p n c) w := by
  rw [run_sliceAt_slice (h := elemT), run_slice_h (ht := elemT) (h0 := by omega) (h2 := by omega), sizeT]
  simp only [Result.andThen, sliced, Int.toNat_natCast, Nat.zero_mul, Nat.sub_zero]
  cases p <;> simp [Addr.add]
section
variable {ops : Array Oper} {o : Oper} {a : Act} {w : World} {Q : Exit → Act → World → Prop} {i : Nat}
theorem wpAnyH_cutTo {md : Region.Mode} {fuel : Nat} {listed : Array Bool} (hi : ops[i]? = some o) (hs : Region.noSelect ops = true) (hf : Region.free md ops listed i = true) (hr : (Region.ready md ops listed).contains i = true)
    (hQ : ∀ c (a : Act) w v, Q (.panic c) (a.put o.dst v) w → Q (.panic c) a w) (hw : Region.wanted o (yielded ops a.tmps) = true) (x y : Operand) (ho : o.op = .slice 40 x none (some y) none)
    (p : Option Addr) (A c n : Nat) (hx : a.eval x = .slice p A c) (hy : a.eval y = .int .i64 (n : Int)) (hn : n ≤ c)
    (h : wpAnyH Try.prog md ops Q (fun _ => True) fuel (listed.setIfInBounds i true) (a.put o.dst (.slice p n c)) w) : wpAnyH Try.prog md ops Q (fun _ => True) (fuel + 1) listed a w := by
  refine wpAnyH_pure hi _ hs hf hr hQ hw (fun w => ?_) h
  unfold execOp
  simp only [ho, hx, Option.map_some, Option.map_none, hy]
  exact run_value_of (cut_to p A c n w hn)
theorem wpAnyH_cutFrom {md : Region.Mode} {fuel : Nat} {listed : Array Bool} (hi : ops[i]? = some o) (hs : Region.noSelect ops = true) (hf : Region.free md ops listed i = true) (hr : (Region.ready md ops listed).contains i = true)
    (hQ : ∀ c (a : Act) w v, Q (.panic c) (a.put o.dst v) w → Q (.panic c) a w) (hw : Region.wanted o (yielded ops a.tmps) = true) (x y : Operand) (ho : o.op = .slice 40 x (some y) none none)
    (p : Option Addr) (A c n m : Nat) (hx : a.eval x = .slice p A c) (hy : a.eval y = .int .i64 (n : Int)) (hn : n ≤ A) (hm : m = A - n)
    (h : wpAnyH Try.prog md ops Q (fun _ => True) fuel (listed.setIfInBounds i true) (a.put o.dst (.slice (fromAt p c n) m (c - n))) w) : wpAnyH Try.prog md ops Q (fun _ => True) (fuel + 1) listed a w := by
  subst hm
  refine wpAnyH_pure hi _ hs hf hr hQ hw (fun w => ?_) h
  unfold execOp
  simp only [ho, hx, Option.map_some, Option.map_none, hy]
  exact run_value_of (cut_from p A c n w hn)
end
theorem liesS_take {w : World} {p : Option Addr} {l : List ByteArray} (h : LiesS w p l) (k : Nat) : LiesS w p (l.take k) := by
  intro hne
  have hp : 0 < (l.take k).length := List.length_pos_iff.2 hne
  rw [List.length_take] at hp
  obtain ⟨b, o, e, _, hc⟩ := h.at (by omega)
  refine ⟨b, o, e, fun i hi => ?_⟩
  rw [List.length_take] at hi
  have := hc i (by omega)
  rw [this, List.getD, List.getD, List.getElem?_take, if_pos (by omega)]
theorem liesS_from {w : World} {p : Option Addr} {l : List ByteArray} (h : LiesS w p l) (c n : Nat) (hc : l.length ≤ c) : LiesS w (fromAt p c n) (l.drop n) := by
  intro hne
  have hp : 0 < (l.drop n).length := List.length_pos_iff.2 hne
  rw [List.length_drop] at hp
  obtain ⟨b, o, rfl, _, hcs⟩ := h.at (by omega)
  refine ⟨b, o + n, ?_, fun i hi => ?_⟩
  · unfold fromAt
    rw [if_neg (by omega)]
    cases n <;> simp [Addr.add]
  · rw [List.length_drop] at hi
    have := hcs (n + i) (by omega)
    rw [Nat.add_assoc, this, List.getD, List.getD, List.getElem?_drop]
theorem pair_at (w : World) (u v : Value) (t : TypeId) : (w.alloc (.cells #[u, v] t)).cell? ⟨w.heap.size, 0, none⟩ = some u ∧ (w.alloc (.cells #[u, v] t)).cell? ⟨w.heap.size, 1, none⟩ = some v := by
  constructor
  · rw [cell_of_row _ _ 0 _ _ _ (heap_alloc_new w _)]; rfl
  · rw [cell_of_row _ _ 1 _ _ _ (heap_alloc_new w _)]; rfl
end Go.Proofs.Ytlojmngolgonlaa
