/- A region that leaves its order open, within a round of a loop over an iterator; and what some of its operations run to. -/
import Derived.Test.YtldfomggeleolaaDoorTokEach
import Derived.Test.YtldfomggeleolaaDoorRegionFree
import Derived.OrdersIn
import Derived.Maps.OwnSet
namespace Go.Proofs.YtldfomggeleolaaDoor
open Go Go.RowKit Go.Shelf
set_option linter.unusedVariables false

section
variable {P : Program} {ops : Array Oper} {Q Q' : Exit → Act → World → Prop} {md : Region.Mode} {K : Act → World → Prop} {a : Act} {w : World} {S : World → Prop}
theorem round_any (hQ : ¬ LetsOut Q) (hd : ∀ (i : Nat) (o : Oper), ops[i]? = some o → ∀ c, o.op ≠ .defer c) (l n : Nat) : ∀ (fuel : Nat) (listed : Array Bool) (a : Act) (w : World), wpAny P md ops Q fuel listed a w → wpAnyIn (Fence.wide.inRound l) n P md ops Q fuel listed a w
  | 0, _, _, _, h => h
  | fuel + 1, listed, a, w, h => ⟨h.1, fun i hi => by
      have h2 := h.2 i hi
      have ih := round_any hQ hd l n fuel (listed.setIfInBounds i true)
      unfold wpOp at h2
      unfold wpOpIn
      cases ho : ops[i]? with
      | none => rw [ho] at h2; exact ih _ _ h2
      | some o =>
        rw [ho] at h2
        show if _ then _ else _
        replace h2 : if Region.wanted o (yielded ops a.tmps) then o.wp P a w (wpAny P md ops Q fuel (listed.setIfInBounds i true)) Q ∨ (o.asks P a w ∧ LetsOut Q) else wpAny P md ops Q fuel (listed.setIfInBounds i true) (a.put o.dst undef) w := h2
        split at h2
        · rename_i hw
          rw [if_pos hw]
          exact operIn_of_oper l n (hd i o ho) ih (h2.resolve_right fun x => hQ x.2)
        · rename_i hw
          rw [if_neg hw]
          exact ⟨fun _ _ => trivial, ih _ _ h2⟩⟩
/-- THE REGION: within a round as elsewhere -/
theorem rg_round {id m : Nat} (l n : Nat) (hm : P.follows .mixedOrders = true) (hn : ops.size = m) (hd : (ops.toList.all fun o => match o.op with | .defer _ => false | _ => true) = true)
    (h : wpAnyH P .any ops (Exit.then K (fun _ _ _ => False)) S m (Array.replicate m false) a w.drew) : (Code.region id ops true).wpIn (Fence.wide.inRound l) n P (Exit.then K Q') a w := by
  subst hn
  refine wpIn_mono (wpIn_region_any hm (round_any (Q := Exit.then K (fun _ _ _ => False)) (fun ⟨_, _, h⟩ => h) ?_ l n _ _ _ _ (wpAny_of_held _ _ _ _ h))) ?_
  · intro i o ho c e
    have := List.all_eq_true.1 hd o (List.mem_of_getElem? (by rw [Array.getElem?_toList]; exact ho))
    rw [e] at this
    cases this
  · intro e a w h
    cases e <;> first | exact h | exact h.elim
end

section
variable {P : Program} {o : Oper} {a : Act} {w : World}
theorem exec_cutMid (t : TypeId) (x y z : Operand) (ho : o.op = .slice t x (some y) (some z) none) (ht : P.underlying t = some .string) (s : ByteArray) (J K : Nat) (hx : a.eval x = .string s) (hy : a.eval y = .int .i64 (J : Int)) (hz : a.eval z = .int .i64 (K : Int)) (hJ : J ≤ K) (hK : K ≤ s.size) (w : World) :
    (execOp a.eval o).run P w = .ok (.value (.string (s.extract J K))) w := by
  unfold execOp
  simp only [ho, hx, hy, hz, Option.map_some, Option.map_none]
  refine run_value_of ?_
  rw [run_sliceAt_string (h := ht), run_slice_string (h := ht) (h0 := by omega) (h1 := by omega) (h2 := by omega)]
  rfl
theorem exec_addS (t yt : TypeId) (x y : Operand) (ho : o.op = .binOp .add t x y yt) (u v : ByteArray) (hx : a.eval x = .string u) (hy : a.eval y = .string v) (hs : u.size + v.size ≤ 9223372036854775807) (w : World) :
    (execOp a.eval o).run P w = .ok (.value (.string (u ++ v))) w := by
  have h := run_string_add_sum (P := P) w u v hs
  unfold execOp
  simp only [ho, hx, hy]
  simp [eqGuard, binOp, h]
theorem exec_is (x : Operand) (ho : o.op = .move x ∨ o.op = .assign x) (v : Value) (hx : a.eval x = v) (w : World) : (execOp a.eval o).run P w = .ok (.value v) w := by
  unfold execOp
  rcases ho with ho | ho <;> simp only [ho, hx] <;> rfl
theorem exec_ext (x : Operand) (i : Nat) (ho : o.op = .extract x i) (vs : Array Value) (v : Value) (hx : a.eval x = .tuple vs) (hv : vs[i]? = some v) (w : World) : (execOp a.eval o).run P w = .ok (.value v) w := by
  unfold execOp
  simp only [ho, hx]
  simp [go_sem, hv]
theorem exec_fieldAt (t : TypeId) (x : Operand) (i : Nat) (ho : o.op = .fieldAddr t x i) (v : Value) (hx : a.eval x = v) (v' : Value) (hr : ∀ w : World, (Instr.fieldAt t v i).run P w = .ok v' w) (w : World) : (execOp a.eval o).run P w = .ok (.value v') w := by
  unfold execOp
  simp only [ho, hx]
  exact run_value_of (hr w)
theorem exec_look {H : Type} {k e : TypeId} {t : TypeId} (x y : Operand) (ho : o.op = .lookup t x y true) (K : Maps.Keyed P k) (ht : P.underlying t = some (.map k e)) (hz : (zeroValue e).run P w = .ok (.agg #[]) w) (b n : Nat) (D : DataW H)
    (hx : a.eval x = .map (some b)) (hown : w.ownsMap P k unitElem b n D) (key : Value) (kl : Lit) (hy : a.eval y = key) (hkey : keyOf P k key = some kl) :
    (execOp a.eval o).run P w = .ok (.value (.tuple #[.agg #[], .bool (Maps.has D kl)])) w := by
  obtain ⟨v, ps, hr, hv⟩ := hown.look_ok K ht hz (zd := .agg []) (zp := []) unitElem_mk hkey
  obtain ⟨rfl, _⟩ := unitElem_inv hv
  unfold execOp
  simp only [ho, hx, hy]
  exact run_value_of hr
end
theorem exec_unit {o : Oper} {a : Act} (ho : o.op = .alloc 50) (w : World) : (execOp a.eval o).run Tryd.prog w = .ok (.value (.pointer (some ⟨w.heap.size, 0, none⟩))) (w.alloc (.cells #[] 50)) := by
  unfold execOp
  simp only [ho]
  kernel_rfl
theorem exec_unitPut {o : Oper} {a : Act} (x y : Operand) (ho : o.op = .store 50 x y) (p : Addr) (hx : a.eval x = .pointer (some p)) (hy : a.eval y = .agg #[]) (w : World) : (execOp a.eval o).run Tryd.prog w = .ok .skip w := by
  unfold execOp
  simp only [ho, hx, hy]
  kernel_rfl
section
variable {P : Program} {ops : Array Oper} {o : Oper} {a : Act} {w : World} {Q : Exit → Act → World → Prop} {S : World → Prop} {md : Region.Mode} {fuel : Nat} {listed : Array Bool}
theorem rgd_call (i : Nat) (d : Option Tmp) (hr : Region.ready md ops listed = [i]) (hi : ops[i]? = some o) (hd : o.dst = d) (hw : Region.wanted o (yielded ops a.tmps) = true) (f : FuncId) (args : Array Value) {Post : Ending → World → Prop} (hrun : (execOp a.eval o).run P w = .ok (.enter f args) w)
    (hc : Calls P f args w Post) (h : ∀ e w', Post e w' → ∃ v, e = .returned v ∧ S w' ∧ wpAnyH P md ops Q S fuel (listed.setIfInBounds i true) (a.put d v) w') : wpAnyH P md ops Q S (fuel + 1) listed a w := by
  subst hd; exact rg_call i hr hi hw f args hrun hc h
theorem rgd_run (i : Nat) (d : Option Tmp) (hr : Region.ready md ops listed = [i]) (hi : ops[i]? = some o) (hd : o.dst = d) (hw : Region.wanted o (yielded ops a.tmps) = true) (v : Value) (w' : World) (hrun : (execOp a.eval o).run P w = .ok (.value v) w')
    (hS : S w') (h : wpAnyH P md ops Q S fuel (listed.setIfInBounds i true) (a.put d v) w') : wpAnyH P md ops Q S (fuel + 1) listed a w := by
  subst hd; exact rg_run i hr hi hw v w' hrun hS h
theorem rgd_do (i : Nat) (d : Option Tmp) (hr : Region.ready md ops listed = [i]) (hi : ops[i]? = some o) (hd : o.dst = d) (hw : Region.wanted o (yielded ops a.tmps) = true) (w' : World) (hrun : (execOp a.eval o).run P w = .ok .skip w')
    (hS : S w') (h : wpAnyH P md ops Q S fuel (listed.setIfInBounds i true) (a.put d undef) w') : wpAnyH P md ops Q S (fuel + 1) listed a w := by
  subst hd; exact rg_do i hr hi hw w' hrun hS h
theorem rgd_two2 {o2 : Oper} (i j : Nat) (d d2 : Option Tmp) (hr : Region.ready md ops listed = [i, j]) (hi : ops[i]? = some o) (hd : o.dst = d) (hw : Region.wanted o (yielded ops a.tmps) = true) (f : FuncId) (args : Array Value) {Post : Ending → World → Prop} (hrun : (execOp a.eval o).run P w = .ok (.enter f args) w) (hc : Calls P f args w Post)
    (hj : ops[j]? = some o2) (hd2 : o2.dst = d2) (hw2 : Region.wanted o2 (yielded ops a.tmps) = true) (v2 : Value) (w2 : World) (hrun2 : (execOp a.eval o2).run P w = .ok (.value v2) w2) (hS : S w2)
    (h : ∀ e w', Post e w' → ∃ v, e = .returned v ∧ S w' ∧ wpAnyH P md ops Q S fuel (listed.setIfInBounds i true) (a.put d v) w')
    (h2 : wpAnyH P md ops Q S fuel (listed.setIfInBounds j true) (a.put d2 v2) w2) : wpAnyH P md ops Q S (fuel + 1) listed a w := by
  subst hd; subst hd2; exact rg_two2 i j hr hi hw f args hrun hc hj hw2 v2 w2 hrun2 hS h h2
/-- an operation whose value hangs on the world, the same in all that meet S -/
theorem rgd_pureS (i : Nat) (d : Option Tmp) (hi : ops[i]? = some o) (hd : o.dst = d) (v : Value) (hs : Region.noSelect ops = true) (hf : Region.free md ops listed i = true) (hr : (Region.ready md ops listed).contains i = true)
    (hQ : ∀ c (a : Act) w v, Q (.panic c) (a.put d v) w → Q (.panic c) a w) (hw : Region.wanted o (yielded ops a.tmps) = true) (hrun : ∀ w, S w → (execOp a.eval o).run P w = .ok (.value v) w)
    (hS : S w) (h : wpAnyH P md ops Q S fuel (listed.setIfInBounds i true) (a.put d v) w) : wpAnyH P md ops Q S (fuel + 1) listed a w := by
  subst hd; exact wpAnyH_take (v := v) hi hs hf hr (fun c a w => hQ c a w _) (Or.inl ⟨hw, hrun⟩) hS h
end
end Go.Proofs.YtldfomggeleolaaDoor
