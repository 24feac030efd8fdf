/- A region that leaves its order open: its steps with the slots written out; what operations run to. No number of a program stands here. (TokRound holds some of these, too: never both in one text.) -/
import Derived.Test.YtnjopndkommjnaaDoorRegionFree
namespace Go.Proofs.YtnjopndkommjnaaDoor
open Go Go.RowKit
set_option linter.unusedVariables false

section
variable {P : Program} {ops : Array Oper} {Q' : Exit → Act → World → Prop} {K : Act → World → Prop} {a : Act} {w : World} {S : World → Prop}
/-- THE REGION, whatever stands behind it -/
theorem rg_calm {id m : Nat} (hm : P.follows .mixedOrders = true) (hn : ops.size = m) (h : wpAnyH P .any ops (Exit.then K (fun _ _ _ => False)) S m (Array.replicate m false) a w.drew) : (Code.region id ops true).wp P (Exit.then K Q') a w := by
  subst hn
  refine wp_mono (wp_region_held hm h) ?_
  intro e a w h
  cases e <;> first | exact h | exact h.elim
/-- the region that ends a body -/
theorem rg_last {Q : Exit → Act → World → Prop} {id m : Nat} (hm : P.follows .mixedOrders = true) (hn : ops.size = m) (h : wpAnyH P .any ops (Exit.then (Q .normal) (fun _ _ _ => False)) S m (Array.replicate m false) a w.drew) : (Code.region id ops true).wp P Q a w := by
  subst hn
  refine wp_mono (wp_region_held hm h) ?_
  intro e a w h
  cases e <;> first | exact h | exact h.elim
end
section
variable {P : Program} {o : Oper} {a : Act} {w : World}
theorem exec_cutMid (t : TypeId) (x y z : Operand) (ho : o.op = .slice t x (some y) (some z) none) (ht : P.underlying t = some .string) (s : ByteArray) (J K : Nat) (hx : a.eval x = .string s) (hy : a.eval y = .int .i64 (J : Int)) (hz : a.eval z = .int .i64 (K : Int)) (hJ : J ≤ K) (hK : K ≤ s.size) (w : World) :
    (execOp a.eval o).run P w = .ok (.value (.string (s.extract J K))) w := by
  unfold execOp
  simp only [ho, hx, hy, hz, Option.map_some, Option.map_none]
  refine run_value_of ?_
  rw [run_sliceAt_string (h := ht), run_slice_string (h := ht) (h0 := by omega) (h1 := by omega) (h2 := by omega)]
  rfl
theorem exec_addI (t yt : TypeId) (x y : Operand) (ho : o.op = .binOp .add t x y yt) (X Y R : Int) (hR : IntKind.i64.wrap (X + Y) = R) (hx : a.eval x = .int .i64 X) (hy : a.eval y = .int .i64 Y) (w : World) :
    (execOp a.eval o).run P w = .ok (.value (.int .i64 R)) w := by
  subst hR
  unfold execOp
  simp only [ho, hx, hy]
  rfl
theorem exec_lss (t yt : TypeId) (x y : Operand) (ho : o.op = .binOp .lss t x y yt) (X Y : Int) (b : Bool) (hb : decide (X < Y) = b) (hx : a.eval x = .int .i64 X) (hy : a.eval y = .int .i64 Y) (w : World) :
    (execOp a.eval o).run P w = .ok (.value (.bool b)) w := by
  subst hb
  unfold execOp
  simp only [ho, hx, hy]
  rfl
theorem exec_addS (t yt : TypeId) (x y : Operand) (ho : o.op = .binOp .add t x y yt) (u v : ByteArray) (hx : a.eval x = .string u) (hy : a.eval y = .string v) (hs : u.size + v.size ≤ 9223372036854775807) (w : World) :
    (execOp a.eval o).run P w = .ok (.value (.string (u ++ v))) w := by
  have h := run_string_add_sum (P := P) w u v hs
  unfold execOp
  simp only [ho, hx, hy]
  simp [eqGuard, binOp, h]
theorem exec_is (x : Operand) (ho : o.op = .move x ∨ o.op = .assign x) (v : Value) (hx : a.eval x = v) (w : World) : (execOp a.eval o).run P w = .ok (.value v) w := by
  unfold execOp
  rcases ho with ho | ho <;> simp only [ho, hx] <;> rfl
theorem exec_ext (x : Operand) (i : Nat) (ho : o.op = .extract x i) (vs : Array Value) (v : Value) (hx : a.eval x = .tuple vs) (hv : vs[i]? = some v) (w : World) : (execOp a.eval o).run P w = .ok (.value v) w := by
  unfold execOp
  simp only [ho, hx]
  simp [go_sem, hv]
theorem exec_fieldAt (t : TypeId) (x : Operand) (i : Nat) (ho : o.op = .fieldAddr t x i) (v : Value) (hx : a.eval x = v) (v' : Value) (hr : ∀ w : World, (Instr.fieldAt t v i).run P w = .ok v' w) (w : World) : (execOp a.eval o).run P w = .ok (.value v') w := by
  unfold execOp
  simp only [ho, hx]
  exact run_value_of (hr w)
end
section
variable {P : Program} {ops : Array Oper} {o : Oper} {a : Act} {w : World} {Q : Exit → Act → World → Prop} {S : World → Prop} {md : Region.Mode} {fuel : Nat} {listed : Array Bool}
theorem rgd_call (i : Nat) (d : Option Tmp) (hr : Region.ready md ops listed = [i]) (hi : ops[i]? = some o) (hd : o.dst = d) (hw : Region.wanted o (yielded ops a.tmps) = true) (f : FuncId) (args : Array Value) {Post : Ending → World → Prop} (hrun : (execOp a.eval o).run P w = .ok (.enter f args) w)
    (hc : Calls P f args w Post) (h : ∀ e w', Post e w' → ∃ v, e = .returned v ∧ S w' ∧ wpAnyH P md ops Q S fuel (listed.setIfInBounds i true) (a.put d v) w') : wpAnyH P md ops Q S (fuel + 1) listed a w := by
  subst hd; exact rg_call i hr hi hw f args hrun hc h
theorem rgd_run (i : Nat) (d : Option Tmp) (hr : Region.ready md ops listed = [i]) (hi : ops[i]? = some o) (hd : o.dst = d) (hw : Region.wanted o (yielded ops a.tmps) = true) (v : Value) (w' : World) (hrun : (execOp a.eval o).run P w = .ok (.value v) w')
    (hS : S w') (h : wpAnyH P md ops Q S fuel (listed.setIfInBounds i true) (a.put d v) w') : wpAnyH P md ops Q S (fuel + 1) listed a w := by
  subst hd; exact rg_run i hr hi hw v w' hrun hS h
theorem rgd_do (i : Nat) (d : Option Tmp) (hr : Region.ready md ops listed = [i]) (hi : ops[i]? = some o) (hd : o.dst = d) (hw : Region.wanted o (yielded ops a.tmps) = true) (w' : World) (hrun : (execOp a.eval o).run P w = .ok .skip w')
    (hS : S w') (h : wpAnyH P md ops Q S fuel (listed.setIfInBounds i true) (a.put d undef) w') : wpAnyH P md ops Q S (fuel + 1) listed a w := by
  subst hd; exact rg_do i hr hi hw w' hrun hS h
theorem rgd_two2 {o2 : Oper} (i j : Nat) (d d2 : Option Tmp) (hr : Region.ready md ops listed = [i, j]) (hi : ops[i]? = some o) (hd : o.dst = d) (hw : Region.wanted o (yielded ops a.tmps) = true) (f : FuncId) (args : Array Value) {Post : Ending → World → Prop} (hrun : (execOp a.eval o).run P w = .ok (.enter f args) w) (hc : Calls P f args w Post)
    (hj : ops[j]? = some o2) (hd2 : o2.dst = d2) (hw2 : Region.wanted o2 (yielded ops a.tmps) = true) (v2 : Value) (w2 : World) (hrun2 : (execOp a.eval o2).run P w = .ok (.value v2) w2) (hS : S w2)
    (h : ∀ e w', Post e w' → ∃ v, e = .returned v ∧ S w' ∧ wpAnyH P md ops Q S fuel (listed.setIfInBounds i true) (a.put d v) w')
    (h2 : wpAnyH P md ops Q S fuel (listed.setIfInBounds j true) (a.put d2 v2) w2) : wpAnyH P md ops Q S (fuel + 1) listed a w := by
  subst hd; subst hd2; exact rg_two2 i j hr hi hw f args hrun hc hj hw2 v2 w2 hrun2 hS h h2
/-- an operation whose value hangs on the world, the same in all that meet S -/
theorem rgd_pureS (i : Nat) (d : Option Tmp) (hi : ops[i]? = some o) (hd : o.dst = d) (v : Value) (hs : Region.noSelect ops = true) (hf : Region.free md ops listed i = true) (hr : (Region.ready md ops listed).contains i = true)
    (hQ : ∀ c (a : Act) w v, Q (.panic c) (a.put d v) w → Q (.panic c) a w) (hw : Region.wanted o (yielded ops a.tmps) = true) (hrun : ∀ w, S w → (execOp a.eval o).run P w = .ok (.value v) w)
    (hS : S w) (h : wpAnyH P md ops Q S fuel (listed.setIfInBounds i true) (a.put d v) w) : wpAnyH P md ops Q S (fuel + 1) listed a w := by
  subst hd; exact wpAnyH_take (v := v) hi hs hf hr (fun c a w => hQ c a w _) (Or.inl ⟨hw, hrun⟩) hS h
theorem rgd_acts {o2 : Oper} (i j : Nat) (d d2 : Option Tmp) (hr : Region.ready md ops listed = [i, j]) (hi : ops[i]? = some o) (hd : o.dst = d) (hw : Region.wanted o (yielded ops a.tmps) = true) (v : Value) (w1 : World) (hrun : (execOp a.eval o).run P w = .ok (.value v) w1) (hS : S w1)
    (hj : ops[j]? = some o2) (hd2 : o2.dst = d2) (hw2 : Region.wanted o2 (yielded ops a.tmps) = true) (v2 : Value) (w2 : World) (hrun2 : (execOp a.eval o2).run P w = .ok (.value v2) w2) (hS2 : S w2)
    (h : wpAnyH P md ops Q S fuel (listed.setIfInBounds i true) (a.put d v) w1) (h2 : wpAnyH P md ops Q S fuel (listed.setIfInBounds j true) (a.put d2 v2) w2) : wpAnyH P md ops Q S (fuel + 1) listed a w := by
  subst hd; subst hd2; exact rg_acts i j hr hi hw v w1 hrun hS hj hw2 v2 w2 hrun2 hS2 h h2
end
end Go.Proofs.YtnjopndkommjnaaDoor
