/- Rows by value in regions, maps in regions; one operation by what it runs to. -/
import Derived.Test.YtfgjcgonlpbdbaaPgNew
import Derived.Laws.CopyRow
import Derived.Laws.IdiomCopy
namespace Go.Proofs.Ytfgjcgonlpbdbaa
open Go Go.RowKit
set_option linter.unusedVariables false

section
variable {P : Program} {ops : Array Oper} {o : Oper} {rest : List Oper} {a : Act} {w : World} {Q : Exit → Act → World → Prop} {S : World → Prop} {i : Nat} {md : Region.Mode} {fuel : Nat} {listed : Array Bool}
/-- one operation, by what it runs to -/
theorem wpList_val (hg : o.guard = none) (v : Value) (w' : World) (hrun : (execOp a.eval o).run P w = .ok (.value v) w') (h : wpList P ops Q rest (a.put o.dst v) w') : wpList P ops Q (o :: rest) a w :=
  wpList_plain hg fun K hK => by
    unfold Oper.wp
    rw [hrun, Oper.upon_value]
    exact hK _ _ h
theorem rg_loadRow (i : Nat) (d : Option Tmp) (hi : ops[i]? = some o) (hd : o.dst = d) (hs : Region.noSelect ops = true) (hf : Region.free md ops listed i = true) (hr : (Region.ready md ops listed).contains i = true)
    (hQ : ∀ c (a : Act) w v, Q (.panic c) (a.put d v) w → Q (.panic c) a w) (hw : Region.wanted o (yielded ops a.tmps) = true) (t : TypeId) (x : Operand) (ho : o.op = .load t x)
    {e : TypeDesc} (hu : P.underlying t = some e) (he : e.isRow = true) (b f : Nat) (cs : List Value) (hz : (P.info? t).map (·.size) = some cs.length) (hx : a.eval x = .pointer (some ⟨b, f, none⟩)) (hc : ∀ w, S w → w.rangeAt b f cs)
    (hS : S w) (h : wpAnyH P md ops Q S fuel (listed.setIfInBounds i true) (a.put d (.agg cs.toArray)) w) : wpAnyH P md ops Q S (fuel + 1) listed a w := by
  subst hd
  exact wpAnyH_take (v := .agg cs.toArray) hi hs hf hr (fun c a w => hQ c a w _) (yieldsIf_load_mid hw t x ho b f hx cs e hc hu he hz) hS h
theorem rg_indexN (i : Nat) (d : Option Tmp) (hi : ops[i]? = some o) (hd : o.dst = d) (hs : Region.noSelect ops = true) (hf : Region.free md ops listed i = true) (hr : (Region.ready md ops listed).contains i = true)
    (hQ : ∀ c (a : Act) w v, Q (.panic c) (a.put d v) w → Q (.panic c) a w) (hw : Region.wanted o (yielded ops a.tmps) = true) (t : TypeId) (x y : Operand) (ho : o.op = .indexAddr t x y)
    (hu : P.underlying t = some (.slice (P.elem t))) (sz : Nat) (hsz : ∀ w : World, (sizeOf (P.elem t)).run P w = .ok sz w) (b : Nat) (len cap k : Nat) (hx : a.eval x = .slice (some ⟨b, 0, none⟩) len cap) (hy : a.eval y = .int .i64 (k : Int)) (hk : k < len)
    (hS : S w) (h : wpAnyH P md ops Q S fuel (listed.setIfInBounds i true) (a.put d (.pointer (some ⟨b, sz * k, none⟩))) w) : wpAnyH P md ops Q S (fuel + 1) listed a w := by
  subst hd
  exact wpAnyH_take (v := .pointer (some ⟨b, sz * k, none⟩)) hi hs hf hr (fun c a w => hQ c a w _) (Or.inl ⟨hw, fun w hw => by
    unfold execOp
    simp only [ho, hx, hy]
    refine run_value_of ?_
    rw [run_indexAt_slice (h := hu), if_pos (by omega), hsz]
    simp only [Result.andThen_ok, Int.toNat_natCast]
    rw [Nat.mul_comm k sz, Addr.add_mid, Nat.zero_add]⟩) hS h
theorem exec_update {T : TypeId} (x y z : Operand) (ho : o.op = .mapUpdate T x y z) (vx vy vz : Value) (hx : a.eval x = vx) (hy : a.eval y = vy) (hz : a.eval z = vz) (w' : World) (hrun : (Instr.mapUpdate T vx vy vz).run P w = .ok () w') : (execOp a.eval o).run P w = .ok .skip w' := by
  unfold execOp
  simp only [ho, hx, hy, hz]
  simp only [Sem.run_bind, hrun, Result.andThen_ok]
  rfl
theorem exec_storeRow (t : TypeId) (x y : Operand) (ho : o.op = .store t x y) (b f : Nat) (cs : Array Value) (hx : a.eval x = .pointer (some ⟨b, f, none⟩)) (hy : a.eval y = .agg cs) (ht : w.there b f cs.size) (hi : (P.info? t).map (·.size) = some cs.size) (h1 : cs.all (·.oneCell') = true) :
    (execOp a.eval o).run P w = .ok .skip (w.setCells b f cs.toList) := by
  unfold execOp
  simp only [ho, hx, hy, Sem.run_bind, run_storeAt_mid w b f t cs ht hi h1, Result.andThen_ok]
  rfl
theorem exec_lookup {T : TypeId} (x y : Operand) (ho : o.op = .lookup T x y true) (vx vy v : Value) (hx : a.eval x = vx) (hy : a.eval y = vy) (hrun : (Instr.lookup T vx vy true).run P w = .ok v w) : (execOp a.eval o).run P w = .ok (.value v) w := by
  unfold execOp
  simp only [ho, hx, hy]
  exact run_value_of hrun
end
theorem sizePg : (Try.prog.info? 69).map (·.size) = some 128 := by kernel_rfl
theorem sizePgE (w : World) : (sizeOf (Try.prog.elem 53)).run Try.prog w = .ok 128 w := by kernel_rfl
theorem keyI : Try.prog.underlying 3 = some (.int .i64) := Try.underlying3
def zeroCells8 : Array Value := Array.replicate 128 (.int .u8 0)
theorem zeroPgV (w : World) : (zeroValue 69).run Try.prog w = .ok (.agg zeroCells8) w := by kernel_rfl
end Go.Proofs.Ytfgjcgonlpbdbaa
