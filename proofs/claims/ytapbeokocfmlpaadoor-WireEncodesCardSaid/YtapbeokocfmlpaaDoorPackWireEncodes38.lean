/- The statement WireEncodes, proved for every input that its row reads: part 38 of 54. -/
import Derived.Test.YtapbeokocfmlpaaDoorPackWireEncodes30
import Derived.Test.YtapbeokocfmlpaaDoorPackWireEncodes34
/- docs: a dot that was written is read. -/
namespace Go.Proofs.YtapbeokocfmlpaaDoor
open Go Go.RowKit
set_option linter.unusedVariables false
set_option maxRecDepth 1000000

/-- what turned is block R alone, and what is new -/
theorem grown_on {a w w' : World} {R : Option Nat} (h : a.grownBy w R) (hb : Below a.heap.size w w') : a.grownBy w' R :=
  ⟨hb.os.trans h.os, hb.tape.trans h.tape, hb.output.trans h.output, Nat.le_trans h.size hb.size, fun i hi hne => (hb.block i hi).trans (h.block i hi hne)⟩
theorem grown_self (w : World) (R : Option Nat) : w.grownBy w R := ⟨rfl, rfl, rfl, Nat.le_refl _, fun _ _ _ => rfl⟩
theorem grown_less {w w' : World} {R : Option Nat} (h : Below w.heap.size w w') : w.grownBy w' R := grown_on (grown_self w R) h
theorem sizeDt (r n : Int) : (Tryd.prog.info? 52).map (·.size) = some (dcs r n).size := by kernel_rfl
theorem grown_step {w a b : World} {B : Nat} (h : w.grownBy a (some B)) (hg : a.grownBy b (some B)) (hB : B < w.heap.size) {g : Nat} {o : Obj} (hge : w.heap.size ≤ g) (k : a.heap[g]? = some o) : b.heap[g]? = some o :=
  (hg.block g (Array.getElem?_eq_some_iff.1 k).1 (by simp; omega)).trans k
/-- what turned beside block R is new -/
theorem grown_onE {a w w' : World} {R : Option Nat} {g : Nat} (h : a.grownBy w R) (hg : w.grownBy w' (some g)) (hge : a.heap.size ≤ g) : a.grownBy w' R :=
  ⟨hg.os.trans h.os, hg.tape.trans h.tape, hg.output.trans h.output, Nat.le_trans h.size hg.size, fun i hi hne => (hg.block i (Nat.lt_of_lt_of_le hi h.size) (by simp; omega)).trans (h.block i hi hne)⟩
theorem own_keep {w w' : World} {B0 : Nat} {ty : TypeId} {k n : Nat} {v : Value} {xs : List Value} {row : Option Nat} (h : w.ownsRow B0 ty k v n xs) (hg : w.grownBy w' row) (hne : v.ownBlock = none ∨ v.ownBlock ≠ row) : w'.ownsRow B0 ty k v n xs := by
  refine ⟨h.1, ?_⟩
  rcases h.2 with q | ⟨g, cap, cur, rfl, q2, q3, q4⟩
  · exact .inl q
  · refine .inr ⟨g, cap, cur, rfl, q2, ?_, q4⟩
    refine (hg.block g (Array.getElem?_eq_some_iff.1 q3).1 ?_).trans q3
    rcases hne with h | h
    · cases h
    · exact h
theorem own_not {w : World} {B0 : Nat} {ty : TypeId} {k n : Nat} {v : Value} {xs : List Value} (h : w.ownsRow B0 ty k v n xs) {g : Nat} {cs : Array Value} {T : TypeId} {m : Nat × Nat} (hg : w.heap[g]? = some (.cells cs T m)) (hne : T ≠ ty) : some g ≠ v.ownBlock := by
  rcases h.2 with ⟨rfl, _⟩ | ⟨g', cap, cur, rfl, _, q3, _⟩
  · intro e; cases e
  · intro e
    have : g = g' := by simpa [Value.ownBlock] using e
    subst this
    rw [q3] at hg
    injection hg with hg
    injection hg with _ h2
    exact hne h2.symm
theorem own_above {w : World} {B0 : Nat} {ty : TypeId} {k n : Nat} {v : Value} {xs : List Value} (h : w.ownsRow B0 ty k v n xs) {R : Nat} (hR : R < B0) : v.ownBlock = none ∨ v.ownBlock ≠ some R := by
  rcases h.2 with ⟨rfl, _⟩ | ⟨g', cap, cur, rfl, q, _⟩
  · exact .inl rfl
  · right
    intro e
    have : g' = R := by simpa [Value.ownBlock] using e
    omega
theorem exec_appendV {P : Program} {o : Oper} {a : Act} {w : World} {t : TypeId} (s x : Operand) (ho : o.op = .call { callee := .builtin .append, args := #[s, x], argTypes := #[t, t] }) (v xv : Value) (hs : a.eval s = v) (hx : a.eval x = xv) {v' : Value} {w' : World} (hrun : (Builtin.append_ #[t, t] o.type #[v, xv]).run P w = .ok v' w') :
    (execOp a.eval o).run P w = .ok (.value v') w' := by
  simp [execOp, ho, resolve, invoke, builtin, hs, hx, hrun, Result.andThen]
theorem exec_storeV {P : Program} {o : Oper} {a : Act} {w : World} (t : TypeId) (x y : Operand) (ho : o.op = .store t x y) (hsz : ∀ w : World, (sizeOf t).run P w = .ok 1 w) (p : Addr) (q : Option Addr) (n c : Nat) (old : Value) (hx : a.eval x = .pointer (some p)) (hy : a.eval y = .slice q n c)
    (hc : w.cell? p = some old) (hf : w.frozen? p = false) : (execOp a.eval o).run P w = .ok .skip (w.setCell p (.slice q n c)) := by
  unfold execOp
  simp only [ho, hx, hy]
  have hs := hsz w
  go_simp
theorem rgd_two {P : Program} {ops : Array Oper} {o o2 : Oper} {a : Act} {w : World} {Q : Exit → Act → World → Prop} {S : World → Prop} {md : Region.Mode} {fuel : Nat} {listed : Array Bool} (i j : Nat) (d d2 : Option Tmp) (hr : Region.ready md ops listed = [i, j]) (hi : ops[i]? = some o) (hd : o.dst = d) (hw : Region.wanted o (yielded ops a.tmps) = true) (v : Value) (w' : World) (hrun : (execOp a.eval o).run P w = .ok (.value v) w')
    (hj : ops[j]? = some o2) (hd2 : o2.dst = d2) (hw2 : Region.wanted o2 (yielded ops a.tmps) = true) (f : FuncId) (args : Array Value) {Post : Ending → World → Prop} (hrun2 : (execOp a.eval o2).run P w = .ok (.enter f args) w) (hc : Calls P f args w Post) (hS : S w')
    (h : wpAnyH P md ops Q S fuel (listed.setIfInBounds i true) (a.put d v) w')
    (h2 : ∀ e w', Post e w' → ∃ v, e = .returned v ∧ S w' ∧ wpAnyH P md ops Q S fuel (listed.setIfInBounds j true) (a.put d2 v) w') : wpAnyH P md ops Q S (fuel + 1) listed a w := by
  subst hd; subst hd2; exact rg_two i j hr hi hw v w' hrun hj hw2 f args hrun2 hc hS h h2
/-- an event's cells, its dots not there yet -/
def evAt (r n t k : Int) (d : ByteArray) (f : Int) (x : ByteArray) (u : Value) : Array Value := #[.int .i64 r, .int .i64 n, .int .i64 t, .int .i64 k, .string d, .int .i64 f, .string x, u]
theorem flat_drop (l : List Dt) (k : Nat) (h : k < l.length) : (l.drop k).flatMap dotB = dotB l[k] ++ (l.drop (k + 1)).flatMap dotB := by
  rw [List.drop_eq_getElem_cons h, List.flatMap_cons]
theorem dcl_take (l : List Dt) (k : Nat) (h : k < l.length) : dcl (l.take (k + 1)) = dcl (l.take k) ++ [.int .i64 l[k].1, .int .i64 l[k].2] := by
  rw [List.take_succ_eq_append_getElem h, dcl_append]; rfl
theorem str_back (s : ByteArray) : (⟨s.data.toList.toArray⟩ : ByteArray) = s := by simp
theorem wrB_len (e : Ev) : (wrB e).length ≤ 3000 := by
  unfold wrB
  split
  · rename_i h
    have F := fine_of h
    unfold evB
    simp only [List.length_append, Array.length_toList, ByteArray.size_data]
    have := dotB_len (e.rep, e.n); have := enc_len e.time.toNat; have := enc_len e.kind.toNat; have := enc_len e.doc.size; have := enc_len e.field.toNat; have := enc_len e.text.size; have := enc_len e.gone.length; have := flat_dots_len e.gone
    have := F.doc; have := F.many; have := F.text
    omega
  · simp
end Go.Proofs.YtapbeokocfmlpaaDoor
