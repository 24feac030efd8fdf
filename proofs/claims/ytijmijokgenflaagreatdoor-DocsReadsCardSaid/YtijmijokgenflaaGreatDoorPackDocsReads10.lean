/- The statement DocsReads, proved for every input that its row reads: part 10 of 54. -/
import Derived.Test.YtijmijokgenflaaGreatDoorPackDocsReads8
import Derived.Test.YtijmijokgenflaaGreatDoorPackDocsReads7
import Derived.Deep.Upon
import Derived.Lib.Builder
import Derived.Test.YtijmijokgenflaaGreatDoorPackDocsReads9
/- A past by value: its events' slice, and its floor. -/
namespace Go.Proofs.YtijmijokgenflaaGreatDoor
open Go Go.RowKit
set_option linter.unusedVariables false

/-! Some cells of a block written at once -/
def setL (cs : Array Value) : Nat → List Value → Array Value
  | _, [] => cs
  | o, v :: r => setL (cs.setIfInBounds o v) (o + 1) r
theorem setL_size : ∀ (vs : List Value) (cs : Array Value) (o : Nat), (setL cs o vs).size = cs.size
  | [], _, _ => rfl
  | v :: r, cs, o => by rw [setL, setL_size r]; simp
theorem setL_get : ∀ (vs : List Value) (cs : Array Value) (o : Nat) (hle : o + vs.length ≤ cs.size) (i : Nat), (setL cs o vs)[i]? = if o ≤ i ∧ i < o + vs.length then vs[i - o]? else cs[i]?
  | [], cs, o, _, i => by
    have : ¬ (o ≤ i ∧ i < o + ([] : List Value).length) := by simp
    rw [if_neg this]; rfl
  | v :: r, cs, o, hle, i => by
    rw [List.length_cons] at hle ⊢
    rw [setL, setL_get r _ _ (by simp; omega)]
    by_cases h1 : o + 1 ≤ i ∧ i < o + 1 + r.length
    · rw [if_pos h1, if_pos (by omega), show i - o = (i - (o + 1)) + 1 from by omega, List.getElem?_cons_succ]
    · rw [if_neg h1]
      by_cases h2 : o = i
      · subst h2
        rw [if_pos (by omega), Array.getElem?_setIfInBounds, if_pos rfl, if_pos (by omega), Nat.sub_self]; rfl
      · rw [if_neg (by omega), Array.getElem?_setIfInBounds, if_neg h2]
theorem heap_setCells {g : Nat} {ty : TypeId} {m : Nat × Nat} : ∀ (vs : List Value) (w : World) (cs : Array Value) (o : Nat), w.heap[g]? = some (.cells cs ty m) → (w.setCells g o vs).heap[g]? = some (.cells (setL cs o vs) ty m)
  | [], _, _, _, h => h
  | v :: r, w, cs, o, h => by
    rw [World.setCells, setL]
    exact heap_setCells r _ _ _ (block_setCell h v)
theorem grown_setCells (g : Nat) : ∀ (vs : List Value) (w : World) (o : Nat), w.grownBy (w.setCells g o vs) (some g)
  | [], w, _ => ⟨rfl, rfl, rfl, Nat.le_refl _, fun _ _ _ => rfl⟩
  | v :: r, w, o => by
    rw [World.setCells]
    have h1 := grown_cell w g o v
    have h2 := grown_setCells g r (w.setCell ⟨g, o, none⟩ v) (o + 1)
    exact ⟨h2.os.trans h1.os, h2.tape.trans h1.tape, h2.output.trans h1.output, Nat.le_trans h1.size h2.size, fun i hi hne => (h2.block i (Nat.lt_of_lt_of_le hi h1.size) hne).trans (h1.block i hi hne)⟩

def pcs (v : Value) (f : Nat → Int) : Array Value := (v :: (vf f).toList).toArray
theorem pcs_size (v : Value) (f : Nat → Int) : (pcs v f).size = 65 := by simp [pcs, vf_size]
theorem pcs_zero (v : Value) (f : Nat → Int) : (pcs v f)[0]? = some v := rfl
theorem pcs_succ (v : Value) (f : Nat → Int) (k : Nat) : (pcs v f)[k + 1]? = (vf f)[k]? := by simp [pcs]
theorem pcs_congr (v : Value) {f g : Nat → Int} (h : ∀ i, i < 64 → f i = g i) : pcs v f = pcs v g := by rw [pcs, vf_congr h, pcs]
theorem pcs_oneV (f : Nat → Int) {v : Value} (h : ∃ p n c, v = .slice p n c) : ∀ u ∈ (pcs v f).toList, u.oneCell' = true := by
  intro u hu
  simp only [pcs, List.mem_cons] at hu
  rcases hu with rfl | hu
  · obtain ⟨p, n, c, rfl⟩ := h; rfl
  · exact (Array.all_eq_true_iff_forall_mem.1 (vf_one f)) u (by simpa using hu)
theorem sizeVc (f : Nat → Int) : (Tryz.prog.info? 23).map (·.size) = some (vf f).size := by rw [vf_size]; kernel_rfl
theorem sizeVcl (f : Nat → Int) : (Tryz.prog.info? 23).map (·.size) = some (vf f).toList.length := by rw [Array.length_toList, vf_size]; kernel_rfl
end Go.Proofs.YtijmijokgenflaaGreatDoor
/- past: Drops, and the copy of events. -/
namespace Go.Proofs.YtijmijokgenflaaGreatDoor
open Go Go.RowKit
set_option linter.unusedVariables false

def evs (L : List EvP) : List Ev := L.map (·.e)
theorem drops_take (L : List EvP) (j : Nat) (h : j < L.length) : dropsOf (evs (L.take (j + 1))) = dropsOf (evs (L.take j)) + (if L[j].e.kind = 2 then 1 else 0) := by
  rw [List.take_add_one, List.getElem?_eq_getElem h, evs, List.map_append]
  rw [drops_append]
  simp [dropsOf, evs, Ev.isDrop, List.countP_cons]
/-- two rows of things of other types lie apart -/
theorem own_apart {w : World} {B B' : Nat} {e e' : TypeId} {k k' n n' : Nat} {v v' : Value} {xs xs' : List Value} (h : w.ownsRow B e k v n xs) (h' : w.ownsRow B' e' k' v' n' xs') (hne : e ≠ e') : v.ownBlock = none ∨ v.ownBlock ≠ v'.ownBlock := by
  rcases h.2 with ⟨rfl, _⟩ | ⟨g, cap, cur, rfl, _, hg, _⟩
  · exact .inl rfl
  · right
    rcases h'.2 with ⟨rfl, _⟩ | ⟨g', cap', cur', rfl, _, hg', _⟩
    · simp [Value.ownBlock]
    · intro e1
      have e2 : g = g' := by simpa [Value.ownBlock] using e1
      subst e2
      rw [hg] at hg'
      injection hg' with hg'
      injection hg' with _ e3 _
      exact hne e3
/-- events of one's own: their row, and the rows of the dots of each -/
structure OwnE (w : World) (B : Nat) (v : Value) (L : List EvP) : Prop where
  row : w.ownsRow B 55 8 v L.length (ecl L)
  gone : ∀ x ∈ L, w.ownsRow B 37 2 (.slice x.p x.e.gone.length x.c) x.e.gone.length (dcl x.e.gone)
theorem own_slice {w : World} {B : Nat} {e : TypeId} {k n : Nat} {v : Value} {xs : List Value} (h : w.ownsRow B e k v n xs) : ∃ p c, v = .slice p n c := by
  rcases h.2 with ⟨rfl, rfl⟩ | ⟨g, cap, cur, rfl, _⟩
  · exact ⟨none, 0, rfl⟩
  · exact ⟨_, _, rfl⟩
theorem own_later {w w' : World} {B : Nat} {e : TypeId} {k n : Nat} {v : Value} {xs : List Value} (h : w.ownsRow B e k v n xs) (hb : Below w.heap.size w w') : w'.ownsRow B e k v n xs := by
  refine ⟨h.1, ?_⟩
  rcases h.2 with q | ⟨g, cap, cur, q1, q2, q3, q4⟩
  · exact .inl q
  · exact .inr ⟨g, cap, cur, q1, q2, (hb.block g (Array.getElem?_eq_some_iff.1 q3).1).trans q3, q4⟩
theorem own_base {w : World} {B B' : Nat} {e : TypeId} {k n : Nat} {v : Value} {xs : List Value} (h : w.ownsRow B e k v n xs) (hB : B' ≤ B) : w.ownsRow B' e k v n xs := by
  refine ⟨h.1, ?_⟩
  rcases h.2 with q | ⟨g, cap, cur, q1, q2, q3⟩
  · exact .inl q
  · exact .inr ⟨g, cap, cur, q1, Nat.le_trans hB q2, q3⟩
theorem OwnE.later {w w' : World} {B : Nat} {v : Value} {L : List EvP} (h : OwnE w B v L) (hb : Below w.heap.size w w') : OwnE w' B v L := ⟨own_later h.row hb, fun x hx => own_later (h.gone x hx) hb⟩
theorem own_okE {w : World} {B : Nat} {x : EvP} (h : w.ownsRow B 37 2 (.slice x.p x.e.gone.length x.c) x.e.gone.length (dcl x.e.gone)) : x.Ok w := by
  obtain ⟨_, p, cap, e1, _, h1, h2, _⟩ := own_drow h
  injection e1 with e1 _ _
  subst e1
  exact ⟨h1, fun hp => (h2 hp).1⟩
theorem OwnE.at {w : World} {B : Nat} {v : Value} {L : List EvP} (h : OwnE w B v L) : ∃ p c, v = .slice p L.length c ∧ L.length ≤ c ∧ EvsAt w p L ∧ (∀ a, p = some a → ∃ b o, a = ⟨b, o, Option.none⟩) := by
  have hr := h.row
  rcases hr.2 with ⟨rfl, h0⟩ | ⟨g, cap, cur, rfl, hB, hg, hc, hm, hs, ht⟩
  · have : L = [] := List.eq_nil_of_length_eq_zero h0
    subst this
    exact ⟨none, 0, rfl, Nat.le_refl _, ⟨fun hn => absurd rfl hn, fun x hx => by simp at hx, fun _ => rfl⟩, fun a ha => by cases ha⟩
  · refine ⟨some ⟨g, 0, none⟩, cap, rfl, hc, ⟨fun _ => ⟨g, 0, rfl, fun j u hu => ?_⟩, fun x hx => own_okE (h.gone x hx), fun e => by cases e⟩, fun a ha => by obtain rfl := Option.some.inj ha; exact ⟨g, 0, rfl⟩⟩
    have hj : j < L.length * 8 := by rw [← ecl_length]; exact (List.getElem?_eq_some_iff.1 hu).1
    have := hr.cellAt j hj
    rw [Nat.zero_add, this]; exact hu

def CopiedR (w : World) (L : List EvP) (e : Ending) (w' : World) : Prop := ∃ v L', e = .returned v ∧ OwnE w' w.heap.size v L' ∧ evs L' = evs L ∧ Below w.heap.size w w'
end Go.Proofs.YtijmijokgenflaaGreatDoor
/- past.without: the events that do not go, and the floor. -/
namespace Go.Proofs.YtijmijokgenflaaGreatDoor
open Go Go.RowKit
set_option linter.unusedVariables false

section
variable {P : Program} {t : TypeId} {ops : Array Oper} {rest : List Oper} {o : Oper} {a : Act} {w : World} {Q : Exit → Act → World → Prop}
theorem wpList_pbuild (hw : Region.wanted o (yielded ops a.tmps) = true) (parts : Array (Nat × Operand)) (ho : o.op = .build t parts) (cs : Array Value) (hb : (Instr.build t (parts.map fun (i, x) => (i, a.eval x))).run P w = .ok (.agg cs) w)
    (h : wpList P ops Q rest (a.put o.dst (.agg cs)) w) : wpList P ops Q (o :: rest) a w := by
  refine BigFrame.wpList_want hw fun K hK => ?_
  unfold Oper.wp execOp
  simp only [ho, Sem.run_bind, hb, Result.andThen_ok]
  rw [show (pure (Next.value (Value.agg cs)) : Sem Next).run P w = .ok (.value (.agg cs)) w from rfl]
  exact hK _ _ h
end
section
variable {ops : Array Oper} {rest : List Oper} {o : Oper} {a : Act} {Q : Exit → Act → World → Prop}
end

/-- nothing that was there has turned but two blocks -/
structure Two (A G : Nat) (W w : World) : Prop where
  os : w.os = W.os
  tape : w.tape = W.tape
  output : w.output = W.output
  size : W.heap.size ≤ w.heap.size
  block : ∀ k, k < W.heap.size → k ≠ A → k ≠ G → w.heap[k]? = W.heap[k]?
theorem Two.refl (A G : Nat) (W : World) : Two A G W W := ⟨rfl, rfl, rfl, Nat.le_refl _, fun _ _ _ _ => rfl⟩
theorem Two.step {A G : Nat} {W w w' : World} (h : Two A G W w) {row : Option Nat} (hg : w.grownBy w' row) (hr : ∀ k, row = some k → k = A ∨ k = G ∨ W.heap.size ≤ k) : Two A G W w' :=
  ⟨hg.os.trans h.os, hg.tape.trans h.tape, hg.output.trans h.output, Nat.le_trans h.size hg.size, fun k hk h1 h2 => (hg.block k (Nat.lt_of_lt_of_le hk h.size) (fun e => by
    rcases hr k e.symm with e | e | e
    · exact h1 e
    · exact h2 e
    · omega)).trans (h.block k hk h1 h2)⟩
theorem Two.below {A G : Nat} {W w w' : World} (h : Two A G W w) (hb : Below w.heap.size w w') : Two A G W w' :=
  ⟨hb.os.trans h.os, hb.tape.trans h.tape, hb.output.trans h.output, Nat.le_trans h.size hb.size, fun k hk h1 h2 => (hb.block k (Nat.lt_of_lt_of_le hk h.size)).trans (h.block k hk h1 h2)⟩
theorem own_blk {w w' : World} {B : Nat} {e : TypeId} {k n : Nat} {v : Value} {xs : List Value} (h : w.ownsRow B e k v n xs) (hb : ∀ b, v.ownBlock = some b → w'.heap[b]? = w.heap[b]?) : w'.ownsRow B e k v n xs := by
  refine ⟨h.1, ?_⟩
  rcases h.2 with q | ⟨g, cap, cur, q1, q2, q3, q4⟩
  · exact .inl q
  · refine .inr ⟨g, cap, cur, q1, q2, ?_, q4⟩
    rw [hb g (by rw [q1]; rfl)]; exact q3
theorem own_grown {w w' : World} {A B : Nat} {e : TypeId} {k n : Nat} {v : Value} {xs : List Value} (h : w.ownsRow B e k v n xs) (hg : w.grownBy w' (some A)) (hA : A < B) : w'.ownsRow B e k v n xs :=
  own_blk h fun b hb => by
    obtain ⟨h1, h2⟩ := h.lt b hb
    exact hg.block b h2 (by simp; omega)
/-- a row of things of another type than block G, of one's own above A, stays -/
theorem Two.own {A G B : Nat} {W w : World} (h : Two A G W w) {e : TypeId} {k n : Nat} {v : Value} {xs : List Value} (hv : W.ownsRow B e k v n xs) (hA : A < B) {cs : Array Value} {T : TypeId} {m : Nat × Nat} (hG : W.heap[G]? = some (.cells cs T m)) (hne : T ≠ e) : w.ownsRow B e k v n xs := by
  refine own_blk hv fun b hb => ?_
  obtain ⟨h1, h2⟩ := hv.lt b hb
  refine h.block b h2 (by omega) (fun e1 => ?_)
  subst e1
  rcases hv.2 with ⟨rfl, _⟩ | ⟨g, cap, cur, rfl, _, hg, _⟩
  · simp [Value.ownBlock] at hb
  · have : g = b := by simpa [Value.ownBlock] using hb
    subst this
    rw [hG] at hg
    injection hg with hg
    injection hg with _ e3 _
    exact hne e3

/-- a closure that tells of events, one by one, which go; what it knows lies in block A -/
structure Goes (F : FuncId) (caps : Array Value) {σ : Type} (goes : σ → Ev → Bool) (next : σ → Ev → σ) (A : Nat) (I : σ → World → Prop) : Prop where
  enter : ∀ args w, (callFunc F args).run Tryz.prog w = .ok (.enter F args) w
  tell : ∀ s (x : EvP) w, I s w → Calls Tryz.prog F (#[.agg x.cells.toArray] ++ caps) w fun e w' => e = .returned (.bool (goes s x.e)) ∧ I (next s x.e) w' ∧ w.grownBy w' (some A)
  keep : ∀ s w w' row, I s w → w.grownBy w' row → row ≠ some A → I s w'
  lt : ∀ s w, I s w → A < w.heap.size
def WithR {σ : Type} (goes : σ → Ev → Bool) (next : σ → Ev → σ) (A : Nat) (I : σ → World → Prop) (w : World) (s : σ) (f : Nat → Int) (l : List Ev) (e : Ending) (w' : World) : Prop :=
  ∃ v K, e = .returned (.agg (pcs v (wRun goes next s f l).2.2)) ∧ OwnE w' w.heap.size v K ∧ evs K = (wRun goes next s f l).2.1 ∧ I (wRun goes next s f l).1 w' ∧ w.grownBy w' (some A)
theorem evs_take_succ (L : List EvP) (j : Nat) (h : j < L.length) : evs (L.take (j + 1)) = evs (L.take j) ++ [L[j].e] := by
  rw [List.take_add_one, List.getElem?_eq_getElem h, evs, List.map_append]; rfl

end Go.Proofs.YtijmijokgenflaaGreatDoor
/- past: Trim and Collect. -/
namespace Go.Proofs.YtijmijokgenflaaGreatDoor
open Go Go.RowKit
set_option linter.unusedVariables false

/-! What operations run to -/
section
variable {P : Program} {o : Oper} {a : Act} {w : World}
theorem exec_gload (t : TypeId) (x : Operand) (ho : o.op = .load t x) (b c : Nat) (hx : a.eval x = .pointer (some ⟨b, c, none⟩)) (cs : List Value) (hr : w.rangeAt b c cs) {d : TypeDesc} (hu : P.underlying t = some d) (hd : d.isRow = true) (hsz : (P.info? t).map (·.size) = some cs.length) :
    (execOp a.eval o).run P w = .ok (.value (.agg cs.toArray)) w := by
  unfold execOp
  simp only [ho, hx]
  exact run_value_of (run_loadAt_mid w b c t cs d hr hu hd hsz)
theorem exec_subI (t yt : TypeId) (x y : Operand) (ho : o.op = .binOp .sub t x y yt) (X Y R : Int) (hR : IntKind.i64.wrap (X - Y) = R) (hx : a.eval x = .int .i64 X) (hy : a.eval y = .int .i64 Y) (w : World) :
    (execOp a.eval o).run P w = .ok (.value (.int .i64 R)) w := by
  subst hR
  unfold execOp
  simp only [ho, hx, hy]
  rfl
theorem exec_maxI (x y : Operand) (tys : Array TypeId) (ho : o.op = .call { callee := .builtin .max, args := #[x, y], argTypes := tys }) (X Y R : Int) (hR : max X Y = R) (hx : a.eval x = .int .i64 X) (hy : a.eval y = .int .i64 Y) (w : World) :
    (execOp a.eval o).run P w = .ok (.value (.int .i64 R)) w := by
  have e : (#[x, y] : Array Operand).map a.eval = #[.int .i64 X, .int .i64 Y] := by simp only [List.map_toArray, List.map_cons, List.map_nil, hx, hy]
  have hm : (Builtin.max_ tys o.type #[.int .i64 X, .int .i64 Y]).run P w = .ok (.int .i64 R) w := by
    rw [run_max_int2, show (if X < Y then Y else X) = R by split <;> omega]
  unfold execOp
  simp only [ho]
  unfold resolve
  simp only [e]
  simp only [Sem.run_bind, Sem.run_pure, Result.andThen_ok, invoke]
  unfold builtin
  simp only [hm, Sem.run_bind, Sem.run_pure, Result.andThen_ok]
theorem exec_storeI1 (t : TypeId) (x y : Operand) (ho : o.op = .store t x y) (hsz : ∀ w : World, (sizeOf t).run P w = .ok 1 w) (p : Addr) (k : IntKind) (v : Int) (old : Value) (hx : a.eval x = .pointer (some p)) (hy : a.eval y = .int k v)
    (hc : w.cell? p = some old) (hf : w.frozen? p = false) : (execOp a.eval o).run P w = .ok .skip (w.setCell p (.int k v)) := by
  unfold execOp
  simp only [ho, hx, hy]
  have hs := hsz w
  go_simp
end
theorem sizeInt (w : World) : (sizeOf 3).run Tryz.prog w = .ok 1 w := by kernel_rfl
set_option maxRecDepth 1000000 in
theorem allocInt {o : Oper} {a : Act} (ho : o.op = .alloc 3) (w : World) : (execOp a.eval o).run Tryz.prog w = .ok (.value (.pointer (some ⟨w.heap.size, 0, none⟩))) (w.alloc (.cells #[.int .i64 0] 3)) := by
  unfold execOp
  simp only [ho]
  rfl

/-! The closures -/
def InInt (A : Nat) (x : Int) (w : World) : Prop := -9223372036854775808 ≤ x ∧ x ≤ 9223372036854775807 ∧ w.heap[A]? = some (.cells #[.int .i64 x] 3 (0, 0))
def InVec (A : Nat) (v : Nat → Int) (_ : Unit) (w : World) : Prop := Row w A 23 v
end Go.Proofs.YtijmijokgenflaaGreatDoor
/- Two dots held against one another; one event in a row of its own. -/
namespace Go.Proofs.YtijmijokgenflaaGreatDoor
open Go Go.RowKit
set_option linter.unusedVariables false
set_option maxRecDepth 1000000

theorem to_drew {B : Nat} {w w' : World} (h : Below B w w') : Below B w w'.drew := ⟨h.os, h.tape, h.output, h.size, h.block⟩
def eqDt (x y : Dt) : Bool := x.1 == y.1 && x.2 == y.2
theorem eqDt_iff (x y : Dt) : eqDt x y = true ↔ x = y := by
  simp only [eqDt, Bool.and_eq_true, beq_iff_eq]
  exact ⟨fun h => Prod.ext h.1 h.2, fun h => by subst h; exact ⟨rfl, rfl⟩⟩
theorem eqDt_no {x y : Dt} (h : x ≠ y) : eqDt x y = false := by
  cases e : eqDt x y with
  | false => rfl
  | true => exact absurd ((eqDt_iff x y).1 e) h
theorem runEqDt (x y : Dt) (w : World) : (Op.equalIn 10000 37 (.agg (dcs x.1 x.2)) (.agg (dcs y.1 y.2))).run Tryz.prog w = .ok (eqDt x y) w := by
  have u3 := Tryz.underlying3
  have a3 := Tryz.isAgg3
  have z3 := Tryz.sizeOf3
  have hS : Tryz.prog.underlying 37 = some (.struct (Tryz.prog.fieldsOf 37)) := by kernel_rfl
  have hp : Tryz.prog.stoodInHeld 37 = false := by kernel_rfl
  simp only [dcs]
  rw [show (10000 : Nat) = 9999 + 1 from rfl, run_equalIn_agg w 9999 37 _ _ hS hp]
  simp only [Program.fieldsOf, Tryz.underlying37]
  go_simp
  unfold eqDt
  by_cases h1 : x.fst = y.fst <;> by_cases h2 : x.snd = y.snd <;> simp [h1, h2]
theorem eqlDt (x y : Dt) (w : World) : (binOp .eql 37 (.agg #[.int .i64 x.1, .int .i64 x.2]) (.agg #[.int .i64 y.1, .int .i64 y.2])).run Tryz.prog w = .ok (.bool (eqDt x y)) w := by
  rw [run_eql_struct]
  have h := runEqDt x y w
  simp only [dcs] at h
  rw [h]; rfl
theorem neqDt (x y : Dt) (w : World) : (binOp .neq 37 (.agg #[.int .i64 x.1, .int .i64 x.2]) (.agg #[.int .i64 y.1, .int .i64 y.2])).run Tryz.prog w = .ok (.bool (!eqDt x y)) w := by
  rw [run_neq_struct]
  have h := runEqDt x y w
  simp only [dcs] at h
  rw [h]; rfl
theorem exec_idxD {o : Oper} {a : Act} (x y : Operand) (ho : o.op = .indexAddr 41 x y) (b f len cap k : Nat) (hx : a.eval x = .slice (some ⟨b, f, none⟩) len cap) (hy : a.eval y = .int .i64 (k : Int)) (hk : k < len) (w : World) :
    (execOp a.eval o).run Tryz.prog w = .ok (.value (.pointer (some ⟨b, f + k * 2, none⟩))) w := by
  have hs : ∀ w : World, (sizeOf (Tryz.prog.elem 41)).run Tryz.prog w = .ok 2 w := fun w => by kernel_rfl
  unfold execOp
  simp only [ho, hx, hy]
  refine run_value_of ?_
  rw [run_indexAt_slice (h := Tryz.underlying41), if_pos (by omega), hs]
  simp only [Result.andThen_ok, Int.toNat_natCast]
  cases k <;> simp [Addr.add]
theorem exec_neqD {o : Oper} {a : Act} (t : TypeId) (x y : Operand) (ho : o.op = .binOp .neq 37 x y t) (X : Dt) (hx : a.eval x = .agg #[.int .i64 X.1, .int .i64 X.2]) (hy : a.eval y = .agg #[.int .i64 X.1, .int .i64 X.2]) (w : World) :
    (execOp a.eval o).run Tryz.prog w = .ok (.value (.bool false)) w := by
  have h := neqDt X X w
  rw [(eqDt_iff X X).2 rfl] at h
  simp only [Bool.not_true] at h
  unfold execOp
  simp only [ho, hx, hy]
  refine run_value_of ?_
  rw [Sem.run_bind]
  have hg : (eqGuard .neq 37 x y (.agg #[.int .i64 X.1, .int .i64 X.2]) (.agg #[.int .i64 X.1, .int .i64 X.2])).run Tryz.prog w = .ok () w := by
    unfold eqGuard
    go_simp
  rw [hg]
  exact h
theorem sizeEv (x : EvP) : (Tryz.prog.info? 55).map (·.size) = some x.cells.length := by rw [EvP.cells_len]; kernel_rfl
theorem evs_one {w : World} {g : Nat} {x : EvP} (h : x.Ok w) (hg : w.rangeAt g 0 x.cells) : EvsAt w (some ⟨g, 0, none⟩) [x] :=
  ⟨fun _ => ⟨g, 0, rfl, by simpa [ecl] using hg⟩, fun y hy => by obtain rfl := List.mem_singleton.1 hy; exact h, fun e => by cases e⟩
end Go.Proofs.YtijmijokgenflaaGreatDoor
/- two events held against one another, and lists of them. -/
namespace Go.Proofs.YtijmijokgenflaaGreatDoor
open Go Go.RowKit
set_option linter.unusedVariables false
set_option maxRecDepth 1000000

theorem exec_neqE {o : Oper} {a : Act} (t : TypeId) (x y : Operand) (ho : o.op = .binOp .neq 37 x y t) (X Y : Dt) (b : Bool) (hb : (!eqDt X Y) = b) (hx : a.eval x = .agg #[.int .i64 X.1, .int .i64 X.2]) (hy : a.eval y = .agg #[.int .i64 Y.1, .int .i64 Y.2]) (w : World) :
    (execOp a.eval o).run Tryz.prog w = .ok (.value (.bool b)) w := by
  subst hb
  have h := neqDt X Y w
  unfold execOp
  simp only [ho, hx, hy]
  refine run_value_of ?_
  rw [Sem.run_bind]
  have hg : (eqGuard .neq 37 x y (.agg #[.int .i64 X.1, .int .i64 X.2]) (.agg #[.int .i64 Y.1, .int .i64 Y.2])).run Tryz.prog w = .ok () w := by
    unfold eqGuard
    go_simp
  rw [hg]
  exact h
theorem drow_at {w : World} {p : Option Addr} {l : List Dt} (h : DRow w p l) {k : Nat} (hk : k < l.length) : ∃ b o, p = some ⟨b, o, Option.none⟩ ∧ w.rangeAt b (o + k * 2) [.int .i64 l[k].1, .int .i64 l[k].2] := by
  have hne : l ≠ [] := by intro e; subst e; simp at hk
  obtain ⟨b, o, rfl, hr⟩ := h hne
  obtain ⟨d1, d2⟩ := dcl_get l k hk
  have r1 := hr _ _ d1; have r2 := hr _ _ d2
  refine ⟨b, o, rfl, fun j u hu => ?_⟩
  match j, hu with
  | 0, hu => simp at hu; subst hu; simpa using r1
  | 1, hu => simp at hu; subst hu; rw [Nat.add_assoc]; exact r2
  | j + 2, hu => simp at hu
set_option maxHeartbeats 8000000 in
set_option maxRecDepth 1000000 in
theorem equalW_is (p1 p2 : Option Addr) (c1 c2 : Nat) (l1 l2 : List Dt) (w : World) (h1 : DRow w p1 l1) (h2 : DRow w p2 l2) (hn : l1.length ≤ 1000000) (hn2 : l2.length ≤ 1000000) :
    Calls Tryz.prog 11 #[.slice p1 l1.length c1, .slice p2 l2.length c2] w (RetBool w (decide (l1 = l2))) := by
  have H1 := Lib.hid h1; have H2 := Lib.hid h2; clear h1 h2
  by_cases hlen : l1.length = l2.length
  · obtain ⟨m, hm⟩ : ∃ m, l2.length = m := ⟨_, rfl⟩
    rw [hlen, hm]
    have hl1 : Hid (l1.length = m) := hlen.trans hm
    have hl2 : Hid (l2.length = m) := hm
    have hmb : m ≤ 1000000 := by omega
    obtain ⟨bb, hbb⟩ : ∃ bb, decide (l1 = l2) = bb := ⟨_, rfl⟩
    rw [hbb]
    have HB := Lib.hid hbb
    clear hlen hm hn hn2 hbb
    go_enter Tryz.func11, Tryz.ntmps11
    go_wp2
    go_loopw [13] (fun i wr => ∃ k : Nat, k ≤ m ∧ i = .int .i64 k ∧ (∀ t, t < k → l1[t]? = l2[t]?) ∧ Below w.heap.size w wr) (fun i _ => m - (intOf i).toNat)
    case atStart => exact ⟨0, Nat.zero_le _, rfl, fun t h => by omega, Below.refl _ _⟩
    case round =>
      obtain ⟨k, hk, rfl, hall, hb⟩ := hrel
      have BB := Lib.hid hb; have HA := Lib.hid hall
      clear hb hall
      by_cases hkl : k < m
      · have hk1 : k < l1.length := by have := hl1.out; omega
        have hk2 : k < l2.length := by have := hl2.out; omega
        have hr := to_drew BB.out
        have HR := Lib.hid hr
        obtain ⟨b1, o1, rfl, q1⟩ := drow_at (H1.out.below hr) hk1
        obtain ⟨b2, o2, rfl, q2⟩ := drow_at (H2.out.below hr) hk2
        have Q1 := Lib.hid q1; have Q2 := Lib.hid q2
        clear q1 q2 hr
        have hkl' : (k : Int) < m := by omega
        obtain ⟨⟨x1, x2⟩, hx⟩ : ∃ x, l1[k] = x := ⟨_, rfl⟩
        obtain ⟨⟨y1, y2⟩, hy⟩ : ∃ y, l2[k] = y := ⟨_, rfl⟩
        have HX := Lib.hid hx; have HY := Lib.hid hy
        rw [hx] at Q1
        rw [hy] at Q2
        clear hx hy
        simp only at Q1 Q2
        obtain ⟨ne, hne⟩ : ∃ ne, (!eqDt (x1, x2) (y1, y2)) = ne := ⟨_, rfl⟩
        have NE := Lib.hid hne
        clear hne
        go_wp2_with fail
        rename_i K2 hK2
        have KE : K2 { tmps := #[.slice (some ⟨b1, o1, none⟩) m c1, .slice (some ⟨b2, o2, none⟩) m c2, undef, undef, u4, .int .i64 (k : Int), .slice (some ⟨b1, o1, none⟩) m c1, .int .i64 (m : Int), .slice (some ⟨b2, o2, none⟩) m c2, .int .i64 (m : Int), .bool false, .slice (some ⟨b1, o1, none⟩) m c1, .int .i64 (m : Int), .int .i64 (k : Int), .bool true, .int .i64 (k : Int), .slice (some ⟨b1, o1, none⟩) m c1, .int .i64 (k : Int), .pointer (some ⟨b1, o1 + k * 2, none⟩), .agg #[.int .i64 x1, .int .i64 x2], .slice (some ⟨b2, o2, none⟩) m c2, .int .i64 (k : Int), .pointer (some ⟨b2, o2 + k * 2, none⟩), .agg #[.int .i64 y1, .int .i64 y2], .bool ne, u25], defers := [] } wr.drew := by
          refine hK2 _ _ ?_
          clear hK2 Q1 Q2
          cases ne with
          | false =>
            have hxy : l1[k] = l2[k] := by
              rw [HX.out, HY.out]
              have h1 := NE.out
              simp only [Bool.not_eq_false'] at h1
              exact (eqDt_iff _ _).1 h1
            have HXY := Lib.hid hxy
            clear hxy
            go_wp2
            go_roundw
            case rel => exact ⟨k + 1, by omega, by go_num, fun t ht => by
              rcases Nat.lt_or_ge t k with h | h
              · exact HA.out t h
              · obtain rfl : t = k := by omega
                rw [List.getElem?_eq_getElem hk1, List.getElem?_eq_getElem hk2, HXY.out], HR.out⟩
            case measure => simp [intOf]; omega
          | true =>
            have hf : bb = false := by
              rw [← HB.out]
              refine decide_eq_false fun h => ?_
              have h1 : l1[k] = l2[k] := by simp only [h]
              rw [HX.out, HY.out] at h1
              have h2 := NE.out
              rw [(eqDt_iff _ _).2 h1] at h2
              cases h2
            subst hf
            go_wp2
            go_ret
            exact ⟨rfl, HR.out⟩
        have SZ : ∀ z1 z2 : Int, (Tryz.prog.info? 37).map (·.size) = some [Value.int .i64 z1, .int .i64 z2].length := fun z1 z2 => by kernel_rfl
        have m0 := And.intro Q1.out Q2.out
        refine rg_calm (by kernel_rfl) rfl (S := fun U => U.rangeAt b1 (o1 + k * 2) [.int .i64 x1, .int .i64 x2] ∧ U.rangeAt b2 (o2 + k * 2) [.int .i64 y1, .int .i64 y2]) ?_
        refine rgd_pure 0 (some 16) rfl rfl (.slice (some ⟨b1, o1, none⟩) m c1) (by kernel_rfl) (by kernel_rfl) (by kernel_rfl) (fun _ _ _ _ h => h) (by kernel_rfl) (fun w => by kernel_rfl) m0 ?_
        refine rgd_pure 1 (some 17) rfl rfl (.int .i64 (k : Int)) (by kernel_rfl) (by kernel_rfl) (by kernel_rfl) (fun _ _ _ _ h => h) (by kernel_rfl) (fun w => by kernel_rfl) m0 ?_
        refine rgd_pure 2 (some 18) rfl rfl (.pointer (some ⟨b1, o1 + k * 2, none⟩)) (by kernel_rfl) (by kernel_rfl) (by kernel_rfl) (fun _ _ _ _ h => h) (by kernel_rfl) (exec_idxD _ _ rfl b1 o1 m c1 k (by kernel_rfl) (by kernel_rfl) hkl) m0 ?_
        refine rgd_pureS 3 (some 19) rfl rfl (.agg #[.int .i64 x1, .int .i64 x2]) (by kernel_rfl) (by kernel_rfl) (by kernel_rfl) (fun _ _ _ _ h => h) (by kernel_rfl) (fun U hU => exec_gload 37 _ rfl b1 (o1 + k * 2) (by kernel_rfl) _ hU.1 Tryz.underlying37 rfl (SZ x1 x2)) m0 ?_
        refine rgd_pure 4 (some 20) rfl rfl (.slice (some ⟨b2, o2, none⟩) m c2) (by kernel_rfl) (by kernel_rfl) (by kernel_rfl) (fun _ _ _ _ h => h) (by kernel_rfl) (fun w => by kernel_rfl) m0 ?_
        refine rgd_pure 5 (some 21) rfl rfl (.int .i64 (k : Int)) (by kernel_rfl) (by kernel_rfl) (by kernel_rfl) (fun _ _ _ _ h => h) (by kernel_rfl) (fun w => by kernel_rfl) m0 ?_
        refine rgd_pure 6 (some 22) rfl rfl (.pointer (some ⟨b2, o2 + k * 2, none⟩)) (by kernel_rfl) (by kernel_rfl) (by kernel_rfl) (fun _ _ _ _ h => h) (by kernel_rfl) (exec_idxD _ _ rfl b2 o2 m c2 k (by kernel_rfl) (by kernel_rfl) hkl) m0 ?_
        refine rgd_pureS 7 (some 23) rfl rfl (.agg #[.int .i64 y1, .int .i64 y2]) (by kernel_rfl) (by kernel_rfl) (by kernel_rfl) (fun _ _ _ _ h => h) (by kernel_rfl) (fun U hU => exec_gload 37 _ rfl b2 (o2 + k * 2) (by kernel_rfl) _ hU.2 Tryz.underlying37 rfl (SZ y1 y2)) m0 ?_
        refine rgd_pure 8 (some 24) rfl rfl (.bool ne) (by kernel_rfl) (by kernel_rfl) (by kernel_rfl) (fun _ _ _ _ h => h) (by kernel_rfl) (exec_neqE _ _ _ rfl (x1, x2) (y1, y2) ne NE.out (by kernel_rfl) (by kernel_rfl)) m0 ?_
        exact wpAnyH_done (by kernel_rfl) (Eq.mp (by kernel_rfl) KE) _
      · obtain rfl : k = m := by omega
        have ht : bb = true := by
          rw [← HB.out]
          refine decide_eq_true (List.ext_getElem (by rw [hl1.out, hl2.out]) fun t h1 h2 => ?_)
          have := HA.out t (by rw [← hl1.out]; exact h1)
          simpa [List.getElem?_eq_getElem h1, List.getElem?_eq_getElem h2] using this
        subst ht
        go_wp2
        go_ret
        exact ⟨rfl, BB.out⟩
  · have hf : decide (l1 = l2) = false := decide_eq_false (fun h => hlen (by rw [h]))
    rw [hf]
    have hne : ((l1.length : Int) != (l2.length : Int)) = true := by simp; omega
    clear hf
    go_enter Tryz.func11, Tryz.ntmps11
    go_wp2
    go_ret
    exact ⟨rfl, Below.refl _ _⟩
end Go.Proofs.YtijmijokgenflaaGreatDoor
