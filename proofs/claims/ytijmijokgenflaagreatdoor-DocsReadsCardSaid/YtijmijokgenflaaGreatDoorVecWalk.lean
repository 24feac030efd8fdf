/- Rows of 64 numbers in memory: a block of one, made, read, written whole or at a place, as a walk meets it. No number of a program stands here. -/
import Derived.Test.YtijmijokgenflaaGreatDoorVec
import Derived.Great.Walk
import Derived.BigFrame
import Derived.Lib.QuietBelow
namespace Go.Proofs.YtijmijokgenflaaGreatDoor
open Go Go.RowKit
set_option linter.unusedVariables false

/-- block g is a row of 64 -/
def Row (w : World) (g : Nat) (t : TypeId) (f : Nat → Int) : Prop := w.heap[g]? = some (.cells (vf f) t (0, 0))
theorem Row.lt {w : World} {g : Nat} {t : TypeId} {f : Nat → Int} (h : Row w g t f) : g < w.heap.size := (Array.getElem?_eq_some_iff.1 h).1
theorem Row.cell {w : World} {g : Nat} {t : TypeId} {f : Nat → Int} (h : Row w g t f) (k : Nat) (hk : k < 64) : w.cell? ⟨g, k, none⟩ = some (.int .i64 (f k)) := by
  rw [cell_of_row w g k _ _ _ h, vf_get f k hk]
theorem Row.free {w : World} {g : Nat} {t : TypeId} {f : Nat → Int} (h : Row w g t f) (k : Nat) : w.frozen? ⟨g, k, none⟩ = false := by simp [World.frozen?, show w.heap[g]? = _ from h]
theorem Row.below {w w' : World} {g B : Nat} {t : TypeId} {f : Nat → Int} (h : Row w g t f) (hb : Below B w w') (hB : g < B) : Row w' g t f := (hb.block g hB).trans h
theorem Row.later {w w' : World} {g : Nat} {t : TypeId} {f : Nat → Int} (h : Row w g t f) (hb : Below w.heap.size w w') : Row w' g t f := h.below hb h.lt
theorem Row.kept {w w' : World} {g : Nat} {t : TypeId} {f : Nat → Int} (h : Row w g t f) {row : Option Nat} (hg : w.grownBy w' row) (hne : some g ≠ row) : Row w' g t f := (hg.block g h.lt hne).trans h
theorem Row.congr {w : World} {g : Nat} {t : TypeId} {f f' : Nat → Int} (h : Row w g t f) (he : ∀ i, i < 64 → f i = f' i) : Row w g t f' := by
  unfold Row at h ⊢; rw [h, vf_congr he]
theorem block_setCell {w : World} {G j : Nat} {cs : Array Value} {ty : TypeId} {m : Nat × Nat} (h : w.heap[G]? = some (.cells cs ty m)) (v : Value) : (w.setCell ⟨G, j, none⟩ v).heap[G]? = some (.cells (cs.setIfInBounds j v) ty m) := by
  have hlt := (Array.getElem?_eq_some_iff.1 h).1
  have h' : w.heap[G] = .cells cs ty m := by simpa [Array.getElem?_eq_getElem hlt] using h
  show (w.heap.modify G _)[G]? = _
  rw [Array.getElem?_eq_getElem (by simpa using hlt), Array.getElem_modify_self, h']
  rfl
theorem grown_cell (w : World) (G j : Nat) (v : Value) : w.grownBy (w.setCell ⟨G, j, none⟩ v) (some G) :=
  ⟨rfl, rfl, rfl, by simp [World.setCell], fun i hi hne => Below.heap_setCell w ⟨G, j, none⟩ v i (fun e => hne (by rw [e]))⟩
theorem Row.set {w : World} {g : Nat} {t : TypeId} {f : Nat → Int} (h : Row w g t f) (k : Nat) (x : Int) : Row (w.setCell ⟨g, k, none⟩ (.int .i64 x)) g t (vset f k x) := by
  unfold Row
  rw [block_setCell h, vf_set]
theorem grown_row {w : World} {g : Nat} {t : TypeId} {f : Nat → Int} (h : Row w g t f) (f' : Nat → Int) : w.grownBy (w.setRow g (vf f')) (some g) ∧ Row (w.setRow g (vf f')) g t f' := by
  refine ⟨⟨rfl, rfl, rfl, by simp [World.setRow], fun i hi hne => ?_⟩, ?_⟩
  · show (w.heap.modify g _)[i]? = _
    rw [Array.getElem?_modify, if_neg (fun e => hne (by rw [e]))]
  · show (w.heap.modify g _)[g]? = _
    rw [Array.getElem?_modify, if_pos rfl, show w.heap[g]? = _ from h]
    rfl
theorem grown_below {w w' : World} {g B : Nat} (hg : w.grownBy w' (some g)) (hB : B ≤ w.heap.size) (hle : B ≤ g) : Below B w w' :=
  (Below.refl B w).grown hg hB (fun k hk => by have := Option.some.inj hk; omega)

theorem range_below {w w' : World} {b o : Nat} {cs : List Value} (h : w.rangeAt b o cs) (hb : Below w.heap.size w w') : w'.rangeAt b o cs := fun j v hv => by
  have h1 := h j v hv
  rw [hb.cell (p := ⟨b, o + j, none⟩) (World.block_lt_of_cell? w _ h1)]; exact h1
theorem Row.range {w : World} {g : Nat} {t : TypeId} {f : Nat → Int} (h : Row w g t f) : w.rangeAt g 0 (vf f).toList := fun j v hv => by
  rw [cell_of_row w g (0 + j) _ _ _ h, Nat.zero_add]; simpa using hv

section
variable {P : Program} {t e : TypeId} {ops : Array Oper} {rest : List Oper} {o : Oper} {a : Act} {w : World} {Q : Exit → Act → World → Prop}
theorem below_alloc (w : World) (o : Obj) : Below w.heap.size w (w.alloc o) := (Below.refl _ _).alloc (Nat.le_refl _) o
/-- a row laid into a block of its own -/
theorem wpList_vbox (V : Vec P t e) (hg : o.guard = none) (x : Operand) (ho : o.op = .box t x) (f : Nat → Int) (hx : a.eval x = .agg (vf f))
    (h : ∀ g w', w.heap.size ≤ g → Row w' g t f → Below w.heap.size w w' → wpList P ops Q rest (a.put o.dst (.pointer (some ⟨g, 0, none⟩))) w') : wpList P ops Q (o :: rest) a w := by
  refine Great.wpList_runTo hg o.dst rfl (.pointer (some ⟨w.heap.size, 0, none⟩)) (w.alloc (.cells (vf f) t)) ?_ (h _ _ (Nat.le_refl _) (heap_alloc_new w _) (below_alloc w _))
  unfold execOp
  simp only [ho, hx]
  rfl
theorem wpList_valloc (V : Vec P t e) (hz : ∀ w, (zeroValue t).run P w = .ok (.agg (vf fun _ => 0)) w) (hg : o.guard = none) (ho : o.op = .alloc t)
    (h : ∀ g w', w.heap.size ≤ g → Row w' g t (fun _ => 0) → Below w.heap.size w w' → wpList P ops Q rest (a.put o.dst (.pointer (some ⟨g, 0, none⟩))) w') : wpList P ops Q (o :: rest) a w := by
  refine Great.wpList_runTo hg o.dst rfl (.pointer (some ⟨w.heap.size, 0, none⟩)) (w.alloc (.cells (vf fun _ => 0) t)) ?_ (h _ _ (Nat.le_refl _) (heap_alloc_new w _) (below_alloc w _))
  unfold execOp
  simp only [ho, Instr.alloc, Sem.run_bind, hz, Result.andThen_ok]
  rfl
theorem Vec.loadVar (V : Vec P t e) {g : Nat} {ty : TypeId} {f : Nat → Int} {W : World} (hr : Row W g ty f) : (Go.loadVar t ⟨g, 0, none⟩).run P W = .ok (.agg (vf f)) W :=
  run_loadVar_row W g ty t (vf f) (0, 0) _ hr V.array rfl (by rw [vf_size]; exact V.whole)
theorem Vec.loadAt (V : Vec P t e) {g : Nat} {ty : TypeId} {f : Nat → Int} {W : World} (hr : Row W g ty f) : (Instr.loadAt t (.pointer (some ⟨g, 0, none⟩))).run P W = .ok (.agg (vf f)) W := by
  simp only [Instr.loadAt, Instr.sureAddr, Sem.run_bind, Sem.run_pure, Result.andThen_ok, V.loadVar hr]
/-- the worlds of a quiet region -/
theorem Row.quiet {W W' : World} {g : Nat} {ty : TypeId} {f : Nat → Int} (hr : Row W g ty f) (h : ∃ p : Regrown, W' = Sort.grow (redrawn W p.d) p.os) : Row W' g ty f := by
  obtain ⟨p, rfl⟩ := h
  exact hr.later (below_regrown W p.d p.os)
theorem wpQuiet_val {C : World → Prop} {R : Act → Prop} {v : Value} (hg : o.guard = none) (h : ∀ w, C w → (execOp a.eval o).run P w = .ok (.value v) w) (hk : wpQuiet P ops C R rest (a.put o.dst v)) : wpQuiet P ops C R (o :: rest) a := by
  refine wpQuiet_step fun K hK => ?_
  rw [if_pos (by simp [Region.wanted, hg])]
  exact ⟨v, fun w hw => by unfold Oper.quietAt; rw [h w hw]; exact ⟨rfl, rfl⟩, hK _ hk⟩
theorem wpQuiet_vload {C : World → Prop} {R : Act → Prop} (V : Vec P t e) (hg : o.guard = none) (x : Operand) (ho : o.op = .load t x) (g : Nat) (hx : a.eval x = .pointer (some ⟨g, 0, none⟩)) (ty : TypeId) (f : Nat → Int) (hr : ∀ w, C w → Row w g ty f)
    (hk : wpQuiet P ops C R rest (a.put o.dst (.agg (vf f)))) : wpQuiet P ops C R (o :: rest) a := by
  refine wpQuiet_val hg (fun w hw => ?_) hk
  unfold execOp
  simp only [ho, hx, Sem.run_bind, V.loadAt (hr w hw), Result.andThen_ok]
  rfl
/-- a callee's contract met in a quiet region -/
theorem quiet_call {f : FuncId} {args : Array Value} {v : Value} (h : ∀ W, Calls P f args W fun e w' => e = .returned v ∧ Below W.heap.size W w') (d : Nat) (os : Array Obj) :
    Calls P f args (Sort.grow (redrawn w d) os) fun e w'' => e = .returned v ∧ ∃ p : Regrown, w'' = Sort.grow (redrawn w p.d) p.os := Calls.regrown_of (h _)
/-- a row read whole -/
theorem wpList_vload (V : Vec P t e) (hg : o.guard = none) (x : Operand) (ho : o.op = .load t x) (g : Nat) (hx : a.eval x = .pointer (some ⟨g, 0, none⟩)) (ty : TypeId) (f : Nat → Int) (hr : Row w g ty f)
    (h : wpList P ops Q rest (a.put o.dst (.agg (vf f))) w) : wpList P ops Q (o :: rest) a w :=
  wpList_load_row hg t x ho g hx ty (vf f) (0, 0) _ hr V.array rfl (by rw [vf_size]; exact V.whole) h
/-- a row written whole -/
theorem wpList_vstore (V : Vec P t e) (hg : o.guard = none) (x y : Operand) (ho : o.op = .store t x y) (g : Nat) (hx : a.eval x = .pointer (some ⟨g, 0, none⟩)) (f : Nat → Int) (hy : a.eval y = .agg (vf f)) (ty : TypeId) (f0 : Nat → Int) (hr : Row w g ty f0)
    (h : ∀ w', Row w' g ty f → w.grownBy w' (some g) → w'.heap.size = w.heap.size → wpList P ops Q rest (a.put o.dst undef) w') : wpList P ops Q (o :: rest) a w :=
  wpList_store_row hg t x y ho g (vf f) hx hy ty (vf f0) hr (by rw [vf_size]; exact V.whole) (by rw [vf_size, vf_size]) (vf_one f)
    (h _ (grown_row hr f).2 (grown_row hr f).1 (by simp [World.setRow]))
/-- a row built of parts, guarded or not -/
theorem wpList_vbuild (hw : Region.wanted o (yielded ops a.tmps) = true) (parts : Array (Nat × Operand)) (ho : o.op = .build t parts) (f : Nat → Int) (hb : (Instr.build t (parts.map fun (i, x) => (i, a.eval x))).run P w = .ok (.agg (vf f)) w)
    (h : wpList P ops Q rest (a.put o.dst (.agg (vf f))) w) : wpList P ops Q (o :: rest) a w := by
  refine BigFrame.wpList_want hw fun K hK => ?_
  unfold Oper.wp execOp
  simp only [ho, Sem.run_bind, hb, Result.andThen_ok]
  exact hK _ _ h
/-- a row read whole, guarded or not -/
theorem wpList_vloadG (V : Vec P t e) (hw : Region.wanted o (yielded ops a.tmps) = true) (x : Operand) (ho : o.op = .load t x) (g : Nat) (hx : a.eval x = .pointer (some ⟨g, 0, none⟩)) (ty : TypeId) (f : Nat → Int) (hr : Row w g ty f)
    (h : wpList P ops Q rest (a.put o.dst (.agg (vf f))) w) : wpList P ops Q (o :: rest) a w := by
  refine BigFrame.wpList_want hw fun K hK => ?_
  unfold Oper.wp execOp
  simp only [ho, hx, Sem.run_bind, V.loadAt hr, Result.andThen_ok]
  exact hK _ _ h
end
end Go.Proofs.YtijmijokgenflaaGreatDoor
