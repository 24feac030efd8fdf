/- The statement DocsReads, proved for every input that its row reads: part 6 of 54. -/
import Derived.Test.YtijmijokgenflaaGreatDoorVecWalk
import Derived.Test.YtijmijokgenflaaGreatDoorTail
import Derived.Laws.OwnMore
/- Slices of rows of 64 numbers in memory: 'Rws w G n R': n rows lie at G, the i-th is R i. No number of a program stands here. -/
namespace Go.Proofs.YtijmijokgenflaaGreatDoor
open Go Go.RowKit
set_option linter.unusedVariables false

structure Rws (w : World) (G n : Nat) (R : Nat → Nat → Int) : Prop where
  row : ∀ i, i < n → w.rangeAt G (i * 64) (vf (R i)).toList
  free : ∀ i, i < n → w.there G (i * 64) 64
theorem vl_length (f : Nat → Int) : (vf f).toList.length = 64 := by rw [Array.length_toList, vf_size]
theorem vl_get (f : Nat → Int) (j : Nat) (h : j < 64) : (vf f).toList[j]? = some (.int .i64 (f j)) := by rw [Array.getElem?_toList, vf_get f j h]
theorem vl_one (f : Nat → Int) : ∀ v ∈ (vf f).toList, v.oneCell' = true := fun v hv => (Array.all_eq_true_iff_forall_mem.1 (vf_one f)) v (by simpa using hv)
theorem Rws.lt {w : World} {G n : Nat} {R : Nat → Nat → Int} (h : Rws w G n R) (h0 : 0 < n) : G < w.heap.size := World.block_lt_of_cell? w _ (h.row 0 h0 0 _ (vl_get _ 0 (by omega)))
theorem Rws.cell {w : World} {G n : Nat} {R : Nat → Nat → Int} (h : Rws w G n R) (i j : Nat) (hi : i < n) (hj : j < 64) : w.cell? ⟨G, i * 64 + j, none⟩ = some (.int .i64 (R i j)) := h.row i hi j _ (vl_get _ j hj)
theorem there_below {w w' : World} {b o n : Nat} (h : w.there b o n) (hb : Below w.heap.size w w') : w'.there b o n := fun j hj => by
  obtain ⟨h1, h2⟩ := h j hj
  obtain ⟨u, hu⟩ := Option.isSome_iff_exists.1 h1
  have hlt := World.block_lt_of_cell? w _ hu
  exact ⟨by rw [hb.cell (p := ⟨b, o + j, none⟩) hlt]; exact h1, by rw [hb.frozen (p := ⟨b, o + j, none⟩) hlt]; exact h2⟩
theorem Rws.later {w w' : World} {G n : Nat} {R : Nat → Nat → Int} (h : Rws w G n R) (hb : Below w.heap.size w w') : Rws w' G n R :=
  ⟨fun i hi => range_below (h.row i hi) hb, fun i hi => there_below (h.free i hi) hb⟩
theorem Rws.kept {w w' : World} {G n : Nat} {R : Nat → Nat → Int} (h : Rws w G n R) {row : Option Nat} (hg : w.grownBy w' row) (hne : some G ≠ row) : Rws w' G n R := by
  refine ⟨fun i hi j v hv => hg.cell (h.row i hi j v hv) hne, fun i hi j hj => ?_⟩
  obtain ⟨h1, h2⟩ := h.free i hi j hj
  obtain ⟨u, hu⟩ := Option.isSome_iff_exists.1 h1
  have hlt := World.block_lt_of_cell? w _ hu
  exact ⟨by rw [hg.cell hu hne]; rfl, by rw [World.frozen?_of_block (w := w) (hg.block G hlt hne)]; exact h2⟩
theorem Rws.under {w w' : World} {G n B : Nat} {R : Nat → Nat → Int} (h : Rws w G n R) (hb : Below B w w') (hG : G < B) : Rws w' G n R :=
  ⟨fun i hi j v hv => by rw [hb.cell (p := ⟨G, i * 64 + j, none⟩) hG]; exact h.row i hi j v hv, fun i hi j hj => by
    obtain ⟨h1, h2⟩ := h.free i hi j hj
    exact ⟨by rw [hb.cell (p := ⟨G, i * 64 + j, none⟩) hG]; exact h1, by rw [hb.frozen (p := ⟨G, i * 64 + j, none⟩) hG]; exact h2⟩⟩
theorem grown_then {a b c : World} {r : Option Nat} (h : a.grownBy b r) (k : b.grownBy c r) : a.grownBy c r :=
  ⟨k.os.trans h.os, k.tape.trans h.tape, k.output.trans h.output, Nat.le_trans h.size k.size, fun i hi hne => (k.block i (Nat.lt_of_lt_of_le hi h.size) hne).trans (h.block i hi hne)⟩
theorem grown_of_below {a b : World} {r : Option Nat} (h : Below a.heap.size a b) : a.grownBy b r := ⟨h.os, h.tape, h.output, h.size, fun i hi _ => h.block i hi⟩
theorem grown_cells (G : Nat) (vs : List Value) : ∀ (o : Nat) (w : World), w.grownBy (w.setCells G o vs) (some G) := by
  induction vs with
  | nil => intro o w; exact ⟨rfl, rfl, rfl, Nat.le_refl _, fun _ _ _ => rfl⟩
  | cons v vs ih => intro o w; exact grown_then (grown_cell w G o v) (ih _ _)
/-- the rows with the i-th another one -/
def rset (R : Nat → Nat → Int) (i : Nat) (f : Nat → Int) : Nat → Nat → Int := fun j => if j = i then f else R j
theorem Rws.set {w : World} {G n : Nat} {R : Nat → Nat → Int} (h : Rws w G n R) (i : Nat) (hi : i < n) (f : Nat → Int) : Rws (w.setCells G (i * 64) (vf f).toList) G n (rset R i f) := by
  refine ⟨fun j hj => ?_, fun j hj => World.there_setCells (h.free j hj) _ _ _⟩
  unfold rset
  by_cases e : j = i
  · subst e
    rw [if_pos rfl]
    exact World.rangeAt_setCells_same _ _ _ _ (by rw [vl_length]; exact h.free j hj)
  · rw [if_neg e]
    exact World.rangeAt_setCells_apart (h.row j hj) _ _ _ (.inr (by rw [vl_length, vl_length]; omega))

section
variable {P : Program} {t e sl : TypeId} {ops : Array Oper} {rest : List Oper} {o : Oper} {a : Act} {w : World} {Q : Exit → Act → World → Prop}
theorem quiet_range {W W' : World} {b o : Nat} {cs : List Value} (h : W.rangeAt b o cs) (hc : ∃ p : Regrown, W' = Sort.grow (redrawn W p.d) p.os) : W'.rangeAt b o cs := by
  obtain ⟨p, rfl⟩ := hc
  exact range_below h (below_regrown W p.d p.os)
theorem Vec.midAt (V : Vec P t e) {W : World} {b o : Nat} {f : Nat → Int} (h : W.rangeAt b o (vf f).toList) : (Instr.loadAt t (.pointer (some ⟨b, o, none⟩))).run P W = .ok (.agg (vf f)) W := by
  have := run_loadAt_mid W b o t (vf f).toList _ h V.array rfl (by rw [vl_length]; exact V.whole)
  simpa using this
theorem wpQuiet_vmid {C : World → Prop} {R : Act → Prop} (V : Vec P t e) (hg : o.guard = none) (x : Operand) (ho : o.op = .load t x) (b c : Nat) (hx : a.eval x = .pointer (some ⟨b, c, none⟩)) (f : Nat → Int) (hr : ∀ w, C w → w.rangeAt b c (vf f).toList)
    (hk : wpQuiet P ops C R rest (a.put o.dst (.agg (vf f)))) : wpQuiet P ops C R (o :: rest) a := by
  refine wpQuiet_val hg (fun w hw => ?_) hk
  unfold execOp
  simp only [ho, hx, Sem.run_bind, V.midAt (hr w hw), Result.andThen_ok]
  rfl
theorem wpList_vmid (V : Vec P t e) (hg : o.guard = none) (x : Operand) (ho : o.op = .load t x) (b c : Nat) (hx : a.eval x = .pointer (some ⟨b, c, none⟩)) (f : Nat → Int) (hr : w.rangeAt b c (vf f).toList)
    (h : wpList P ops Q rest (a.put o.dst (.agg (vf f))) w) : wpList P ops Q (o :: rest) a w := by
  refine wpList_load_mid hg t x ho b c hx (vf f).toList _ hr V.array rfl (by rw [vl_length]; exact V.whole) ?_
  simpa using h
theorem wpList_vmidG (V : Vec P t e) (hw : Region.wanted o (yielded ops a.tmps) = true) (x : Operand) (ho : o.op = .load t x) (b c : Nat) (hx : a.eval x = .pointer (some ⟨b, c, none⟩)) (f : Nat → Int) (hr : w.rangeAt b c (vf f).toList)
    (h : wpList P ops Q rest (a.put o.dst (.agg (vf f))) w) : wpList P ops Q (o :: rest) a w := by
  refine BigFrame.wpList_want hw fun K hK => ?_
  refine wp_load_mid t x ho b c hx (vf f).toList _ hr V.array rfl (by rw [vl_length]; exact V.whole) ?_
  simpa using hK _ _ h
theorem wpList_vput (V : Vec P t e) (hg : o.guard = none) (x y : Operand) (ho : o.op = .store t x y) (b c : Nat) (f : Nat → Int) (hx : a.eval x = .pointer (some ⟨b, c, none⟩)) (hy : a.eval y = .agg (vf f)) (ht : w.there b c 64)
    (h : wpList P ops Q rest (a.put o.dst undef) (w.setCells b c (vf f).toList)) : wpList P ops Q (o :: rest) a w :=
  wpList_store_mid hg t x y ho b c (vf f) hx hy (by rw [vf_size]; exact ht) (by rw [vf_size]; exact V.whole) (vf_one f) h

theorem made_rows (z : Value) (hz : z.cells = vf fun _ => 0) (n k : Nat) (hk : k < n) : (madeCells z.cells n)[k]? = some (.int .i64 0) := by
  unfold madeCells
  rw [hz, vf_size]
  have hm : k % 64 < 64 := Nat.mod_lt _ (by omega)
  simp only [Array.getElem?_map, Array.getElem?_range, hk, if_true, Option.map_some]
  congr 1
  rw [getElem!_pos (vf fun _ => 0) (k % 64) (by rw [vf_size]; exact hm)]
  have := vf_get (fun _ => 0) (k % 64) hm
  rw [Array.getElem?_eq_getElem (by rw [vf_size]; exact hm)] at this
  exact Option.some.inj this
/-- 'make([]Vector, n)' -/
theorem make_rows (hsl : P.underlying sl = some (.slice t)) {z : Value} (hz : z.cells = vf fun _ => 0) (hi : (P.info? t).map (fun i => (i.zero, i.size, i.bytes)) = some (some z, 64, 512)) (n : Nat) (hn : n ≤ 64) (w : World) :
    (Instr.makeSlice sl (.int .i64 n) (.int .i64 n)).run P w = .ok (.slice (some ⟨w.heap.size, 0, none⟩) n n) (w.alloc (.cells (madeCells z.cells (n * 64)) t)) ∧ Rws (w.alloc (.cells (madeCells z.cells (n * 64)) t)) w.heap.size n (fun _ _ => 0) := by
  obtain ⟨i0, hi0, hz0, hz1, hz2⟩ := info_parts hi
  have h := run_make (P := P) w sl t i0 z hsl hi0 hz0 .i64 .i64 (n : Int) (n : Int) (by omega) (by omega) (by rw [hz2]; omega) (by omega)
  rw [hz1] at h
  simp only [Int.toNat_natCast] at h
  refine ⟨h, fun i hi j v hv => ?_, fun i hi j hj => ?_⟩
  · have hj : j < 64 := by have := (List.getElem?_eq_some_iff.1 hv).1; rw [vl_length] at this; exact this
    rw [vl_get _ j hj] at hv
    obtain rfl := Option.some.inj hv
    rw [cell_of_row _ w.heap.size _ _ _ _ (heap_alloc_new w _), made_rows z hz _ _ (by omega)]
  · refine ⟨?_, frozen_of_row _ _ _ _ _ (heap_alloc_new w _)⟩
    rw [cell_of_row _ w.heap.size _ _ _ _ (heap_alloc_new w _), made_rows z hz _ _ (by omega)]; rfl
end
end Go.Proofs.YtijmijokgenflaaGreatDoor
/- Things of some cells by value, as a walk meets them: read from a place, a variable made, written whole. No number of a program stands here. -/
namespace Go.Proofs.YtijmijokgenflaaGreatDoor
open Go Go.RowKit
set_option linter.unusedVariables false

section
variable {P : Program} {t : TypeId} {ops : Array Oper} {rest : List Oper} {o : Oper} {a : Act} {w : World} {Q : Exit → Act → World → Prop}
theorem wpList_gload (hg : o.guard = none) (x : Operand) (ho : o.op = .load t x) (b c : Nat) (hx : a.eval x = .pointer (some ⟨b, c, none⟩)) (cs : List Value) (hr : w.rangeAt b c cs) (d : TypeDesc) (hu : P.underlying t = some d) (hd : d.isRow = true) (hi : (P.info? t).map (·.size) = some cs.length)
    (h : wpList P ops Q rest (a.put o.dst (.agg cs.toArray)) w) : wpList P ops Q (o :: rest) a w :=
  wpList_load_mid hg t x ho b c hx cs d hr hu hd hi h
theorem wpList_galloc (z : Value) (hz : ∀ w, (zeroValue t).run P w = .ok z w) (hg : o.guard = none) (ho : o.op = .alloc t)
    (h : ∀ g w', w.heap.size ≤ g → w'.heap[g]? = some (.cells z.cells t (0, 0)) → Below w.heap.size w w' → wpList P ops Q rest (a.put o.dst (.pointer (some ⟨g, 0, none⟩))) w') : wpList P ops Q (o :: rest) a w := by
  refine Great.wpList_runTo hg o.dst rfl (.pointer (some ⟨w.heap.size, 0, none⟩)) (w.alloc (.cells z.cells t)) ?_ (h _ _ (Nat.le_refl _) (heap_alloc_new w _) (below_alloc w _))
  unfold execOp
  simp only [ho, Instr.alloc, Sem.run_bind, hz, Result.andThen_ok]
  rfl
theorem wpList_gbox (hg : o.guard = none) (x : Operand) (ho : o.op = .box t x) (cs : Array Value) (hx : a.eval x = .agg cs)
    (h : ∀ g w', w.heap.size ≤ g → w'.heap[g]? = some (.cells cs t (0, 0)) → Below w.heap.size w w' → wpList P ops Q rest (a.put o.dst (.pointer (some ⟨g, 0, none⟩))) w') : wpList P ops Q (o :: rest) a w := by
  refine Great.wpList_runTo hg o.dst rfl (.pointer (some ⟨w.heap.size, 0, none⟩)) (w.alloc (.cells cs t)) ?_ (h _ _ (Nat.le_refl _) (heap_alloc_new w _) (below_alloc w _))
  unfold execOp
  simp only [ho, hx]
  rfl
theorem grown_setRow {g : Nat} {cs old : Array Value} {ty : TypeId} {m : Nat × Nat} (h : w.heap[g]? = some (.cells old ty m)) : w.grownBy (w.setRow g cs) (some g) ∧ (w.setRow g cs).heap[g]? = some (.cells cs ty m) := by
  refine ⟨⟨rfl, rfl, rfl, by simp [World.setRow], fun i hi hne => ?_⟩, ?_⟩
  · show (w.heap.modify g _)[i]? = _
    rw [Array.getElem?_modify, if_neg (fun e => hne (by rw [e]))]
  · show (w.heap.modify g _)[g]? = _
    rw [Array.getElem?_modify, if_pos rfl, h]
    rfl
theorem wpList_gstore (hg : o.guard = none) (x y : Operand) (ho : o.op = .store t x y) (g : Nat) (hx : a.eval x = .pointer (some ⟨g, 0, none⟩)) (cs : Array Value) (hy : a.eval y = .agg cs) (ty : TypeId) (old : Array Value) (hr : w.heap[g]? = some (.cells old ty (0, 0)))
    (hi : (P.info? t).map (·.size) = some cs.size) (hold : old.size = cs.size) (h1 : ∀ v ∈ cs.toList, v.oneCell' = true)
    (h : ∀ w', w'.heap[g]? = some (.cells cs ty (0, 0)) → w.grownBy w' (some g) → wpList P ops Q rest (a.put o.dst undef) w') : wpList P ops Q (o :: rest) a w :=
  wpList_store_row hg t x y ho g cs hx hy ty old hr hi hold (Array.all_eq_true_iff_forall_mem.2 (fun v hv => h1 v (by simpa using hv)))
    (h _ (grown_setRow hr).2 (grown_setRow hr).1)
theorem wpList_gloadG (hw : Region.wanted o (yielded ops a.tmps) = true) (x : Operand) (ho : o.op = .load t x) (b c : Nat) (hx : a.eval x = .pointer (some ⟨b, c, none⟩)) (cs : List Value) (hr : w.rangeAt b c cs) (d : TypeDesc) (hu : P.underlying t = some d) (hd : d.isRow = true) (hi : (P.info? t).map (·.size) = some cs.length)
    (h : wpList P ops Q rest (a.put o.dst (.agg cs.toArray)) w) : wpList P ops Q (o :: rest) a w := by
  refine BigFrame.wpList_want hw fun K hK => ?_
  exact wp_load_mid t x ho b c hx cs d hr hu hd hi (hK _ _ h)
theorem range_of_block {g : Nat} {cs : Array Value} {ty : TypeId} {m : Nat × Nat} (h : w.heap[g]? = some (.cells cs ty m)) : w.rangeAt g 0 cs.toList := fun j v hv => by
  rw [cell_of_row w g (0 + j) _ _ _ h, Nat.zero_add]; simpa using hv
end
end Go.Proofs.YtijmijokgenflaaGreatDoor
