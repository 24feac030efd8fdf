/- The statement AuditLooks, proved for every input that its row reads: part 11 of 54. -/
import Derived.Test.YtkpldjiloinaoaaDoorPackAuditLooks9
import Derived.Test.YtkpldjiloinaoaaDoorPackAuditLooks7
import Derived.Deep.Upon
import Derived.Lib.Builder
import Derived.Test.YtkpldjiloinaoaaDoorPackAuditLooks10
/- A past by value: its events' slice, and its floor. -/
namespace Go.Proofs.YtkpldjiloinaoaaDoor
open Go Go.RowKit
set_option linter.unusedVariables false

/-! Some cells of a block written at once -/
def setL (cs : Array Value) : Nat → List Value → Array Value
  | _, [] => cs
  | o, v :: r => setL (cs.setIfInBounds o v) (o + 1) r
theorem setL_size : ∀ (vs : List Value) (cs : Array Value) (o : Nat), (setL cs o vs).size = cs.size
  | [], _, _ => rfl
  | v :: r, cs, o => by rw [setL, setL_size r]; simp
theorem setL_get : ∀ (vs : List Value) (cs : Array Value) (o : Nat) (hle : o + vs.length ≤ cs.size) (i : Nat), (setL cs o vs)[i]? = if o ≤ i ∧ i < o + vs.length then vs[i - o]? else cs[i]?
  | [], cs, o, _, i => by
    have : ¬ (o ≤ i ∧ i < o + ([] : List Value).length) := by simp
    rw [if_neg this]; rfl
  | v :: r, cs, o, hle, i => by
    rw [List.length_cons] at hle ⊢
    rw [setL, setL_get r _ _ (by simp; omega)]
    by_cases h1 : o + 1 ≤ i ∧ i < o + 1 + r.length
    · rw [if_pos h1, if_pos (by omega), show i - o = (i - (o + 1)) + 1 from by omega, List.getElem?_cons_succ]
    · rw [if_neg h1]
      by_cases h2 : o = i
      · subst h2
        rw [if_pos (by omega), Array.getElem?_setIfInBounds, if_pos rfl, if_pos (by omega), Nat.sub_self]; rfl
      · rw [if_neg (by omega), Array.getElem?_setIfInBounds, if_neg h2]
theorem heap_setCells {g : Nat} {ty : TypeId} {m : Nat × Nat} : ∀ (vs : List Value) (w : World) (cs : Array Value) (o : Nat), w.heap[g]? = some (.cells cs ty m) → (w.setCells g o vs).heap[g]? = some (.cells (setL cs o vs) ty m)
  | [], _, _, _, h => h
  | v :: r, w, cs, o, h => by
    rw [World.setCells, setL]
    exact heap_setCells r _ _ _ (block_setCell h v)
theorem grown_setCells (g : Nat) : ∀ (vs : List Value) (w : World) (o : Nat), w.grownBy (w.setCells g o vs) (some g)
  | [], w, _ => ⟨rfl, rfl, rfl, Nat.le_refl _, fun _ _ _ => rfl⟩
  | v :: r, w, o => by
    rw [World.setCells]
    have h1 := grown_cell w g o v
    have h2 := grown_setCells g r (w.setCell ⟨g, o, none⟩ v) (o + 1)
    exact ⟨h2.os.trans h1.os, h2.tape.trans h1.tape, h2.output.trans h1.output, Nat.le_trans h1.size h2.size, fun i hi hne => (h2.block i (Nat.lt_of_lt_of_le hi h1.size) hne).trans (h1.block i hi hne)⟩

def pcs (v : Value) (f : Nat → Int) : Array Value := (v :: (vf f).toList).toArray
theorem pcs_size (v : Value) (f : Nat → Int) : (pcs v f).size = 65 := by simp [pcs, vf_size]
theorem pcs_zero (v : Value) (f : Nat → Int) : (pcs v f)[0]? = some v := rfl
theorem pcs_succ (v : Value) (f : Nat → Int) (k : Nat) : (pcs v f)[k + 1]? = (vf f)[k]? := by simp [pcs]
theorem pcs_congr (v : Value) {f g : Nat → Int} (h : ∀ i, i < 64 → f i = g i) : pcs v f = pcs v g := by rw [pcs, vf_congr h, pcs]
theorem pcs_oneV (f : Nat → Int) {v : Value} (h : ∃ p n c, v = .slice p n c) : ∀ u ∈ (pcs v f).toList, u.oneCell' = true := by
  intro u hu
  simp only [pcs, List.mem_cons] at hu
  rcases hu with rfl | hu
  · obtain ⟨p, n, c, rfl⟩ := h; rfl
  · exact (Array.all_eq_true_iff_forall_mem.1 (vf_one f)) u (by simpa using hu)
theorem sizeP (v : Value) (f : Nat → Int) : (Tryd.prog.info? 29).map (·.size) = some (pcs v f).size := by rw [pcs_size]; kernel_rfl
theorem sizePl (v : Value) (f : Nat → Int) : (Tryd.prog.info? 29).map (·.size) = some (pcs v f).toList.length := by rw [Array.length_toList, pcs_size]; kernel_rfl
theorem sizeVc (f : Nat → Int) : (Tryd.prog.info? 23).map (·.size) = some (vf f).size := by rw [vf_size]; kernel_rfl
theorem sizeVcl (f : Nat → Int) : (Tryd.prog.info? 23).map (·.size) = some (vf f).toList.length := by rw [Array.length_toList, vf_size]; kernel_rfl
theorem builtP (f : Nat → Int) (w : World) : (Instr.build 29 #[(1, .agg (vf f))]).run Tryd.prog w = .ok (.agg (pcs (.slice none 0 0) f)) w := run_build w _ _ _ (by kernel_rfl)
theorem zeroP (w : World) : (zeroValue 29).run Tryd.prog w = .ok (.agg (pcs (.slice none 0 0) (fun _ => 0))) w := by kernel_rfl
/-- a past in a block of its own -/
def Px (w : World) (g : Nat) (v : Value) (f : Nat → Int) : Prop := w.heap[g]? = some (.cells (pcs v f) 29 (0, 0))
theorem Px.lt {w : World} {g : Nat} {v : Value} {f : Nat → Int} (h : Px w g v f) : g < w.heap.size := (Array.getElem?_eq_some_iff.1 h).1
theorem Px.later {w w' : World} {g : Nat} {v : Value} {f : Nat → Int} (h : Px w g v f) (hb : Below w.heap.size w w') : Px w' g v f := (hb.block g h.lt).trans h
theorem Px.kept {w w' : World} {g : Nat} {v : Value} {f : Nat → Int} (h : Px w g v f) {row : Option Nat} (hg : w.grownBy w' row) (hne : some g ≠ row) : Px w' g v f := (hg.block g h.lt hne).trans h
theorem Px.slot {w : World} {g : Nat} {v : Value} {f : Nat → Int} (h : Px w g v f) : w.cell? ⟨g, 0, none⟩ = some v := (cell_of_row w g 0 _ _ _ h).trans (pcs_zero v f)
theorem Px.cell {w : World} {g : Nat} {v : Value} {f : Nat → Int} (h : Px w g v f) (k : Nat) (hk : k < 64) : w.cell? ⟨g, k + 1, none⟩ = some (.int .i64 (f k)) :=
  (cell_of_row w g (k + 1) _ _ _ h).trans ((pcs_succ v f k).trans (vf_get f k hk))
theorem Px.free {w : World} {g : Nat} {v : Value} {f : Nat → Int} (h : Px w g v f) (k : Nat) : w.frozen? ⟨g, k, none⟩ = false := frozen_of_row _ _ _ _ _ h
theorem Px.whole {w : World} {g : Nat} {v : Value} {f : Nat → Int} (h : Px w g v f) : w.rangeAt g 0 (pcs v f).toList := range_of_block h
theorem Px.floor {w : World} {g : Nat} {v : Value} {f : Nat → Int} (h : Px w g v f) : w.rangeAt g 1 (vf f).toList := fun j u hu => by
  rw [cell_of_row w g (1 + j) _ _ _ h, Nat.add_comm 1 j, pcs_succ]
  simpa using hu
theorem Px.setSlot {w : World} {g : Nat} {v : Value} {f : Nat → Int} (h : Px w g v f) (u : Value) : Px (w.setCell ⟨g, 0, none⟩ u) g u f := by
  unfold Px
  rw [block_setCell h]
  have e : (pcs v f).setIfInBounds 0 u = pcs u f := by
    apply Array.ext_getElem?
    intro i
    rw [Array.getElem?_setIfInBounds, pcs_size]
    cases i with
    | zero => simp [pcs_zero]
    | succ i => rw [if_neg (by omega), pcs_succ, pcs_succ]
  rw [e]
theorem Px.there {w : World} {g : Nat} {v : Value} {f : Nat → Int} (h : Px w g v f) (f' : Nat → Int) : w.there g 1 (vf f').size := fun j hj => by
  rw [vf_size] at hj
  rw [Nat.add_comm 1 j, h.cell j hj]
  exact ⟨rfl, h.free _⟩
theorem Px.setFloor {w : World} {g : Nat} {v : Value} {f : Nat → Int} (h : Px w g v f) (f' : Nat → Int) : Px (w.setCells g 1 (vf f').toList) g v f' := by
  unfold Px
  rw [heap_setCells _ _ _ _ h]
  have e : setL (pcs v f) 1 (vf f').toList = pcs v f' := by
    apply Array.ext_getElem?
    intro i
    rw [setL_get _ _ _ (by rw [Array.length_toList, vf_size, pcs_size]; omega)]
    cases i with
    | zero =>
      rw [if_neg (by omega), pcs_zero, pcs_zero]
    | succ i =>
      rw [pcs_succ, pcs_succ]
      split
      · simp
      · rename_i h1
        rw [Array.length_toList, vf_size] at h1
        rw [vf_none f i (by omega), vf_none f' i (by omega)]
  rw [e]
/-- a past that is handed back -/
theorem past_ret {fn : Func} {p : Tmp} (h : fn.results = #[.cell p 29]) {a : Act} {w : World} {g : Nat} {v : Value} {f : Nat → Int} {ty : TypeId} {Post : Ending → World → Prop}
    (hp : a.tmps.getD p undef = .pointer (some ⟨g, 0, none⟩)) (hd : a.defers = []) (hr : w.heap[g]? = some (.cells (pcs v f) ty (0, 0))) (hq : Post (.returned (.agg (pcs v f))) w) : bodyPost Tryd.prog fn Post .ret a w :=
  bodyPost_ret (v := .agg (pcs v f)) (results_cell_row h a.tmps w g ty (pcs v f) (0, 0) _ hp hr Tryd.underlying29 rfl (sizeP v f)) hd hq
end Go.Proofs.YtkpldjiloinaoaaDoor
/- past: Drops, and the copy of events. -/
namespace Go.Proofs.YtkpldjiloinaoaaDoor
open Go Go.RowKit
set_option linter.unusedVariables false

def evs (L : List EvP) : List Ev := L.map (·.e)
theorem drops_take (L : List EvP) (j : Nat) (h : j < L.length) : dropsOf (evs (L.take (j + 1))) = dropsOf (evs (L.take j)) + (if L[j].e.kind = 2 then 1 else 0) := by
  rw [List.take_add_one, List.getElem?_eq_getElem h, evs, List.map_append]
  rw [drops_append]
  simp [dropsOf, evs, Ev.isDrop, List.countP_cons]
/-- two rows of things of other types lie apart -/
theorem own_apart {w : World} {B B' : Nat} {e e' : TypeId} {k k' n n' : Nat} {v v' : Value} {xs xs' : List Value} (h : w.ownsRow B e k v n xs) (h' : w.ownsRow B' e' k' v' n' xs') (hne : e ≠ e') : v.ownBlock = none ∨ v.ownBlock ≠ v'.ownBlock := by
  rcases h.2 with ⟨rfl, _⟩ | ⟨g, cap, cur, rfl, _, hg, _⟩
  · exact .inl rfl
  · right
    rcases h'.2 with ⟨rfl, _⟩ | ⟨g', cap', cur', rfl, _, hg', _⟩
    · simp [Value.ownBlock]
    · intro e1
      have e2 : g = g' := by simpa [Value.ownBlock] using e1
      subst e2
      rw [hg] at hg'
      injection hg' with hg'
      injection hg' with _ e3 _
      exact hne e3
/-- events of one's own: their row, and the rows of the dots of each -/
structure OwnE (w : World) (B : Nat) (v : Value) (L : List EvP) : Prop where
  row : w.ownsRow B 48 8 v L.length (ecl L)
  gone : ∀ x ∈ L, w.ownsRow B 37 2 (.slice x.p x.e.gone.length x.c) x.e.gone.length (dcl x.e.gone)
theorem own_slice {w : World} {B : Nat} {e : TypeId} {k n : Nat} {v : Value} {xs : List Value} (h : w.ownsRow B e k v n xs) : ∃ p c, v = .slice p n c := by
  rcases h.2 with ⟨rfl, rfl⟩ | ⟨g, cap, cur, rfl, _⟩
  · exact ⟨none, 0, rfl⟩
  · exact ⟨_, _, rfl⟩
theorem own_later {w w' : World} {B : Nat} {e : TypeId} {k n : Nat} {v : Value} {xs : List Value} (h : w.ownsRow B e k v n xs) (hb : Below w.heap.size w w') : w'.ownsRow B e k v n xs := by
  refine ⟨h.1, ?_⟩
  rcases h.2 with q | ⟨g, cap, cur, q1, q2, q3, q4⟩
  · exact .inl q
  · exact .inr ⟨g, cap, cur, q1, q2, (hb.block g (Array.getElem?_eq_some_iff.1 q3).1).trans q3, q4⟩
theorem own_base {w : World} {B B' : Nat} {e : TypeId} {k n : Nat} {v : Value} {xs : List Value} (h : w.ownsRow B e k v n xs) (hB : B' ≤ B) : w.ownsRow B' e k v n xs := by
  refine ⟨h.1, ?_⟩
  rcases h.2 with q | ⟨g, cap, cur, q1, q2, q3⟩
  · exact .inl q
  · exact .inr ⟨g, cap, cur, q1, Nat.le_trans hB q2, q3⟩
theorem OwnE.later {w w' : World} {B : Nat} {v : Value} {L : List EvP} (h : OwnE w B v L) (hb : Below w.heap.size w w') : OwnE w' B v L := ⟨own_later h.row hb, fun x hx => own_later (h.gone x hx) hb⟩
theorem own_okE {w : World} {B : Nat} {x : EvP} (h : w.ownsRow B 37 2 (.slice x.p x.e.gone.length x.c) x.e.gone.length (dcl x.e.gone)) : x.Ok w := by
  obtain ⟨_, p, cap, e1, _, h1, h2, _⟩ := own_drow h
  injection e1 with e1 _ _
  subst e1
  exact ⟨h1, fun hp => (h2 hp).1⟩
theorem OwnE.at {w : World} {B : Nat} {v : Value} {L : List EvP} (h : OwnE w B v L) : ∃ p c, v = .slice p L.length c ∧ L.length ≤ c ∧ EvsAt w p L ∧ (∀ a, p = some a → ∃ b o, a = ⟨b, o, Option.none⟩) := by
  have hr := h.row
  rcases hr.2 with ⟨rfl, h0⟩ | ⟨g, cap, cur, rfl, hB, hg, hc, hm, hs, ht⟩
  · have : L = [] := List.eq_nil_of_length_eq_zero h0
    subst this
    exact ⟨none, 0, rfl, Nat.le_refl _, ⟨fun hn => absurd rfl hn, fun x hx => by simp at hx, fun _ => rfl⟩, fun a ha => by cases ha⟩
  · refine ⟨some ⟨g, 0, none⟩, cap, rfl, hc, ⟨fun _ => ⟨g, 0, rfl, fun j u hu => ?_⟩, fun x hx => own_okE (h.gone x hx), fun e => by cases e⟩, fun a ha => by obtain rfl := Option.some.inj ha; exact ⟨g, 0, rfl⟩⟩
    have hj : j < L.length * 8 := by rw [← ecl_length]; exact (List.getElem?_eq_some_iff.1 hu).1
    have := hr.cellAt j hj
    rw [Nat.zero_add, this]; exact hu

def CopiedR (w : World) (L : List EvP) (e : Ending) (w' : World) : Prop := ∃ v L', e = .returned v ∧ OwnE w' w.heap.size v L' ∧ evs L' = evs L ∧ Below w.heap.size w w'
end Go.Proofs.YtkpldjiloinaoaaDoor
/- past.without: the events that do not go, and the floor. -/
namespace Go.Proofs.YtkpldjiloinaoaaDoor
open Go Go.RowKit
set_option linter.unusedVariables false

section
variable {P : Program} {t : TypeId} {ops : Array Oper} {rest : List Oper} {o : Oper} {a : Act} {w : World} {Q : Exit → Act → World → Prop}
theorem wpList_pbuild (hw : Region.wanted o (yielded ops a.tmps) = true) (parts : Array (Nat × Operand)) (ho : o.op = .build t parts) (cs : Array Value) (hb : (Instr.build t (parts.map fun (i, x) => (i, a.eval x))).run P w = .ok (.agg cs) w)
    (h : wpList P ops Q rest (a.put o.dst (.agg cs)) w) : wpList P ops Q (o :: rest) a w := by
  refine BigFrame.wpList_want hw fun K hK => ?_
  unfold Oper.wp execOp
  simp only [ho, Sem.run_bind, hb, Result.andThen_ok]
  rw [show (pure (Next.value (Value.agg cs)) : Sem Next).run P w = .ok (.value (.agg cs)) w from rfl]
  exact hK _ _ h
end
section
variable {ops : Array Oper} {rest : List Oper} {o : Oper} {a : Act} {Q : Exit → Act → World → Prop}
/-- the floor of a past written whole -/
theorem wpList_floor {w : World} (hg : o.guard = none) (x y : Operand) (ho : o.op = .store 23 x y) (g : Nat) (hx : a.eval x = .pointer (some ⟨g, 1, none⟩)) (f' : Nat → Int) (hy : a.eval y = .agg (vf f')) (v : Value) (f : Nat → Int) (hp : Px w g v f)
    (h : ∀ w', Px w' g v f' → w.grownBy w' (some g) → wpList Tryd.prog ops Q rest (a.put o.dst undef) w') : wpList Tryd.prog ops Q (o :: rest) a w :=
  wpList_store_mid hg 23 x y ho g 1 (vf f') hx hy (hp.there _) (sizeVc _) (vf_one _) (h _ (hp.setFloor f') (grown_setCells g _ _ _))
/-- an event put behind events of one's own -/
theorem wpList_ev (w : World) (hg : o.guard = none) (s x : Operand) (ho : o.op = .call { callee := .builtin .append, args := #[s, x], argTypes := #[27, 27] })
    (B n : Nat) (xs : List Value) (v : Value) (hs : a.eval s = v) (hown : w.ownsRow B 48 8 v n xs) (X : EvP) (hx : a.eval x = .slice (some ⟨w.heap.size, 0, none⟩) 1 1)
    (hlen : n + 1 ≤ 1000000) (hB : B ≤ w.heap.size)
    (h : ∀ v' w', w'.ownsRow B 48 8 v' (n + 1) (xs ++ X.cells) → w.grownBy w' v.ownBlock → wpList Tryd.prog ops Q rest (a.put o.dst v') w') : wpList Tryd.prog ops Q (o :: rest) a (w.alloc (.cells X.cells.toArray 48)) := by
  obtain ⟨i0, hi, hz0, hz1, hz2⟩ := info_parts infoEv
  refine wpList_append_own _ hg s x 27 ho B 48 i0 _ 8 96 Tryd.underlying27 hi hz0 hz1 hz2 rfl (by decide) v n xs hs (hown.alloc _) ⟨w.heap.size, 0, none⟩ 1 1 X.cells hx rfl ?_ X.cells_one (by unfold maxLen; omega) (by omega) (by simp; omega) ?_
  · intro j u hu
    rw [Addr.add_lit, Nat.zero_add, cell_of_row _ w.heap.size j _ _ _ (heap_alloc_new w (.cells X.cells.toArray 48))]
    simpa using hu
  · intro v' w' g1 g2 _
    refine h v' w' g1 ?_
    have g0 := World.grownBy_alloc w (.cells X.cells.toArray 48) v.ownBlock
    exact ⟨g2.os.trans g0.os, g2.tape.trans g0.tape, g2.output.trans g0.output, Nat.le_trans g0.size g2.size, fun i hi hne => (g2.block i (Nat.lt_of_lt_of_le hi g0.size) hne).trans (g0.block i hi hne)⟩
end

/-- nothing that was there has turned but two blocks -/
structure Two (A G : Nat) (W w : World) : Prop where
  os : w.os = W.os
  tape : w.tape = W.tape
  output : w.output = W.output
  size : W.heap.size ≤ w.heap.size
  block : ∀ k, k < W.heap.size → k ≠ A → k ≠ G → w.heap[k]? = W.heap[k]?
theorem Two.refl (A G : Nat) (W : World) : Two A G W W := ⟨rfl, rfl, rfl, Nat.le_refl _, fun _ _ _ _ => rfl⟩
theorem Two.step {A G : Nat} {W w w' : World} (h : Two A G W w) {row : Option Nat} (hg : w.grownBy w' row) (hr : ∀ k, row = some k → k = A ∨ k = G ∨ W.heap.size ≤ k) : Two A G W w' :=
  ⟨hg.os.trans h.os, hg.tape.trans h.tape, hg.output.trans h.output, Nat.le_trans h.size hg.size, fun k hk h1 h2 => (hg.block k (Nat.lt_of_lt_of_le hk h.size) (fun e => by
    rcases hr k e.symm with e | e | e
    · exact h1 e
    · exact h2 e
    · omega)).trans (h.block k hk h1 h2)⟩
theorem Two.below {A G : Nat} {W w w' : World} (h : Two A G W w) (hb : Below w.heap.size w w') : Two A G W w' :=
  ⟨hb.os.trans h.os, hb.tape.trans h.tape, hb.output.trans h.output, Nat.le_trans h.size hb.size, fun k hk h1 h2 => (hb.block k (Nat.lt_of_lt_of_le hk h.size)).trans (h.block k hk h1 h2)⟩
theorem own_blk {w w' : World} {B : Nat} {e : TypeId} {k n : Nat} {v : Value} {xs : List Value} (h : w.ownsRow B e k v n xs) (hb : ∀ b, v.ownBlock = some b → w'.heap[b]? = w.heap[b]?) : w'.ownsRow B e k v n xs := by
  refine ⟨h.1, ?_⟩
  rcases h.2 with q | ⟨g, cap, cur, q1, q2, q3, q4⟩
  · exact .inl q
  · refine .inr ⟨g, cap, cur, q1, q2, ?_, q4⟩
    rw [hb g (by rw [q1]; rfl)]; exact q3
theorem own_grown {w w' : World} {A B : Nat} {e : TypeId} {k n : Nat} {v : Value} {xs : List Value} (h : w.ownsRow B e k v n xs) (hg : w.grownBy w' (some A)) (hA : A < B) : w'.ownsRow B e k v n xs :=
  own_blk h fun b hb => by
    obtain ⟨h1, h2⟩ := h.lt b hb
    exact hg.block b h2 (by simp; omega)
/-- a row of things of another type than block G, of one's own above A, stays -/
theorem Two.own {A G B : Nat} {W w : World} (h : Two A G W w) {e : TypeId} {k n : Nat} {v : Value} {xs : List Value} (hv : W.ownsRow B e k v n xs) (hA : A < B) {cs : Array Value} {T : TypeId} {m : Nat × Nat} (hG : W.heap[G]? = some (.cells cs T m)) (hne : T ≠ e) : w.ownsRow B e k v n xs := by
  refine own_blk hv fun b hb => ?_
  obtain ⟨h1, h2⟩ := hv.lt b hb
  refine h.block b h2 (by omega) (fun e1 => ?_)
  subst e1
  rcases hv.2 with ⟨rfl, _⟩ | ⟨g, cap, cur, rfl, _, hg, _⟩
  · simp [Value.ownBlock] at hb
  · have : g = b := by simpa [Value.ownBlock] using hb
    subst this
    rw [hG] at hg
    injection hg with hg
    injection hg with _ e3 _
    exact hne e3

/-- a closure that tells of events, one by one, which go; what it knows lies in block A -/
structure Goes (F : FuncId) (caps : Array Value) {σ : Type} (goes : σ → Ev → Bool) (next : σ → Ev → σ) (A : Nat) (I : σ → World → Prop) : Prop where
  enter : ∀ args w, (callFunc F args).run Tryd.prog w = .ok (.enter F args) w
  tell : ∀ s (x : EvP) w, I s w → Calls Tryd.prog F (#[.agg x.cells.toArray] ++ caps) w fun e w' => e = .returned (.bool (goes s x.e)) ∧ I (next s x.e) w' ∧ w.grownBy w' (some A)
  keep : ∀ s w w' row, I s w → w.grownBy w' row → row ≠ some A → I s w'
  lt : ∀ s w, I s w → A < w.heap.size
def WithR {σ : Type} (goes : σ → Ev → Bool) (next : σ → Ev → σ) (A : Nat) (I : σ → World → Prop) (w : World) (s : σ) (f : Nat → Int) (l : List Ev) (e : Ending) (w' : World) : Prop :=
  ∃ v K, e = .returned (.agg (pcs v (wRun goes next s f l).2.2)) ∧ OwnE w' w.heap.size v K ∧ evs K = (wRun goes next s f l).2.1 ∧ I (wRun goes next s f l).1 w' ∧ w.grownBy w' (some A)
theorem evs_take_succ (L : List EvP) (j : Nat) (h : j < L.length) : evs (L.take (j + 1)) = evs (L.take j) ++ [L[j].e] := by
  rw [List.take_add_one, List.getElem?_eq_getElem h, evs, List.map_append]; rfl

end Go.Proofs.YtkpldjiloinaoaaDoor
