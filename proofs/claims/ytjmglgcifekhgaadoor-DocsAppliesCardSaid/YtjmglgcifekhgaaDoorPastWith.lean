/- past.without: the events that do not go, and the floor. -/
import Derived.Test.YtjmglgcifekhgaaDoorPastOps
import Derived.Test.YtjmglgcifekhgaaDoorRgMore
namespace Go.Proofs.YtjmglgcifekhgaaDoor
open Go Go.RowKit
set_option linter.unusedVariables false

section
variable {P : Program} {t : TypeId} {ops : Array Oper} {rest : List Oper} {o : Oper} {a : Act} {w : World} {Q : Exit → Act → World → Prop}
theorem wpList_pbuild (hw : Region.wanted o (yielded ops a.tmps) = true) (parts : Array (Nat × Operand)) (ho : o.op = .build t parts) (cs : Array Value) (hb : (Instr.build t (parts.map fun (i, x) => (i, a.eval x))).run P w = .ok (.agg cs) w)
    (h : wpList P ops Q rest (a.put o.dst (.agg cs)) w) : wpList P ops Q (o :: rest) a w := by
  refine BigFrame.wpList_want hw fun K hK => ?_
  unfold Oper.wp execOp
  simp only [ho, Sem.run_bind, hb, Result.andThen_ok]
  rw [show (pure (Next.value (Value.agg cs)) : Sem Next).run P w = .ok (.value (.agg cs)) w from rfl]
  exact hK _ _ h
end
section
variable {ops : Array Oper} {rest : List Oper} {o : Oper} {a : Act} {Q : Exit → Act → World → Prop}
/-- an event put behind events of one's own -/
theorem wpList_ev (w : World) (hg : o.guard = none) (s x : Operand) (ho : o.op = .call { callee := .builtin .append, args := #[s, x], argTypes := #[34, 34] })
    (B n : Nat) (xs : List Value) (v : Value) (hs : a.eval s = v) (hown : w.ownsRow B 31 8 v n xs) (X : EvP) (hx : a.eval x = .slice (some ⟨w.heap.size, 0, none⟩) 1 1)
    (hlen : n + 1 ≤ 1000000) (hB : B ≤ w.heap.size)
    (h : ∀ v' w', w'.ownsRow B 31 8 v' (n + 1) (xs ++ X.cells) → w.grownBy w' v.ownBlock → wpList Tryd.prog ops Q rest (a.put o.dst v') w') : wpList Tryd.prog ops Q (o :: rest) a (w.alloc (.cells X.cells.toArray 31)) := by
  obtain ⟨i0, hi, hz0, hz1, hz2⟩ := info_parts infoEv
  refine wpList_append_own _ hg s x 34 ho B 31 i0 _ 8 96 Tryd.underlying34 hi hz0 hz1 hz2 rfl (by decide) v n xs hs (hown.alloc _) ⟨w.heap.size, 0, none⟩ 1 1 X.cells hx rfl ?_ X.cells_one (by unfold maxLen; omega) (by omega) (by simp; omega) ?_
  · intro j u hu
    rw [Addr.add_lit, Nat.zero_add, cell_of_row _ w.heap.size j _ _ _ (heap_alloc_new w (.cells X.cells.toArray 31))]
    simpa using hu
  · intro v' w' g1 g2 _
    refine h v' w' g1 ?_
    have g0 := World.grownBy_alloc w (.cells X.cells.toArray 31) v.ownBlock
    exact ⟨g2.os.trans g0.os, g2.tape.trans g0.tape, g2.output.trans g0.output, Nat.le_trans g0.size g2.size, fun i hi hne => (g2.block i (Nat.lt_of_lt_of_le hi g0.size) hne).trans (g0.block i hi hne)⟩
end

/-- nothing that was there has turned but two blocks -/
structure Two (A G : Nat) (W w : World) : Prop where
  os : w.os = W.os
  tape : w.tape = W.tape
  output : w.output = W.output
  size : W.heap.size ≤ w.heap.size
  block : ∀ k, k < W.heap.size → k ≠ A → k ≠ G → w.heap[k]? = W.heap[k]?
theorem Two.refl (A G : Nat) (W : World) : Two A G W W := ⟨rfl, rfl, rfl, Nat.le_refl _, fun _ _ _ _ => rfl⟩
theorem Two.step {A G : Nat} {W w w' : World} (h : Two A G W w) {row : Option Nat} (hg : w.grownBy w' row) (hr : ∀ k, row = some k → k = A ∨ k = G ∨ W.heap.size ≤ k) : Two A G W w' :=
  ⟨hg.os.trans h.os, hg.tape.trans h.tape, hg.output.trans h.output, Nat.le_trans h.size hg.size, fun k hk h1 h2 => (hg.block k (Nat.lt_of_lt_of_le hk h.size) (fun e => by
    rcases hr k e.symm with e | e | e
    · exact h1 e
    · exact h2 e
    · omega)).trans (h.block k hk h1 h2)⟩
theorem Two.below {A G : Nat} {W w w' : World} (h : Two A G W w) (hb : Below w.heap.size w w') : Two A G W w' :=
  ⟨hb.os.trans h.os, hb.tape.trans h.tape, hb.output.trans h.output, Nat.le_trans h.size hb.size, fun k hk h1 h2 => (hb.block k (Nat.lt_of_lt_of_le hk h.size)).trans (h.block k hk h1 h2)⟩
theorem own_blk {w w' : World} {B : Nat} {e : TypeId} {k n : Nat} {v : Value} {xs : List Value} (h : w.ownsRow B e k v n xs) (hb : ∀ b, v.ownBlock = some b → w'.heap[b]? = w.heap[b]?) : w'.ownsRow B e k v n xs := by
  refine ⟨h.1, ?_⟩
  rcases h.2 with q | ⟨g, cap, cur, q1, q2, q3, q4⟩
  · exact .inl q
  · refine .inr ⟨g, cap, cur, q1, q2, ?_, q4⟩
    rw [hb g (by rw [q1]; rfl)]; exact q3
theorem own_grown {w w' : World} {A B : Nat} {e : TypeId} {k n : Nat} {v : Value} {xs : List Value} (h : w.ownsRow B e k v n xs) (hg : w.grownBy w' (some A)) (hA : A < B) : w'.ownsRow B e k v n xs :=
  own_blk h fun b hb => by
    obtain ⟨h1, h2⟩ := h.lt b hb
    exact hg.block b h2 (by simp; omega)
/-- a row of things of another type than block G, of one's own above A, stays -/
theorem Two.own {A G B : Nat} {W w : World} (h : Two A G W w) {e : TypeId} {k n : Nat} {v : Value} {xs : List Value} (hv : W.ownsRow B e k v n xs) (hA : A < B) {cs : Array Value} {T : TypeId} {m : Nat × Nat} (hG : W.heap[G]? = some (.cells cs T m)) (hne : T ≠ e) : w.ownsRow B e k v n xs := by
  refine own_blk hv fun b hb => ?_
  obtain ⟨h1, h2⟩ := hv.lt b hb
  refine h.block b h2 (by omega) (fun e1 => ?_)
  subst e1
  rcases hv.2 with ⟨rfl, _⟩ | ⟨g, cap, cur, rfl, _, hg, _⟩
  · simp [Value.ownBlock] at hb
  · have : g = b := by simpa [Value.ownBlock] using hb
    subst this
    rw [hG] at hg
    injection hg with hg
    injection hg with _ e3 _
    exact hne e3

/-- a closure that tells of events, one by one, which go; what it knows lies in block A -/
structure Goes (F : FuncId) (caps : Array Value) {σ : Type} (goes : σ → Ev → Bool) (next : σ → Ev → σ) (A : Nat) (I : σ → World → Prop) : Prop where
  enter : ∀ args w, (callFunc F args).run Tryd.prog w = .ok (.enter F args) w
  tell : ∀ s (x : EvP) w, I s w → Calls Tryd.prog F (#[.agg x.cells.toArray] ++ caps) w fun e w' => e = .returned (.bool (goes s x.e)) ∧ I (next s x.e) w' ∧ w.grownBy w' (some A)
  keep : ∀ s w w' row, I s w → w.grownBy w' row → row ≠ some A → I s w'
  lt : ∀ s w, I s w → A < w.heap.size
def WithR {σ : Type} (goes : σ → Ev → Bool) (next : σ → Ev → σ) (A : Nat) (I : σ → World → Prop) (w : World) (s : σ) (f : Nat → Int) (l : List Ev) (e : Ending) (w' : World) : Prop :=
  ∃ v K, e = .returned (.agg (pcs v (wRun goes next s f l).2.2)) ∧ OwnE w' w.heap.size v K ∧ evs K = (wRun goes next s f l).2.1 ∧ I (wRun goes next s f l).1 w' ∧ w.grownBy w' (some A)
theorem evs_take_succ (L : List EvP) (j : Nat) (h : j < L.length) : evs (L.take (j + 1)) = evs (L.take j) ++ [L[j].e] := by
  rw [List.take_add_one, List.getElem?_eq_getElem h, evs, List.map_append]; rfl

end Go.Proofs.YtjmglgcifekhgaaDoor
