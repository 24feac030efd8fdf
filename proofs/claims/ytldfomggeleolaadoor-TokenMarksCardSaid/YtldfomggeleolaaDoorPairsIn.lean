/- append of a thing of two cells, within a round: blocks of one such thing stay. No number of a program stands here. -/
import Derived.Test.YtldfomggeleolaaDoorPairs
import Derived.ArgAppend
import Derived.RangeFuncBox
namespace Go.Proofs.YtldfomggeleolaaDoor
open Go Go.RowKit
set_option linter.unusedVariables false

section
variable {P : Program} {t e : TypeId} {b : Nat} {ops : Array Oper} {rest : List Oper} {o : Oper} {a : Act} {Q : Exit → Act → World → Prop}
theorem run_pairK (U : P2 P t e b) (w : World) (ty : TypeId) (B n : Nat) (l : List (Value × Value)) (v : Value) (hown : w.ownsRow B e 2 v n (pc l)) (X Y : Value) (hX : X.oneCell' = true) (hY : Y.oneCell' = true)
    (hv : n = 0 → v = .slice none 0 0) (hlen : (n + 1) * b ≤ 140737488355328) (hn : n + 1 ≤ maxLen) (hB : B ≤ w.heap.size) :
    ∃ v' w', (Builtin.append_ #[t, t] ty #[v, .slice (some ⟨w.heap.size, 0, none⟩) 1 1]).run P (w.alloc (.cells #[X, Y] e)) = .ok v' w' ∧ w'.ownsRow B e 2 v' (n + 1) (pc (l ++ [(X, Y)])) ∧ (w.alloc (.cells #[X, Y] e)).grownBy w' v.ownBlock ∧
      ∀ (k : Nat) (cs : Array Value) (m : Nat × Nat), w.heap[k]? = some (Obj.cells cs e m) → cs.size = 2 → w'.heap[k]? = some (Obj.cells cs e m) := by
  obtain ⟨i0, z, hi, hz0, hz1, hz2, hz3⟩ := U.parts
  have hnone : ∀ (w' : World), (w.alloc (.cells #[X, Y] e)).grownBy w' none → ∀ (k : Nat) (cs : Array Value) (m : Nat × Nat), w.heap[k]? = some (Obj.cells cs e m) → cs.size = 2 → w'.heap[k]? = some (Obj.cells cs e m) := fun w' hg k cs m hk _ => by
    have hlt := (Array.getElem?_eq_some_iff.1 hk).1
    exact (hg.block k (by simp; omega) (by simp)).trans ((Below.heap_alloc w _ k hlt).trans hk)
  have hlx : (pc [(X, Y)]).length = 1 * 2 := rfl
  by_cases h0 : n = 0
  · obtain rfl := hv h0
    obtain ⟨v', w', hrun, r1, r2, _⟩ := run_append_own (P := P) (w.alloc (.cells #[X, Y] e)) B t ty e i0 z 2 b U.slice hi hz0 hz1 hz2 hz3 (by decide) _ n (pc l) (hown.alloc _) ⟨w.heap.size, 0, none⟩ 1 1 (pc [(X, Y)]) hlx (pair_cell w X Y e) (pc_one _ (by simp [hX, hY])) hn hlen (by simp; omega)
    exact ⟨v', w', hrun, by rw [pc_append]; exact r1, r2, hnone w' r2⟩
  · have hown' := hown
    rcases hown.2 with ⟨_, h⟩ | ⟨g, cap, cur, rfl, hb, hg, hnc, hcm, hcs, htk⟩
    · exact absurd h h0
    · by_cases hfull : cap < n + 1
      · have hlc : (pc l).length = n * 2 := hown.1
        obtain ⟨v', w', hrun, r1, r2⟩ := run_append_arg_grows (P := P) (w.alloc (.cells #[X, Y] e)) t ty e i0 z 2 b U.slice hi hz0 hz1 hz2 hz3 (by decide) ⟨g, 0, none⟩ n cap (pc l) hlc
          (fun j u hu => (hown.alloc _).cells (g := g) (by simp [Value.ownBlock]) j u hu) ⟨w.heap.size, 0, none⟩ 1 1 (pc [(X, Y)]) hlx (pair_cell w X Y e) hfull hn hlen
        refine ⟨v', w', hrun, ?_, ⟨r2.os, r2.tape, r2.output, r2.size, fun k hk _ => r2.block k hk (by simp)⟩, hnone w' r2⟩
        rw [pc_append]
        refine ⟨r1.1, ?_⟩
        rcases r1.2 with q | ⟨g', cap', cur', q1, q2, q3⟩
        · exact .inl q
        · exact .inr ⟨g', cap', cur', q1, by simp at q2; omega, q3⟩
      · obtain ⟨v', w', hrun, r1, r2, _⟩ := run_append_own (P := P) (w.alloc (.cells #[X, Y] e)) B t ty e i0 z 2 b U.slice hi hz0 hz1 hz2 hz3 (by decide) _ n (pc l) (hown.alloc _) ⟨w.heap.size, 0, none⟩ 1 1 (pc [(X, Y)]) hlx (pair_cell w X Y e) (pc_one _ (by simp [hX, hY])) hn hlen (by simp; omega)
        refine ⟨v', w', hrun, by rw [pc_append]; exact r1, r2, fun k cs m hk hc2 => ?_⟩
        have hlt := (Array.getElem?_eq_some_iff.1 hk).1
        refine (r2.block k (by simp; omega) ?_).trans ((Below.heap_alloc w _ k hlt).trans hk)
        intro e'
        simp [Value.ownBlock] at e'
        subst e'
        rw [hg] at hk
        cases hk
        omega
theorem wpListIn_pairK {F : Fence} {m : Nat} (U : P2 P t e b) (w : World) (hg : o.guard = none) (s x : Operand) (ho : o.op = .call { callee := .builtin .append, args := #[s, x], argTypes := #[t, t] })
    (B n : Nat) (l : List (Value × Value)) (v : Value) (hs : a.eval s = v) (hown : w.ownsRow B e 2 v n (pc l)) (X Y : Value) (hX : X.oneCell' = true) (hY : Y.oneCell' = true) (hx : a.eval x = .slice (some ⟨w.heap.size, 0, none⟩) 1 1)
    (hv : n = 0 → v = .slice none 0 0) (hlen : (n + 1) * b ≤ 140737488355328) (hn : n + 1 ≤ maxLen) (hB : B ≤ w.heap.size)
    (h : ∀ v' w', w'.ownsRow B e 2 v' (n + 1) (pc (l ++ [(X, Y)])) → (w.alloc (.cells #[X, Y] e)).grownBy w' v.ownBlock → (∀ (k : Nat) (cs : Array Value) (m : Nat × Nat), w.heap[k]? = some (Obj.cells cs e m) → cs.size = 2 → w'.heap[k]? = some (Obj.cells cs e m)) → wpListIn F m P ops Q rest (a.put o.dst v') w') :
    wpListIn F m P ops Q (o :: rest) a (w.alloc (.cells #[X, Y] e)) := by
  refine wpListIn_plain hg fun K hK' => ?_
  obtain ⟨v', w', hrun, r1, r2, r3⟩ := run_pairK U w o.type B n l v hown X Y hX hY hv hlen hn hB
  unfold Oper.wpIn
  refine ⟨?_, ?_⟩
  · simp [Oper.about, ho, resolve, Target.leads, Sem.run_pure]
  · rw [Oper.semAt_plain F _ _ (by rw [ho]; intro c hc'; cases hc')]
    simp [execOp, ho, resolve, invoke, builtin, hs, hx, hrun, Result.andThen]
    exact hK' _ _ (h v' w' r1 r2 r3)
end
theorem far_kept {W w1 : World} {B n₀ : Nat} {tb e : TypeId} {size n : Nat} {v u : Value} {xs : List Value} {tmp : Obj} (hv : Boxed W B tb v) (hrow : W.ownsRow n₀ e size v n xs) (hgrow : (W.alloc tmp).grownBy w1 v.ownBlock)
    {k : Nat} {cs : Array Value} {t : TypeId} {m : Nat × Nat} (hk : W.heap[k]? = some (Obj.cells cs t m)) (h1 : t ≠ e) (h2 : t ≠ tb) : (w1.setCell ⟨B, 0, none⟩ u).heap[k]? = some (Obj.cells cs t m) := by
  have hlt := (Array.getElem?_eq_some_iff.1 hk).1
  refine (Below.heap_setCell _ _ _ k ?_).trans ((hgrow.block k (by simp; omega) (own_ne hrow hk h1)).trans ((Below.heap_alloc W _ k hlt).trans hk))
  rintro rfl
  rw [show W.heap[k]? = _ from hv] at hk
  cases hk
  exact h2 rfl
end Go.Proofs.YtldfomggeleolaaDoor
