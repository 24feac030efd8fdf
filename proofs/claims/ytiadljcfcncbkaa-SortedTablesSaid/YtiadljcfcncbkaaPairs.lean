/- Rows of things of two cells each. No number of a program stands here. -/
import Derived.Test.YtiadljcfcncbkaaMem
import Derived.Laws.OwnMore
import Derived.OwnWalkIn
namespace Go.Proofs.Ytiadljcfcncbkaa
open Go Go.RowKit
set_option linter.unusedVariables false

def pc (l : List (Value × Value)) : List Value := l.flatMap fun x => [x.1, x.2]
theorem pc_cons (x : Value × Value) (l : List (Value × Value)) : pc (x :: l) = x.1 :: x.2 :: pc l := rfl
theorem pc_length : ∀ l : List (Value × Value), (pc l).length = l.length * 2
  | [] => rfl
  | x :: l => by rw [pc_cons, List.length_cons, List.length_cons, pc_length l, List.length_cons]; omega
theorem pc_append (a b : List (Value × Value)) : pc (a ++ b) = pc a ++ pc b := by simp [pc]
theorem pc_get : ∀ (l : List (Value × Value)) (i : Nat) (hi : i < l.length), (pc l)[i * 2]? = some l[i].1 ∧ (pc l)[i * 2 + 1]? = some l[i].2
  | x :: l, 0, _ => ⟨rfl, rfl⟩
  | x :: l, i + 1, hi => by
    have := pc_get l i (by simpa using hi)
    rw [pc_cons, show (i + 1) * 2 = i * 2 + 1 + 1 from by omega, show i * 2 + 1 + 1 + 1 = (i * 2 + 1) + 1 + 1 from rfl]
    simpa using this
theorem pc_set : ∀ (l : List (Value × Value)) (i : Nat) (v : Value) (hi : i < l.length), (pc l).set (i * 2) v = pc (l.set i (v, l[i].2))
  | x :: l, 0, v, _ => rfl
  | x :: l, i + 1, v, hi => by
    have := pc_set l i v (by simpa using hi)
    rw [pc_cons, show (i + 1) * 2 = i * 2 + 1 + 1 from by omega, List.set_cons_succ, List.set_cons_succ, this, List.set_cons_succ, pc_cons]
    rfl
theorem pc_one (l : List (Value × Value)) (h : ∀ x ∈ l, x.1.oneCell' = true ∧ x.2.oneCell' = true) : ∀ u ∈ pc l, u.oneCell' = true := by
  intro u hu
  obtain ⟨d, hd, hu⟩ := List.mem_flatMap.1 hu
  simp at hu
  rcases hu with rfl | rfl
  · exact (h d hd).1
  · exact (h d hd).2
theorem pc_inj : ∀ (a b : List (Value × Value)), pc a = pc b → a = b
  | [], [], _ => rfl
  | [], y :: b, h => by rw [pc_cons] at h; cases h
  | x :: a, [], h => by rw [pc_cons] at h; cases h
  | x :: a, y :: b, h => by
    rw [pc_cons, pc_cons] at h
    injection h with h1 h
    injection h with h2 h
    rw [pc_inj a b h, show x = y from Prod.ext h1 h2]

/-- what a call owns lies where it is -/
theorem own_pc {w : World} {B : Nat} {e : TypeId} {v : Value} {n : Nat} {l : List (Value × Value)} (h : w.ownsRow B e 2 v n (pc l)) :
    n = l.length ∧ ∃ p cap, v = .slice p l.length cap ∧ l.length ≤ cap ∧ (p = none → l = [] ∧ cap = 0) ∧ (∀ a, p = some a → ∃ g, a = ⟨g, 0, none⟩ ∧ B ≤ g ∧ g < w.heap.size ∧
      ∀ i (hi : i < l.length), w.cell? ⟨g, i * 2, none⟩ = some l[i].1 ∧ w.cell? ⟨g, i * 2 + 1, none⟩ = some l[i].2) := by
  have hlen : n = l.length := by have := h.1; rw [pc_length] at this; omega
  subst hlen
  refine ⟨rfl, ?_⟩
  have h' := h
  rcases h.2 with ⟨rfl, hn⟩ | ⟨g, cap, cur, rfl, hb, hg, hnc, hcm, _, _⟩
  · obtain rfl := List.eq_nil_of_length_eq_zero hn
    exact ⟨none, 0, rfl, by omega, (fun _ => ⟨rfl, rfl⟩), (fun a ha => by cases ha)⟩
  · refine ⟨_, cap, rfl, hnc, (fun e => by cases e), fun a ha => ?_⟩
    cases ha
    refine ⟨g, rfl, hb, (Array.getElem?_eq_some_iff.1 hg).1, fun i hi => ?_⟩
    obtain ⟨g1, g2⟩ := pc_get l i hi
    exact ⟨by rw [h'.cellAt (i * 2) (by omega), g1], by rw [h'.cellAt (i * 2 + 1) (by omega), g2]⟩
theorem own_later2 {w w' : World} {B : Nat} {ty : TypeId} {k n : Nat} {v : Value} {xs : List Value} (h : w.ownsRow B ty k v n xs) (hb : Below w.heap.size w w') : w'.ownsRow B ty k v n xs := by
  refine ⟨h.1, ?_⟩
  rcases h.2 with q | ⟨g, cap, cur, q1, q2, q3, q4⟩
  · exact .inl q
  · exact .inr ⟨g, cap, cur, q1, q2, by rw [hb.block g (Array.getElem?_eq_some_iff.1 q3).1]; exact q3, q4⟩

/-- a row is no block of another type -/
theorem own_ne {w : World} {B : Nat} {e : TypeId} {k : Nat} {v : Value} {n : Nat} {xs : List Value} {g : Nat} {cs : Array Value} {t : TypeId} {m : Nat × Nat} (h : w.ownsRow B e k v n xs) (hg : w.heap[g]? = some (Obj.cells cs t m)) (hte : t ≠ e) : some g ≠ v.ownBlock := by
  rcases h.2 with ⟨rfl, _⟩ | ⟨g', cap, cur, rfl, _, hg', _⟩
  · simp [Value.ownBlock]
  · intro e'
    simp [Value.ownBlock] at e'
    subst e'
    rw [hg] at hg'
    cases hg'
    exact hte rfl
/-- a type of slices of things of two cells -/
structure P2 (P : Program) (t e : TypeId) (b : Nat) : Prop where
  slice : P.underlying t = some (.slice e)
  info : (P.info? e).map (fun i => (i.zero.map (fun z => z.cells.size), i.size, i.bytes)) = some (some 2, 2, b)
theorem P2.parts {P : Program} {t e : TypeId} {b : Nat} (U : P2 P t e b) : ∃ i z, P.info? e = some i ∧ i.zero = some z ∧ i.size = 2 ∧ i.bytes = b ∧ z.cells.size = 2 := by
  have := U.info
  cases hi : P.info? e with
  | none => rw [hi] at this; cases this
  | some i =>
    rw [hi] at this
    simp only [Option.map_some, Option.some.injEq, Prod.mk.injEq] at this
    obtain ⟨h1, h2, h3⟩ := this
    cases hz : i.zero with
    | none => rw [hz] at h1; cases h1
    | some z =>
      rw [hz] at h1
      exact ⟨i, z, rfl, hz, h2, h3, by simpa using h1⟩

section
variable {P : Program} {t e : TypeId} {b : Nat} {ops : Array Oper} {rest : List Oper} {o : Oper} {a : Act} {Q : Exit → Act → World → Prop}
theorem pair_cell (w : World) (X Y : Value) (e : TypeId) : ∀ j u, (pc [(X, Y)])[j]? = some u → (w.alloc (.cells #[X, Y] e)).cell? ((⟨w.heap.size, 0, none⟩ : Addr).add j) = some u := by
  intro j u hu
  have h := heap_alloc_new w (.cells #[X, Y] e)
  rw [Addr.add_lit, Nat.zero_add, cell_of_row _ _ j _ _ _ h]
  simpa [pc] using hu
/-- 'out = append(out, x)', out the call's own, x of two cells -/
theorem wpList_pair (U : P2 P t e b) (w : World) (hg : o.guard = none) (s x : Operand) (ho : o.op = .call { callee := .builtin .append, args := #[s, x], argTypes := #[t, t] })
    (B n : Nat) (l : List (Value × Value)) (v : Value) (hs : a.eval s = v) (hown : w.ownsRow B e 2 v n (pc l)) (X Y : Value) (hX : X.oneCell' = true) (hY : Y.oneCell' = true) (hx : a.eval x = .slice (some ⟨w.heap.size, 0, none⟩) 1 1)
    (hlen : (n + 1) * b ≤ 140737488355328) (hn : n + 1 ≤ maxLen) (hB : B ≤ w.heap.size)
    (h : ∀ v' w', w'.ownsRow B e 2 v' (n + 1) (pc (l ++ [(X, Y)])) → Below B w w' → (∀ k, k < w.heap.size → some k ≠ v.ownBlock → w'.heap[k]? = w.heap[k]?) → wpList P ops Q rest (a.put o.dst v') w') : wpList P ops Q (o :: rest) a (w.alloc (.cells #[X, Y] e)) := by
  obtain ⟨i0, z, hi, hz0, hz1, hz2, hz3⟩ := U.parts
  refine wpList_append_own _ hg s x t ho B e i0 z 2 b U.slice hi hz0 hz1 hz2 hz3 (by decide) v n (pc l) hs (hown.alloc _) ⟨w.heap.size, 0, none⟩ 1 1 (pc [(X, Y)]) hx rfl (pair_cell w X Y e) (pc_one _ (by simp [hX, hY])) hn hlen (by simp; omega) ?_
  intro v' w' h1 h2 _
  refine h v' w' (by rw [pc_append]; exact h1) ?_ (fun k hk hne => ?_)
  · exact ((Below.refl B w).alloc hB _).grown h2 (by simp; omega) (fun k hk => (hown.lt k hk).1)
  · exact (h2.block k (by simp; omega) hne).trans (Below.heap_alloc w _ k hk)
end
end Go.Proofs.Ytiadljcfcncbkaa
