/- Slices of things of one cell, the call's own: append, make, store; as one step of a statement that leaves its order open. No number of a program stands here. -/
import Derived.Test.YtimfcedkmdbnfaaMem
import Derived.OneCell
namespace Go.Proofs.Ytimfcedkmdbnfaa
open Go Go.RowKit

/-- a type of slices of things of one cell -/
structure One (P : Program) (t e : TypeId) (z : Value) (b : Nat) : Prop where
  slice : P.underlying t = some (.slice e)
  info : (P.info? e).map (fun i => (i.zero, i.size, i.bytes)) = some (some z, 1, b)
  one : z.cells.size = 1
  pos : 1 ≤ b
  le : b ≤ 16

theorem own_laterV {w w' : World} {B : Nat} {ty : TypeId} {n : Nat} {v : Value} {xs : List Value} (h : w.ownsRow B ty 1 v n xs) (hb : Below w.heap.size w w') : w'.ownsRow B ty 1 v n xs := by
  refine ⟨h.1, ?_⟩
  rcases h.2 with q | ⟨g, cap, cur, q1, q2, q3, q4⟩
  · exact .inl q
  · exact .inr ⟨g, cap, cur, q1, q2, by rw [hb.block g (Array.getElem?_eq_some_iff.1 q3).1]; exact q3, q4⟩
theorem ownV_some {w : World} {B : Nat} {ty : TypeId} {v : Value} {n : Nat} {xs : List Value} (h : w.ownsRow B ty 1 v n xs) (hn : 0 < n) : ∃ g cap, v = .slice (some ⟨g, 0, none⟩) n cap ∧ B ≤ g ∧ n ≤ cap := by
  rcases h.2 with ⟨_, e⟩ | ⟨g, cap, cur, rfl, hb, _, hc, _⟩
  · omega
  · exact ⟨g, cap, rfl, hb, hc⟩
theorem ownV_slice {w : World} {B : Nat} {ty : TypeId} {v : Value} {n : Nat} {xs : List Value} (h : w.ownsRow B ty 1 v n xs) : ∃ p cap, v = .slice p n cap := by
  rcases h.2 with ⟨rfl, e⟩ | ⟨g, cap, cur, rfl, _⟩
  · exact ⟨none, 0, by rw [e]⟩
  · exact ⟨_, cap, rfl⟩
theorem ownV_cells {w : World} {B : Nat} {ty : TypeId} {v : Value} {n : Nat} {xs : List Value} (h : w.ownsRow B ty 1 v n xs) : ∃ p cap, v = .slice p n cap ∧ n ≤ cap ∧ n = xs.length ∧ ∀ (i : Nat) (u : Value), xs[i]? = some u → ∃ b o, p = some ⟨b, o, none⟩ ∧ w.cell? ⟨b, o + i, none⟩ = some u := by
  have hl : n = xs.length := by have := h.1; simpa using this.symm
  have h' := h
  rcases h.2 with ⟨rfl, e⟩ | ⟨g, cap, cur, rfl, _, _, hnc, _⟩
  · refine ⟨none, 0, by rw [e], by omega, hl, fun i u hu => ?_⟩
    have := (List.getElem?_eq_some_iff.1 hu).1
    omega
  · refine ⟨_, cap, rfl, hnc, hl, fun i u hu => ⟨g, 0, rfl, ?_⟩⟩
    have := (List.getElem?_eq_some_iff.1 hu).1
    rw [Nat.zero_add, h'.cellAt i (by omega), hu]
theorem heap_new {w : World} {X : Nat} {o : Obj} (h : w.heap[X]? = some o) {w' : World} (hb : Below w.heap.size w w') : w'.heap[X]? = some o := by
  rw [hb.block X (Array.getElem?_eq_some_iff.1 h).1]; exact h
/-- a block of another type stays as it is when a row of the call's own is appended to -/
def StaysV (e : TypeId) (w w' : World) : Prop := ∀ (X : Nat) (cs : Array Value) (ty : TypeId) (m : Nat × Nat), w.heap[X]? = some (Obj.cells cs ty m) → ty ≠ e → w'.heap[X]? = some (Obj.cells cs ty m)
theorem staysV_of {w w' : World} {B : Nat} {e : TypeId} {v : Value} {n : Nat} {xs : List Value} (hown : w.ownsRow B e 1 v n xs) (hg : w.grownBy w' v.ownBlock) : StaysV e w w' := by
  intro X cs ty m hX hne
  have hlt : X < w.heap.size := (Array.getElem?_eq_some_iff.1 hX).1
  rw [hg.block X hlt ?_]
  · exact hX
  · rcases hown.2 with ⟨rfl, _⟩ | ⟨g, cap, cur, rfl, _, q3, _⟩
    · intro h; cases h
    · intro h
      have hXg : X = g := by simpa [Value.ownBlock] using h
      subst hXg
      rw [q3] at hX
      simp only [Option.some.injEq, Obj.cells.injEq] at hX
      exact hne hX.2.1.symm
/-- a row stays where a block of another type is written -/
theorem own_setOther {w : World} {B : Nat} {e : TypeId} {v u : Value} {n : Nat} {xs : List Value} (hown : w.ownsRow B e 1 v n xs) {X : Nat} {cs : Array Value} {ty : TypeId} {m : Nat × Nat} (hX : w.heap[X]? = some (Obj.cells cs ty m)) (hne : ty ≠ e) (o : Nat) (s : Option Nat) :
    (w.setCell ⟨X, o, s⟩ u).ownsRow B e 1 v n xs := by
  refine ⟨hown.1, ?_⟩
  rcases hown.2 with q | ⟨g, cap, cur, q1, q2, q3, q4⟩
  · exact .inl q
  · refine .inr ⟨g, cap, cur, q1, q2, ?_, q4⟩
    have hXg : g ≠ X := by
      rintro rfl
      rw [q3] at hX
      simp only [Option.some.injEq, Obj.cells.injEq] at hX
      exact hne hX.2.1.symm
    rw [Below.heap_setCell w ⟨X, o, s⟩ u g hXg]; exact q3

section
variable {P : Program} {t e : TypeId} {z : Value} {b : Nat} {ops : Array Oper} {rest : List Oper} {o : Oper} {a : Act} {Q : Exit → Act → World → Prop}
/-- 'out = append(out, x)', out the call's own -/
theorem wpList_one (U : One P t e z b) (w : World) (hg : o.guard = none) (s x : Operand) (ho : o.op = .call { callee := .builtin .append, args := #[s, x], argTypes := #[t, t] })
    (B n : Nat) (xs : List Value) (v : Value) (hs : a.eval s = v) (hown : w.ownsRow B e 1 v n xs) (X : Value) (h1 : X.oneCell' = true) (hx : a.eval x = .slice (some ⟨w.heap.size, 0, none⟩) 1 1)
    (hlen : n + 1 ≤ 1000000000000) (hB : B ≤ w.heap.size)
    (h : ∀ v' w', w'.ownsRow B e 1 v' (n + 1) (xs ++ [X]) → Below B w w' → StaysV e w w' → wpList P ops Q rest (a.put o.dst v') w') : wpList P ops Q (o :: rest) a (w.alloc (.cells #[X] e)) := by
  obtain ⟨i0, hi, hz0, hz1, hz2⟩ := info_parts U.info
  have hb := U.le
  have hm : (n + 1) * b ≤ 140737488355328 := Nat.le_trans (Nat.mul_le_mul_left _ hb) (by omega)
  refine wpList_append_own _ hg s x t ho B e i0 z 1 b U.slice hi hz0 hz1 hz2 U.one (by decide) v n xs hs (hown.alloc _) ⟨w.heap.size, 0, none⟩ 1 1 [X] hx rfl ?_ (by intro u hu; simp at hu; subst hu; exact h1) (by unfold maxLen; omega) hm (by simp; omega) ?_
  · intro j u hu
    match j, hu with
    | 0, hu => simp at hu; subst hu; simp [Addr.add]
  · intro v' w' g1 g2 _
    refine h v' w' g1 ?_ ?_
    · exact ((Below.refl B w).alloc hB _).grown g2 (by simp; omega) (fun k hk => (hown.lt k hk).1)
    · intro X' cs ty m hX hne
      refine staysV_of (hown.alloc _) g2 X' cs ty m ?_ hne
      rw [((Below.refl w.heap.size w).alloc (Nat.le_refl _) _).block X' (Array.getElem?_eq_some_iff.1 hX).1]
      exact hX
/-- the same, with what has turned: the row's own block alone -/
theorem wpList_oneG (U : One P t e z b) (w : World) (hg : o.guard = none) (s x : Operand) (ho : o.op = .call { callee := .builtin .append, args := #[s, x], argTypes := #[t, t] })
    (B n : Nat) (xs : List Value) (v : Value) (hs : a.eval s = v) (hown : w.ownsRow B e 1 v n xs) (X : Value) (h1 : X.oneCell' = true) (hx : a.eval x = .slice (some ⟨w.heap.size, 0, none⟩) 1 1)
    (hlen : n + 1 ≤ 1000000000000) (hB : B ≤ w.heap.size)
    (h : ∀ v' w', w'.ownsRow B e 1 v' (n + 1) (xs ++ [X]) → Below B w w' → w.grownBy w' v.ownBlock → wpList P ops Q rest (a.put o.dst v') w') : wpList P ops Q (o :: rest) a (w.alloc (.cells #[X] e)) := by
  obtain ⟨i0, hi, hz0, hz1, hz2⟩ := info_parts U.info
  have hb := U.le
  have hm : (n + 1) * b ≤ 140737488355328 := Nat.le_trans (Nat.mul_le_mul_left _ hb) (by omega)
  refine wpList_append_own _ hg s x t ho B e i0 z 1 b U.slice hi hz0 hz1 hz2 U.one (by decide) v n xs hs (hown.alloc _) ⟨w.heap.size, 0, none⟩ 1 1 [X] hx rfl ?_ (by intro u hu; simp at hu; subst hu; exact h1) (by unfold maxLen; omega) hm (by simp; omega) ?_
  · intro j u hu
    match j, hu with
    | 0, hu => simp at hu; subst hu; simp [Addr.add]
  · intro v' w' g1 g2 _
    refine h v' w' g1 ?_ ?_
    · exact ((Below.refl B w).alloc hB _).grown g2 (by simp; omega) (fun k hk => (hown.lt k hk).1)
    · have g0 := World.grownBy_alloc w (.cells #[X] e) v.ownBlock
      exact ⟨g2.os.trans g0.os, g2.tape.trans g0.tape, g2.output.trans g0.output, Nat.le_trans g0.size g2.size, fun i hi hne => (g2.block i (Nat.lt_of_lt_of_le hi g0.size) hne).trans (g0.block i hi hne)⟩
theorem step_one (U : One P t e z b) {w : World} {K : Act → World → Prop} {E : Prop} {Q : Exit → Act → World → Prop} (hg : o.guard = none) (s x : Operand) (ho : o.op = .call { callee := .builtin .append, args := #[s, x], argTypes := #[t, t] })
    (B n : Nat) (xs : List Value) (v : Value) (hs : a.eval s = v) (hown : w.ownsRow B e 1 v n xs) (ad : Addr) (X : Value) (h1 : X.oneCell' = true) (hx : a.eval x = .slice (some ad) 1 1) (hX : w.cell? ad = some X)
    (hlen : n + 1 ≤ 1000000000000) (hB : B ≤ w.heap.size)
    (h : ∀ v' w', w'.ownsRow B e 1 v' (n + 1) (xs ++ [X]) → Below B w w' → StaysV e w w' → K (a.put o.dst v') w') :
    if Region.wanted o (yielded ops a.tmps) = true then Oper.wp P o a w K Q else E := by
  obtain ⟨i0, hi, hz0, hz1, hz2⟩ := info_parts U.info
  have hb := U.le
  have hm : (n + 1) * b ≤ 140737488355328 := Nat.le_trans (Nat.mul_le_mul_left _ hb) (by omega)
  have hnews : ∀ j u, [X][j]? = some u → w.cell? (ad.add j) = some u := by
    intro j u hu
    match j, hu with
    | 0, hu => simp at hu; subst hu; rw [show ad.add 0 = ad from by cases ad; simp [Addr.add]]; exact hX
  have hw : Region.wanted o (yielded ops a.tmps) = true := by simp [Region.wanted, hg]
  rw [if_pos hw]
  obtain ⟨v', w', hrun, g1, g2, _⟩ := run_append_own (P := P) w B t o.type e i0 z 1 b U.slice hi hz0 hz1 hz2 U.one (by decide) v n xs hown ad 1 1 [X] rfl hnews (by intro u hu; simp at hu; subst hu; exact h1) (by unfold maxLen; omega) hm hB
  unfold Oper.wp
  simp [execOp, ho, resolve, invoke, builtin, hs, hx, hrun, Result.andThen]
  exact h v' w' g1 ((Below.refl B w).grown g2 hB (fun k hk => (hown.lt k hk).1)) (staysV_of hown g2)
/-- 'make([]T, 0, n)' -/
theorem wpList_mk (U : One P t e z b) (w : World) (hg : o.guard = none) (x y : Operand) (hop : o.op = Op.makeSlice t x y) (kl kc : IntKind) (C : Int) (n : Nat) (hl : a.eval x = .int kl 0) (hc : a.eval y = .int kc C) (hC : C = (n : Int))
    (hn : n ≤ 1000000000000) (h : ∀ v w', w'.ownsRow w.heap.size e 1 v 0 [] → Below w.heap.size w w' → wpList P ops Q rest (a.put o.dst v) w') : wpList P ops Q (o :: rest) a w := by
  obtain ⟨i0, hi, hz0, hz1, hz2⟩ := info_parts U.info
  have hb := U.le
  have hm : b * n ≤ 281474976710656 := Nat.le_trans (Nat.mul_le_mul_right _ hb) (by omega)
  refine wpList_make_own w hg x y t hop w.heap.size e i0 z 1 U.slice hi hz0 hz1 kl kc C n hl hc hC (by rw [hz2]; omega) (by unfold maxLen; omega) (Nat.le_refl _) ?_
  intro w' h1 h2
  exact h _ w' h1 ((Below.refl _ _).grown h2 (Nat.le_refl _) (by intro k hk; cases hk))
end
end Go.Proofs.Ytimfcedkmdbnfaa
