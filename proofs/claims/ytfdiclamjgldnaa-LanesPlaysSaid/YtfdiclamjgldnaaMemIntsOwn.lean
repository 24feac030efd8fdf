/- Ints of the call's own: append, and how they lie. -/
import Derived.Test.YtfdiclamjgldnaaProg
import Derived.Test.YtfdiclamjgldnaaMemInts
namespace Go.Proofs.Ytfdiclamjgldnaa
open Go Go.RowKit

def ints (l : List Int) : List Value := l.map (Value.int .i64)
theorem ints_append (a b : List Int) : ints (a ++ b) = ints a ++ ints b := by simp [ints]
theorem ints_length (l : List Int) : (ints l).length = l.length := by simp [ints]
theorem ints_one (l : List Int) : ∀ u ∈ ints l, u.oneCell' = true := by
  intro u hu; obtain ⟨_, _, rfl⟩ := List.mem_map.1 hu; rfl
theorem ints_get (l : List Int) (i : Nat) (h : i < l.length) : (ints l)[i]? = some (.int .i64 (l.getD i 0)) := by
  simp [ints, List.getD, List.getElem?_eq_getElem h]

/-- a type of slices of ints -/
structure I64 (P : Program) (t e : TypeId) : Prop where
  slice : P.underlying t = some (.slice e)
  info : (P.info? e).map (fun i => (i.zero, i.size, i.bytes)) = some (some (.int .i64 0), 1, 8)
theorem infoI64 : (Try.prog.info? 3).map (fun i => (i.zero, i.size, i.bytes)) = some (some (.int .i64 0), 1, 8) := by kernel_rfl
section
variable {P : Program} {t e : TypeId} {ops : Array Oper} {rest : List Oper} {o : Oper} {a : Act} {Q : Exit → Act → World → Prop}
/-- 'out = append(out, x)', out the call's own, x an int -/
theorem wpList_int (U : I64 P t e) (w : World) (hg : o.guard = none) (s x : Operand) (ho : o.op = .call { callee := .builtin .append, args := #[s, x], argTypes := #[t, t] })
    (B n : Nat) (l : List Int) (v : Value) (hs : a.eval s = v) (hown : w.ownsRow B e 1 v n (ints l)) (X : Int) (hx : a.eval x = .slice (some ⟨w.heap.size, 0, none⟩) 1 1)
    (hlen : n + 1 ≤ 1000000) (hB : B ≤ w.heap.size)
    (h : ∀ v' w', w'.ownsRow B e 1 v' (n + 1) (ints (l ++ [X])) → Below B w w' → wpList P ops Q rest (a.put o.dst v') w') : wpList P ops Q (o :: rest) a (w.alloc (.cells #[.int .i64 X] e)) := by
  obtain ⟨i0, hi, hz0, hz1, hz2⟩ := info_parts U.info
  refine wpList_append_own _ hg s x t ho B e i0 (.int .i64 0) 1 8 U.slice hi hz0 hz1 hz2 rfl (by decide) v n (ints l) hs (hown.alloc _) ⟨w.heap.size, 0, none⟩ 1 1 (ints [X]) hx rfl ?_ (ints_one _) (by unfold maxLen; omega) (by omega) (by simp; omega) ?_
  · intro j u hu
    match j, hu with
    | 0, hu => simp [ints] at hu; subst hu; simp [Addr.add]
  · intro v' w' h1 h2 _
    refine h v' w' (by rw [ints_append]; exact h1) ?_
    exact ((Below.refl B w).alloc hB _).grown h2 (by simp; omega) (fun k hk => (hown.lt k hk).1)
end
theorem own_liesI {w : World} {B : Nat} {e : TypeId} {v : Value} {n : Nat} {l : List Int} (h : w.ownsRow B e 1 v n (ints l)) :
    n = l.length ∧ ∃ p cap, v = .slice p l.length cap ∧ l.length ≤ cap ∧ LiesI w p l ∧ (p = none → l = [] ∧ cap = 0) := by
  have hlen : n = l.length := by have := h.1; simpa [ints_length] using this.symm
  subst hlen
  refine ⟨rfl, ?_⟩
  have h' := h
  rcases h.2 with ⟨rfl, hn⟩ | ⟨g, cap, cur, rfl, _, _, hnc, hcm, _, _⟩
  · have : l = [] := List.eq_nil_of_length_eq_zero hn
    subst this
    exact ⟨none, 0, rfl, Nat.le_refl _, LiesI.nil _ _, fun _ => ⟨rfl, rfl⟩⟩
  · refine ⟨some ⟨g, 0, none⟩, cap, rfl, hnc, fun _ => ⟨g, 0, rfl, fun i hi => ?_⟩, fun e => by cases e⟩
    rw [Nat.zero_add, h'.cellAt i (by omega), ints_get l i hi]
theorem ownI_later {w w' : World} {B : Nat} {ty : TypeId} {n : Nat} {v : Value} {xs : List Value} (h : w.ownsRow B ty 1 v n xs) (hb : Below w.heap.size w w') : w'.ownsRow B ty 1 v n xs := by
  refine ⟨h.1, ?_⟩
  rcases h.2 with q | ⟨g, cap, cur, q1, q2, q3, q4⟩
  · exact .inl q
  · exact .inr ⟨g, cap, cur, q1, q2, by rw [hb.block g (Array.getElem?_eq_some_iff.1 q3).1]; exact q3, q4⟩
/-- what a call that hands back ints of its own comes to -/
def RetInts (w : World) (ty : TypeId) (l : List Int) (e : Ending) (w' : World) : Prop :=
  ∃ v, e = .returned v ∧ w'.ownsRow w.heap.size ty 1 v l.length (ints l) ∧ Below w.heap.size w w'
theorem RetInts.of_own {w w' : World} {ty : TypeId} {v : Value} {n : Nat} {l : List Int} {e : Ending} (h : w'.ownsRow w.heap.size ty 1 v n (ints l)) (he : e = .returned v) (hb : Below w.heap.size w w') : RetInts w ty l e w' := by
  have := (own_liesI h).1
  subst this
  exact ⟨v, he, h, hb⟩
end Go.Proofs.Ytfdiclamjgldnaa
