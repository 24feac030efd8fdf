/- past: Drops, and the copy of events. -/
import Derived.Test.YtjmglgcifekhgaaDoorPastPx
import Derived.Test.YtjmglgcifekhgaaDoorPastFew
import Derived.Test.YtjmglgcifekhgaaDoorPastPlain
import Derived.Lib.Builder
namespace Go.Proofs.YtjmglgcifekhgaaDoor
open Go Go.RowKit
set_option linter.unusedVariables false

def evs (L : List EvP) : List Ev := L.map (·.e)
theorem drops_take (L : List EvP) (j : Nat) (h : j < L.length) : dropsOf (evs (L.take (j + 1))) = dropsOf (evs (L.take j)) + (if L[j].e.kind = 2 then 1 else 0) := by
  rw [List.take_add_one, List.getElem?_eq_getElem h, evs, List.map_append]
  rw [drops_append]
  simp [dropsOf, evs, Ev.isDrop, List.countP_cons]
/-- two rows of things of other types lie apart -/
theorem own_apart {w : World} {B B' : Nat} {e e' : TypeId} {k k' n n' : Nat} {v v' : Value} {xs xs' : List Value} (h : w.ownsRow B e k v n xs) (h' : w.ownsRow B' e' k' v' n' xs') (hne : e ≠ e') : v.ownBlock = none ∨ v.ownBlock ≠ v'.ownBlock := by
  rcases h.2 with ⟨rfl, _⟩ | ⟨g, cap, cur, rfl, _, hg, _⟩
  · exact .inl rfl
  · right
    rcases h'.2 with ⟨rfl, _⟩ | ⟨g', cap', cur', rfl, _, hg', _⟩
    · simp [Value.ownBlock]
    · intro e1
      have e2 : g = g' := by simpa [Value.ownBlock] using e1
      subst e2
      rw [hg] at hg'
      injection hg' with hg'
      injection hg' with _ e3 _
      exact hne e3
/-- events of one's own: their row, and the rows of the dots of each -/
structure OwnE (w : World) (B : Nat) (v : Value) (L : List EvP) : Prop where
  row : w.ownsRow B 31 8 v L.length (ecl L)
  gone : ∀ x ∈ L, w.ownsRow B 28 2 (.slice x.p x.e.gone.length x.c) x.e.gone.length (dcl x.e.gone)
theorem own_slice {w : World} {B : Nat} {e : TypeId} {k n : Nat} {v : Value} {xs : List Value} (h : w.ownsRow B e k v n xs) : ∃ p c, v = .slice p n c := by
  rcases h.2 with ⟨rfl, rfl⟩ | ⟨g, cap, cur, rfl, _⟩
  · exact ⟨none, 0, rfl⟩
  · exact ⟨_, _, rfl⟩
theorem own_later {w w' : World} {B : Nat} {e : TypeId} {k n : Nat} {v : Value} {xs : List Value} (h : w.ownsRow B e k v n xs) (hb : Below w.heap.size w w') : w'.ownsRow B e k v n xs := by
  refine ⟨h.1, ?_⟩
  rcases h.2 with q | ⟨g, cap, cur, q1, q2, q3, q4⟩
  · exact .inl q
  · exact .inr ⟨g, cap, cur, q1, q2, (hb.block g (Array.getElem?_eq_some_iff.1 q3).1).trans q3, q4⟩
theorem own_base {w : World} {B B' : Nat} {e : TypeId} {k n : Nat} {v : Value} {xs : List Value} (h : w.ownsRow B e k v n xs) (hB : B' ≤ B) : w.ownsRow B' e k v n xs := by
  refine ⟨h.1, ?_⟩
  rcases h.2 with q | ⟨g, cap, cur, q1, q2, q3⟩
  · exact .inl q
  · exact .inr ⟨g, cap, cur, q1, Nat.le_trans hB q2, q3⟩
theorem OwnE.later {w w' : World} {B : Nat} {v : Value} {L : List EvP} (h : OwnE w B v L) (hb : Below w.heap.size w w') : OwnE w' B v L := ⟨own_later h.row hb, fun x hx => own_later (h.gone x hx) hb⟩
theorem own_okE {w : World} {B : Nat} {x : EvP} (h : w.ownsRow B 28 2 (.slice x.p x.e.gone.length x.c) x.e.gone.length (dcl x.e.gone)) : x.Ok w := by
  obtain ⟨_, p, cap, e1, _, h1, h2, _⟩ := own_drow h
  injection e1 with e1 _ _
  subst e1
  exact ⟨h1, fun hp => (h2 hp).1⟩
theorem OwnE.at {w : World} {B : Nat} {v : Value} {L : List EvP} (h : OwnE w B v L) : ∃ p c, v = .slice p L.length c ∧ L.length ≤ c ∧ EvsAt w p L ∧ (∀ a, p = some a → ∃ b o, a = ⟨b, o, Option.none⟩) := by
  have hr := h.row
  rcases hr.2 with ⟨rfl, h0⟩ | ⟨g, cap, cur, rfl, hB, hg, hc, hm, hs, ht⟩
  · have : L = [] := List.eq_nil_of_length_eq_zero h0
    subst this
    exact ⟨none, 0, rfl, Nat.le_refl _, ⟨fun hn => absurd rfl hn, fun x hx => by simp at hx, fun _ => rfl⟩, fun a ha => by cases ha⟩
  · refine ⟨some ⟨g, 0, none⟩, cap, rfl, hc, ⟨fun _ => ⟨g, 0, rfl, fun j u hu => ?_⟩, fun x hx => own_okE (h.gone x hx), fun e => by cases e⟩, fun a ha => by obtain rfl := Option.some.inj ha; exact ⟨g, 0, rfl⟩⟩
    have hj : j < L.length * 8 := by rw [← ecl_length]; exact (List.getElem?_eq_some_iff.1 hu).1
    have := hr.cellAt j hj
    rw [Nat.zero_add, this]; exact hu

def CopiedR (w : World) (L : List EvP) (e : Ending) (w' : World) : Prop := ∃ v L', e = .returned v ∧ OwnE w' w.heap.size v L' ∧ evs L' = evs L ∧ Below w.heap.size w w'
end Go.Proofs.YtjmglgcifekhgaaDoor
