/- Rows of keys and numbers by rising keys, plain; the order of texts. No number of a program stands here. -/
import Derived.Sort.Walk0
import Derived.Test.YtijmijokgenflaaGreatDoorProg
namespace Go.Proofs.YtijmijokgenflaaGreatDoor
open Go
set_option linter.unusedVariables false

structure Lin {α : Type} (lt : α → α → Bool) : Prop where
  irr : ∀ a, lt a a = false
  tr : ∀ a b c, lt a b = true → lt b c = true → lt a c = true
  tot : ∀ a b, lt a b = false → lt b a = false → a = b
/-- how texts are ordered -/
def ltB (a b : ByteArray) : Bool := Op.bytesLess a.toList b.toList
theorem lin_B : Lin ltB := by
  refine ⟨fun a => ?_, fun a b c h1 h2 => ?_, fun a b h1 h2 => ?_⟩
  · simp [ltB, bytesLess_eq, List.lt_irrefl]
  · simp only [ltB, bytesLess_eq, decide_eq_true_eq] at h1 h2 ⊢
    exact List.lt_trans h1 h2
  · simp only [ltB, bytesLess_eq, decide_eq_false_iff_not] at h1 h2
    have h : a.toList = b.toList := List.le_antisymm (List.not_lt.1 h2) (List.not_lt.1 h1)
    rw [Lib.toList_data, Lib.toList_data] at h
    exact ByteArray.ext (Array.toList_inj.1 h)
namespace Tb
variable {α : Type} {lt : α → α → Bool}
abbrev Rows (α : Type) := List (α × Int)
def Rise (lt : α → α → Bool) (l : Rows α) : Prop := l.Pairwise fun a b => lt a.1 b.1 = true
/-- rows by a key: those below it, those that are not -/
structure Sp (lt : α → α → Bool) (l : Rows α) (k : α) (A B : Rows α) : Prop where
  eq : l = A ++ B
  below : ∀ r ∈ A, lt r.1 k = true
  not : ∀ r ∈ B, lt r.1 k = false
theorem split (L : Lin lt) : ∀ {l : Rows α} (h : Rise lt l) (k : α), ∃ A B, Sp lt l k A B
  | [], _, k => ⟨[], [], rfl, by simp, by simp⟩
  | r :: l, h, k => by
    have h' := List.pairwise_cons.1 h
    by_cases hr : lt r.1 k = true
    · obtain ⟨A, B, rfl, h2, h3⟩ := split L (l := l) h'.2 k
      refine ⟨r :: A, B, rfl, fun x hx => ?_, h3⟩
      rcases List.mem_cons.1 hx with rfl | hx
      · exact hr
      · exact h2 x hx
    · have hr' : lt r.1 k = false := by simpa using hr
      refine ⟨[], r :: l, rfl, by simp, fun x hx => ?_⟩
      rcases List.mem_cons.1 hx with rfl | hx
      · exact hr'
      · have h1 := h'.1 x hx
        cases hx1 : lt x.1 k with
        | false => rfl
        | true => exact absurd (L.tr _ _ _ h1 hx1) (by rw [hr']; simp)
/-- behind the key all is above it -/
theorem Sp.cases (L : Lin lt) {l : Rows α} (h : Rise lt l) {k : α} {A B : Rows α} (s : Sp lt l k A B) :
    (k ∉ l.map (·.1) ∧ ∀ r ∈ B, lt k r.1 = true) ∨ ∃ v B', B = (k, v) :: B' ∧ ∀ r ∈ B', lt k r.1 = true := by
  have hAk : ∀ r ∈ A, r.1 ≠ k := fun r hr e => by have := s.below r hr; rw [e, L.irr] at this; cases this
  cases B with
  | nil => left; refine ⟨fun hk => ?_, by simp⟩
           obtain ⟨r, hr, e⟩ := List.mem_map.1 hk
           rw [s.eq, List.append_nil] at hr
           exact hAk r hr e
  | cons r B =>
    have hB : Rise lt (r :: B) := by
      have := h
      unfold Rise at this ⊢
      rw [s.eq, List.pairwise_append] at this
      exact this.2.1
    have hB' := List.pairwise_cons.1 hB
    by_cases e : r.1 = k
    · right
      obtain ⟨k', v⟩ := r
      simp only at e
      subst e
      exact ⟨v, B, rfl, hB'.1⟩
    · left
      have h1 : lt k r.1 = true := by
        cases hk : lt k r.1 with
        | true => rfl
        | false => exact absurd (L.tot _ _ (s.not r (List.mem_cons_self ..)) hk) e
      have h2 : ∀ x ∈ r :: B, lt k x.1 = true := fun x hx => by
        rcases List.mem_cons.1 hx with rfl | hx
        · exact h1
        · exact L.tr _ _ _ h1 (hB'.1 x hx)
      refine ⟨fun hk => ?_, h2⟩
      obtain ⟨x, hx, ex⟩ := List.mem_map.1 hk
      rw [s.eq] at hx
      rcases List.mem_append.1 hx with hx | hx
      · exact hAk x hx ex
      · have := h2 x hx
        rw [ex, L.irr] at this
        cases this
/-- those below stay below, those above above: the key between them -/
theorem Sp.rise (L : Lin lt) {l : Rows α} (h : Rise lt l) {k : α} {A B B' : Rows α} (s : Sp lt l k A B) (hs : B'.Sublist B) (hB : ∀ r ∈ B', lt k r.1 = true) (v : Int) : Rise lt (A ++ (k, v) :: B') := by
  unfold Rise at h ⊢
  rw [s.eq, List.pairwise_append] at h
  rw [List.pairwise_append, List.pairwise_cons]
  refine ⟨h.1, ⟨hB, h.2.1.sublist hs⟩, fun a ha b hb => ?_⟩
  rcases List.mem_cons.1 hb with rfl | hb
  · exact s.below a ha
  · exact h.2.2 a ha b (hs.subset hb)
theorem Sp.rise_cut {l : Rows α} (h : Rise lt l) {k : α} {A B B' : Rows α} (s : Sp lt l k A B) (hs : B'.Sublist B) : Rise lt (A ++ B') := by
  unfold Rise at h ⊢
  rw [s.eq] at h
  exact h.sublist (List.Sublist.append_left hs A)
/-- how many are below -/
theorem Sp.count {l : Rows α} {k : α} {A B : Rows α} (s : Sp lt l k A B) : l.countP (fun r => lt r.1 k) = A.length := by
  rw [s.eq, List.countP_append, List.countP_eq_length.2 (fun r hr => s.below r hr), List.countP_eq_zero.2 (fun r hr => by rw [s.not r hr]; simp)]
  omega
theorem Sp.mem_iff {l : Rows α} {k : α} {v : Int} {A B' : Rows α} (s : Sp lt l k A ((k, v) :: B')) : k ∈ l.map (·.1) := by
  rw [s.eq]; simp
/-- another key -/
def other (lt : α → α → Bool) (k : α) (r : α × Int) : Bool := lt r.1 k || lt k r.1
theorem other_iff (L : Lin lt) (k : α) (r : α × Int) : other lt k r = true ↔ r.1 ≠ k := by
  unfold other
  constructor
  · intro h e
    rw [e, L.irr] at h
    simp at h
  · intro h
    cases h1 : lt r.1 k with
    | true => rfl
    | false =>
      cases h2 : lt k r.1 with
      | true => rfl
      | false => exact absurd (L.tot _ _ h1 h2) h
theorem other_self (L : Lin lt) (k : α) (v : Int) : other lt k (k, v) = false := by simp [other, L.irr]
theorem Sp.filter_there (L : Lin lt) {l : Rows α} {k : α} {v : Int} {A B' : Rows α} (s : Sp lt l k A ((k, v) :: B')) (hB : ∀ r ∈ B', lt k r.1 = true) : l.filter (other lt k) = A ++ B' := by
  rw [s.eq, List.filter_append, List.filter_cons, other_self L]
  simp only [Bool.false_eq_true, if_false]
  congr 1
  · exact List.filter_eq_self.2 fun r hr => by simp [other, s.below r hr]
  · exact List.filter_eq_self.2 fun r hr => by simp [other, hB r hr]
theorem filter_absent (L : Lin lt) {l : Rows α} {k : α} (h : k ∉ l.map (·.1)) : l.filter (other lt k) = l :=
  List.filter_eq_self.2 fun r hr => (other_iff L k r).2 fun e => h (List.mem_map.2 ⟨r, hr, e⟩)
end Tb
end Go.Proofs.YtijmijokgenflaaGreatDoor
