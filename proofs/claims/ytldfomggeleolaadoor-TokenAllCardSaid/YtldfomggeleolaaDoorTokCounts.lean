/- How many tokens there are; how they stand: plain. -/
import Derived.Test.YtldfomggeleolaaDoorTokAll
namespace Go.Proofs.YtldfomggeleolaaDoor
open Go Go.RowKit
set_option linter.unusedVariables false

namespace Tok
theorem all_toks (s : ByteArray) : ∀ (l : List (Nat × Nat)) (k : Nat), (∀ x ∈ l, (term s x).size ≤ 20) → ((num k l).filterMap (tok1 s)).length = min l.length (60 - k)
  | [], k, _ => by simp [num]
  | x :: l, k, h => by
    have ih := all_toks s l (k + 1) (fun y hy => h y (by simp [hy]))
    have hx := h x (by simp)
    by_cases hk : k < 60
    · rw [tok1_yes' s k x l hk hx, List.length_cons, ih, List.length_cons]; omega
    · rw [tok1_no' s k x l (fun h => hk h.1), ih, List.length_cons]; omega
where
  tok1_yes' (s : ByteArray) (n : Nat) (x : Nat × Nat) (l : List (Nat × Nat)) (h : n < 60) (h2 : (term s x).size ≤ 20) : (num n (x :: l)).filterMap (tok1 s) = (term s x, n) :: (num (n + 1) l).filterMap (tok1 s) := tok1_yes s n x l h h2
  tok1_no' (s : ByteArray) (n : Nat) (x : Nat × Nat) (l : List (Nat × Nat)) (h : ¬ (n < 60 ∧ (term s x).size ≤ 20)) : (num n (x :: l)).filterMap (tok1 s) = (num (n + 1) l).filterMap (tok1 s) := tok1_no s n x l h
/-- how many words are too long -/
def longs (s : ByteArray) (l : List (Nat × Nat)) : Nat := (l.filter fun x => decide (20 < (term s x).size)).length
theorem longs_zero (s : ByteArray) (h : longs s (spans s) = 0) : (toks s).length = min (spans s).length 60 := by
  unfold toks
  rw [all_toks s (spans s) 0 (fun x hx => ?_)]
  unfold longs at h
  have h2 := List.eq_nil_of_length_eq_zero h
  rw [List.filter_eq_nil_iff] at h2
  have := h2 x hx
  simp at this
  omega
theorem num_mem {α : Type} : ∀ (k : Nat) (l : List α), ∀ x ∈ num k l, x.2 ∈ l
  | _, [], x, h => by simp [num] at h
  | k, y :: l, x, h => by
    rcases List.mem_cons.1 (show x ∈ (k, y) :: num (k + 1) l from h) with rfl | h
    · simp
    · exact List.mem_cons_of_mem _ (num_mem (k + 1) l x h)
theorem toks_each (s : ByteArray) (t : ByteArray × Nat) (h : t ∈ toks s) : single t.1 = true ∧ (⟨(Utf.ft t.1 t.1.size 0).toArray⟩ : ByteArray) = t.1 ∧ t.2 < 60 ∧ t.1.size ≤ 20 := by
  unfold toks at h
  obtain ⟨x, hx, ht⟩ := List.mem_filterMap.1 h
  unfold tok1 at ht
  split at ht
  · rename_i h1
    obtain rfl := Option.some.inj ht
    have := term_word s x.2 (num_mem 0 _ x hx)
    exact ⟨this.1, this.2, h1.1, h1.2⟩
  · cases ht
theorem toks_rise (s : ByteArray) : ∀ (l : List (Nat × Nat)) (k : Nat), ((num k l).filterMap (tok1 s)).Pairwise (fun a b => a.2 < b.2) ∧ ∀ t ∈ (num k l).filterMap (tok1 s), k ≤ t.2
  | [], k => ⟨by simp [num], fun t h => by simp [num] at h⟩
  | x :: l, k => by
    obtain ⟨i1, i2⟩ := toks_rise s l (k + 1)
    by_cases hk : k < 60 ∧ (term s x).size ≤ 20
    · rw [tok1_yes s k x l hk.1 hk.2]
      refine ⟨List.pairwise_cons.2 ⟨fun t ht => ?_, i1⟩, fun t ht => ?_⟩
      · have := i2 t ht; show k < t.2; omega
      · rcases List.mem_cons.1 ht with rfl | ht
        · exact Nat.le_refl _
        · have := i2 t ht; omega
    · rw [tok1_no s k x l hk]
      exact ⟨i1, fun t ht => by have := i2 t ht; omega⟩
theorem toks_lt (s : ByteArray) (i j : Nat) (hi : i < (toks s).length) (hj : j < (toks s).length) (hij : i < j) : (toks s)[i].2 < (toks s)[j].2 :=
  List.pairwise_iff_getElem.1 (toks_rise s (spans s) 0).1 i j hi hj hij
theorem longs_yes (s : ByteArray) (x : Nat × Nat) (l : List (Nat × Nat)) (h : 20 < (term s x).size) : longs s (x :: l) = longs s l + 1 := by
  unfold longs; rw [List.filter_cons_of_pos (by simpa using h)]; rfl
theorem longs_no (s : ByteArray) (x : Nat × Nat) (l : List (Nat × Nat)) (h : ¬ 20 < (term s x).size) : longs s (x :: l) = longs s l := by
  unfold longs; rw [List.filter_cons_of_neg (by simpa using h)]
theorem longs_nil (s : ByteArray) : longs s [] = 0 := rfl
theorem longs_len (s : ByteArray) (l : List (Nat × Nat)) : longs s l ≤ l.length := by unfold longs; exact List.length_filter_le _ _
end Tok
end Go.Proofs.YtldfomggeleolaaDoor
