/- SortedHeaps, plain: a heap by keys, and the numbers that are in it. -/
import Derived.Test.YtlajceamjodcjaaHpMerged
import Derived.Test.YtlajceamjodcjaaSrtLib
namespace Go.Proofs.Ytlajceamjodcjaa
open Hp
set_option linter.unusedVariables false

/-- a heap that has just these numbers -/
structure HasI (h : List E) (l : List Int) : Prop where
  heap : IsHeap (Hp.steady lessKey) h
  perm : (h.map (·.1)).Perm l
theorem HasI.len {h : List E} {l : List Int} (i : HasI h l) : h.length = l.length := by simpa using i.perm.length_eq
theorem HasI.nil : HasI [] [] := ⟨heap_nil _, List.Perm.refl _⟩
theorem HasI.push {h : List E} {l : List Int} (i : HasI h l) (x t : Int) : HasI (Hp.rise (Hp.steady lessKey) (h ++ [(x, t)])) (l ++ [x]) :=
  ⟨rise_heap lessKey_wo _ _ i.heap, ((rise_perm _ _ (by simp)).map (·.1)).trans (by rw [List.map_append]; exact i.perm.append (List.Perm.refl _))⟩
theorem HasI.first {h : List E} {l : List Int} (i : HasI h l) : ∀ s ∈ l, lessKey s (h.getD 0 d).1 = false := by
  intro s hs
  obtain ⟨e, he, rfl⟩ := List.mem_map.1 (i.perm.mem_iff.2 hs)
  obtain ⟨m, hm, rfl⟩ := List.getElem_of_mem he
  have hf := heap_first lessKey_wo i.heap m hm
  rw [getD_eq hm] at hf
  simp only [Hp.steady, Bool.or_eq_false_iff] at hf
  exact hf.1
theorem HasI.pop {h : List E} {l : List Int} (i : HasI h l) (h0 : 0 < h.length) : (h.getD 0 d).1 ∈ l ∧ ((h.getD 0 d).1 :: (Hp.left (Hp.steady lessKey) h).map (·.1)).Perm l ∧ IsHeap (Hp.steady lessKey) (Hp.left (Hp.steady lessKey) h) := by
  have hp := ((left_perm (Hp.steady lessKey) h h0).map (·.1)).trans i.perm
  rw [List.map_cons] at hp
  exact ⟨hp.mem_iff.1 (List.mem_cons_self ..), hp, left_heap lessKey_wo _ i.heap⟩
theorem erase_perm : ∀ (l : List Int) (j : Nat) (h : j < l.length), (l[j] :: l.eraseIdx j).Perm l
  | a :: l, 0, _ => List.Perm.refl _
  | a :: l, j + 1, h => by
    simp only [List.getElem_cons_succ, List.eraseIdx_cons_succ]
    exact (List.Perm.swap _ _ _).trans (List.Perm.cons _ (erase_perm l j (by simpa using h)))
/-- the first is taken out, of the numbers, too -/
theorem HasI.take {h : List E} {l : List Int} (i : HasI h l) (h0 : 0 < h.length) : HasI (Hp.left (Hp.steady lessKey) h) (l.eraseIdx (idxI l (h.getD 0 d).1)) := by
  obtain ⟨h1, h2, h3⟩ := i.pop h0
  have hlt := idxI_lt l _ h1
  have hat := idxI_at l _ hlt
  have hp := erase_perm l _ hlt
  rw [List.getD_eq_getElem?_getD, List.getElem?_eq_getElem hlt, Option.getD_some] at hat
  rw [hat] at hp
  exact ⟨h3, List.Perm.cons_inv (h2.trans hp.symm)⟩
/-- what has come out, in order, and what is left -/
structure OutI (h : List E) (out l : List Int) : Prop where
  heap : IsHeap (Hp.steady lessKey) h
  perm : (out ++ h.map (·.1)).Perm l
  sorted : out.Pairwise fun a b => key10 a ≤ key10 b
  below : ∀ o ∈ out, ∀ e ∈ h, key10 o ≤ key10 e.1
theorem HasI.out {h : List E} {l : List Int} (i : HasI h l) : OutI h [] l := ⟨i.heap, i.perm, List.Pairwise.nil, fun o ho => by simp at ho⟩
theorem OutI.len {h : List E} {out l : List Int} (i : OutI h out l) : out.length + h.length = l.length := by simpa using i.perm.length_eq
theorem OutI.step {h : List E} {out l : List Int} (i : OutI h out l) (h0 : 0 < h.length) : OutI (Hp.left (Hp.steady lessKey) h) (out ++ [(h.getD 0 d).1]) l := by
  have hx : HasI h (h.map (·.1)) := ⟨i.heap, List.Perm.refl _⟩
  obtain ⟨h1, h2, h3⟩ := hx.pop h0
  have hm : ∀ e ∈ Hp.left (Hp.steady lessKey) h, e ∈ h := fun e he => (left_perm (Hp.steady lessKey) h h0).mem_iff.1 (List.mem_cons_of_mem _ he)
  have hd : h.getD 0 d ∈ h := by rw [getD_eq h0]; exact List.getElem_mem h0
  refine ⟨h3, ?_, ?_, ?_⟩
  · rw [List.append_assoc, List.singleton_append]
    exact (List.Perm.append_left _ h2).trans i.perm
  · rw [List.pairwise_append]
    refine ⟨i.sorted, by simp, fun a ha b hb => ?_⟩
    rw [List.mem_singleton.1 hb]
    exact i.below a ha _ hd
  · intro o ho e he
    rcases List.mem_append.1 ho with ho | ho
    · exact i.below o ho e (hm e he)
    · rw [List.mem_singleton.1 ho]
      have := hx.first e.1 (List.mem_map.2 ⟨e, hm e he, rfl⟩)
      simp only [lessKey, decide_eq_false_iff_not] at this
      omega
theorem OutI.keys {out l : List Int} {h : List E} (i : OutI h out l) : (keysOf out).Pairwise (· ≤ ·) := by
  unfold keysOf
  rw [List.pairwise_map]
  exact i.sorted
/-- two lists of the same numbers, sorted -/
theorem sorted_same {a b : List Int} (h : a.Perm b) : a.mergeSort (fun x y => decide (x ≤ y)) = b.mergeSort (fun x y => decide (x ≤ y)) := by
  have hs : ∀ l : List Int, (l.mergeSort fun x y => decide (x ≤ y)).Pairwise (· ≤ ·) := fun l => by
    have := List.pairwise_mergeSort (le := fun x y : Int => decide (x ≤ y)) (fun a b c => by simp; omega) (fun a b => by simp; omega) l
    exact this.imp fun h => by simpa using h
  exact List.Perm.eq_of_pairwise (le := (· ≤ ·)) (fun a b _ _ h1 h2 => by omega) (hs a) (hs b) ((List.mergeSort_perm a _).trans (h.trans (List.mergeSort_perm b _).symm))
end Go.Proofs.Ytlajceamjodcjaa
