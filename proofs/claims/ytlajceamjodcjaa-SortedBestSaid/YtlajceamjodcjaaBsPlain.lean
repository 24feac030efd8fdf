/- sorted's best ones, plain: what is kept of all that were offered; what Take tells. -/
import Derived.Test.YtlajceamjodcjaaBsTake
import Derived.Test.YtlajceamjodcjaaHpMerged
namespace Go.Proofs.Ytlajceamjodcjaa
open Hp
set_option linter.unusedVariables false

/-- the last ones first -/
def bk : E → E → Bool := fun x y => Hp.steady lessKey y x
theorem bk_wo : WO bk := ⟨fun a b h => lessKey_wo.asymm _ _ h, fun a b c h h' => lessKey_wo.trans c b a h' h⟩
/-- the best ones of those that were offered -/
structure Kept (k : Int) (l : List E) (off : List Int) : Prop where
  heap : IsHeap bk l
  le : (l.length : Int) ≤ k
  rest : ∃ rest : List E, ((l ++ rest).map (·.1)).Perm off ∧ (∀ a ∈ l, ∀ r ∈ rest, Hp.steady lessKey r a = false) ∧ ((l.length : Int) < k → rest = [])
theorem Kept.nil (k : Int) (hk : 0 < k) : Kept k [] [] := ⟨heap_nil _, by simp; omega, [], List.Perm.refl _, by simp, fun _ => rfl⟩
theorem Kept.step {k : Int} {l : List E} {off : List Int} (hk : 0 < k) (i : Kept k l off) (x t : Int) : Kept k (bOffer bk k l (x, t)) (off ++ [x]) := by
  obtain ⟨rest, hp, hr, he⟩ := i.rest
  unfold bOffer
  split
  · rename_i hlt
    have h0 := he hlt
    subst h0
    have hpr := rise_perm bk (l ++ [(x, t)]) (by simp)
    refine ⟨rise_heap bk_wo _ _ i.heap, by rw [hpr.length_eq, List.length_append, List.length_singleton]; omega, [], ?_, by simp, fun _ => rfl⟩
    rw [List.append_nil] at hp ⊢
    refine (hpr.map (·.1)).trans ?_
    rw [List.map_append]
    exact hp.append (List.Perm.refl _)
  · rename_i hlt
    have hle := i.le
    have h0 : 0 < l.length := by omega
    obtain ⟨f, s, rfl⟩ : ∃ f s, l = f :: s := by
      cases l with
      | nil => simp at h0
      | cons f s => exact ⟨f, s, rfl⟩
    have hf : ∀ a ∈ f :: s, Hp.steady lessKey f a = false := fun a ha => by
      obtain ⟨m, hm, rfl⟩ := List.getElem_of_mem ha
      have := heap_first bk_wo i.heap m hm
      rw [getD_eq hm] at this
      exact this
    split
    · rename_i hb
      have hb' : Hp.steady lessKey (x, t) f = true := hb
      have hlen : (Hp.sink bk ((f :: s).set 0 (x, t))).length = (f :: s).length := by rw [sink_len, List.length_set]
      have hps : (Hp.sink bk ((f :: s).set 0 (x, t))).Perm ((x, t) :: s) := sinkF_perm bk _ _ _
      refine ⟨swap_heap bk_wo _ _ i.heap, by rw [hlen]; exact hle, f :: rest, ?_, ?_, fun h => by rw [hlen] at h; omega⟩
      · have h1 : (Hp.sink bk ((f :: s).set 0 (x, t)) ++ f :: rest).Perm ((x, t) :: (f :: s ++ rest)) := by
          refine (hps.append_right _).trans ?_
          rw [List.cons_append, List.cons_append]
          exact List.Perm.cons _ List.perm_middle
        refine (h1.map (·.1)).trans ?_
        rw [List.map_cons]
        exact (List.Perm.cons _ hp).trans (List.perm_append_comm (l₁ := [x]) (l₂ := off))
      · intro a ha r hr'
        have hfe : Hp.steady lessKey f (x, t) = false := lessKey_wo.asymm _ _ hb'
        rcases List.mem_cons.1 (hps.mem_iff.1 ha) with rfl | ha2
        · rcases List.mem_cons.1 hr' with rfl | hr'
          · exact hfe
          · exact lessKey_wo.trans _ f _ hfe (hr f (List.mem_cons_self ..) r hr')
        · have hfa := hf a (List.mem_cons_of_mem _ ha2)
          have hra := hr a (List.mem_cons_of_mem _ ha2)
          rcases List.mem_cons.1 hr' with rfl | hr'
          · exact hfa
          · exact hra r hr'
    · rename_i hb
      have hb' : Hp.steady lessKey (x, t) f = false := by simpa [bk] using hb
      refine ⟨i.heap, hle, (x, t) :: rest, ?_, ?_, fun h => absurd h hlt⟩
      · have h1 : (f :: s ++ (x, t) :: rest).Perm ((x, t) :: (f :: s ++ rest)) := List.perm_middle
        refine (h1.map (·.1)).trans ?_
        rw [List.map_cons]
        exact (List.Perm.cons _ hp).trans (List.perm_append_comm (l₁ := [x]) (l₂ := off))
      · intro a ha r hr'
        rcases List.mem_cons.1 hr' with rfl | hr'
        · exact lessKey_wo.trans a f _ (hf a ha) hb'
        · exact hr a ha r hr'
theorem takeF_is : ∀ (n : Nat) (l : List E), l.length = n → IsHeap bk l → (takeF bk n l).Perm (l.map (·.1)) ∧ (takeF bk n l).Pairwise fun a b => key10 a ≤ key10 b
  | 0, l, h, _ => by
    obtain rfl := List.eq_nil_of_length_eq_zero h
    exact ⟨List.Perm.refl _, List.Pairwise.nil⟩
  | n + 1, l, h, hh => by
    have hp := left_perm bk l (by omega)
    obtain ⟨i1, i2⟩ := takeF_is n (Hp.left bk l) (by rw [left_len]; omega) (left_heap bk_wo l hh)
    rw [takeF]
    refine ⟨?_, ?_⟩
    · refine (i1.append_right _).trans ?_
      refine (List.perm_append_comm (l₂ := [(l.getD 0 d).1])).trans ?_
      have := hp.map (·.1)
      rwa [List.map_cons] at this
    · rw [List.pairwise_append]
      refine ⟨i2, by simp, fun a ha b hb => ?_⟩
      rw [List.mem_singleton.1 hb]
      obtain ⟨e, he, rfl⟩ := List.mem_map.1 (i1.mem_iff.1 ha)
      have he' : e ∈ l := hp.mem_iff.1 (List.mem_cons_of_mem _ he)
      obtain ⟨m, hm, rfl⟩ := List.getElem_of_mem he'
      have := heap_first bk_wo hh m hm
      rw [getD_eq hm] at this
      simp only [bk, Hp.steady, Bool.or_eq_false_iff, lessKey, decide_eq_false_iff_not] at this
      omega
theorem keysOf_app (a b : List Int) : keysOf (a ++ b) = keysOf a ++ keysOf b := by simp [keysOf]
/-- what is told is the first of what is in order -/
theorem Kept.told {k : Int} {l : List E} {off : List Int} (i : Kept k l off) : keysOf (takeF bk l.length l) = keysOf ((sortK off).take l.length) ∧ (l.length : Int) = min k (off.length : Int) ∧ ∀ y ∈ takeF bk l.length l, y ∈ off := by
  obtain ⟨rest, hp, hr, he⟩ := i.rest
  obtain ⟨t1, t2⟩ := takeF_is l.length l rfl i.heap
  have hlen := hp.length_eq
  simp only [List.length_map, List.length_append] at hlen
  have hle := i.le
  refine ⟨?_, ?_, fun y hy => hp.mem_iff.1 (by rw [List.map_append]; exact List.mem_append_left _ (t1.mem_iff.1 hy))⟩
  · have hK2 : ((keysOf (rest.map (·.1))).mergeSort fun x y => decide (x ≤ y)).Perm (keysOf (rest.map (·.1))) := List.mergeSort_perm _ _
    have hs2 : ((keysOf (rest.map (·.1))).mergeSort fun x y => decide (x ≤ y)).Pairwise (· ≤ ·) := by
      have := List.pairwise_mergeSort (le := fun x y : Int => decide (x ≤ y)) (fun a b c => by simp; omega) (fun a b => by simp; omega) (keysOf (rest.map (·.1)))
      exact this.imp fun h => by simpa using h
    generalize (keysOf (rest.map (·.1))).mergeSort (fun x y => decide (x ≤ y)) = K2 at hK2 hs2
    have hs1 : (keysOf (takeF bk l.length l)).Pairwise (· ≤ ·) := by unfold keysOf; rw [List.pairwise_map]; exact t2
    have hall : (keysOf (takeF bk l.length l) ++ K2).Pairwise (· ≤ ·) := by
      rw [List.pairwise_append]
      refine ⟨hs1, hs2, fun a ha b hb => ?_⟩
      obtain ⟨y, hy, rfl⟩ := List.mem_map.1 ha
      obtain ⟨z, hz, rfl⟩ := List.mem_map.1 (hK2.mem_iff.1 hb)
      obtain ⟨e, he', rfl⟩ := List.mem_map.1 (t1.mem_iff.1 hy)
      obtain ⟨r, hr', rfl⟩ := List.mem_map.1 hz
      have := hr e he' r hr'
      simp only [Hp.steady, Bool.or_eq_false_iff, lessKey, decide_eq_false_iff_not] at this
      omega
    have hsk : (keysOf (sortK off)).Pairwise (· ≤ ·) := by unfold keysOf sortK; rw [List.pairwise_map]; exact sortTo_sorted off 10
    have hperm : (keysOf (takeF bk l.length l) ++ K2).Perm (keysOf (sortK off)) := by
      refine ((t1.map key10).append hK2).trans ?_
      have h1 := (hp.map key10).trans ((sortK_perm off).map key10).symm
      rw [List.map_append, List.map_append] at h1
      exact h1
    have heq := List.Perm.eq_of_pairwise (le := (· ≤ ·)) (fun a b _ _ h1 h2 => by omega) hall hsk hperm
    have htk : keysOf ((sortK off).take l.length) = (keysOf (sortK off)).take l.length := by unfold keysOf; rw [List.map_take]
    rw [htk, ← heq, List.take_left']
    simp [keysOf, takeF_len]
  · by_cases hlt : (l.length : Int) < k
    · have h0 := he hlt
      subst h0
      simp at hlen
      omega
    · omega
end Go.Proofs.Ytlajceamjodcjaa
