/- sorted's Merge, plain: what holds behind each round. -/
import Derived.Test.YtiadljcfcncbkaaHpStart
namespace Go.Proofs.Ytiadljcfcncbkaa
open Hp
set_option linter.unusedVariables false

section
variable (lt : Int → Int → Bool) (LL : List (List Int))
structure RInv (s : MS) : Prop where
  len : s.at_.length = LL.length
  dom : ∀ e ∈ s.l, domM LL s.at_ e.1
  nodup : (s.l.map (·.1)).Nodup
  many : s.l.length ≤ LL.length
  sum : s.out.length = s.at_.sum
  turn : s.turn ≤ LL.length + s.out.length
  le : ∀ I, I < LL.length → s.at_.getD I 0 ≤ (LL.getD I []).length
theorem SInv.run {s : MS} (i : SInv LL LL.length s) (h : s.out = []) : RInv LL s :=
  ⟨by rw [i.at_, List.length_replicate], fun e he => (i.dom e he).1, i.nodup, i.len, by rw [h, i.at_]; simp, by have := i.turn; omega, fun I hI => by rw [i.at_]; simp only [List.getD, List.getElem?_replicate]; rw [if_pos hI]; exact Nat.zero_le _⟩
theorem start_out : ∀ k, (MS.start lt LL k).out = []
  | 0 => rfl
  | k + 1 => by
    unfold MS.start
    split
    · exact start_out k
    · exact start_out k
theorem set_sum : ∀ (l : List Nat) (i : Nat), i < l.length → (l.set i (l.getD i 0 + 1)).sum = l.sum + 1
  | a :: l, 0, _ => by simp; omega
  | a :: l, i + 1, h => by
    have := set_sum l i (by simpa using h)
    simp only [List.set_cons_succ, List.getD_cons_succ, List.sum_cons]
    omega
/-- who comes next, and who is left -/
theorem who_dom {s : MS} (i : RInv LL s) (h : 0 < s.l.length) : ((s.l.getD 0 d).1 = (s.who : Int)) ∧ s.who < LL.length ∧ s.at_.getD s.who 0 < (LL.getD s.who []).length := by
  obtain ⟨I, h1, h2, h3⟩ := i.dom _ (show s.l.getD 0 d ∈ s.l by rw [getD_eq h]; exact List.getElem_mem h)
  have e : s.who = I := by unfold MS.who; rw [h1, Int.toNat_natCast]
  rw [e]
  exact ⟨h1, h2, h3⟩
theorem told_inv {s : MS} (i : RInv LL s) (h : 0 < s.l.length) : RInv LL (s.told lt LL) ∧ (∀ e ∈ (s.told lt LL).l, e.1 ≠ (s.who : Int)) ∧ (s.told lt LL).l.length + 1 = s.l.length ∧ (s.told lt LL).at_.getD s.who 0 = s.at_.getD s.who 0 + 1 := by
  obtain ⟨h1, h2, h3⟩ := who_dom LL i h
  have hp := left_perm (mlt lt LL s.at_) s.l h
  have hnd := ((hp.map (·.1)).nodup_iff).2 i.nodup
  rw [List.map_cons, List.nodup_cons] at hnd
  have hne : ∀ e ∈ Hp.left (mlt lt LL s.at_) s.l, e.1 ≠ (s.who : Int) := fun e he hh => hnd.1 (by rw [h1, ← hh]; exact List.mem_map.2 ⟨e, he, rfl⟩)
  have hlen := hp.length_eq
  rw [List.length_cons] at hlen
  refine ⟨⟨?_, ?_, hnd.2, ?_, ?_, ?_, ?_⟩, hne, hlen, ?_⟩
  · show (s.at_.set _ _).length = _
    rw [List.length_set]; exact i.len
  · intro e he
    obtain ⟨J, j1, j2, j3⟩ := i.dom e (hp.mem_iff.1 (List.mem_cons_of_mem _ he))
    refine ⟨J, j1, j2, ?_⟩
    show (s.at_.set s.who _).getD J 0 < _
    have hJ : s.who ≠ J := fun e2 => hne e he (by rw [j1, e2])
    simp only [List.getD, List.getElem?_set_ne hJ]
    exact j3
  · show (Hp.left (mlt lt LL s.at_) s.l).length ≤ _
    have := i.many
    omega
  · show (s.out ++ [_]).length = (s.at_.set _ _).sum
    rw [List.length_append, List.length_singleton, set_sum _ _ (by rw [i.len]; exact h2), i.sum]
  · show s.turn ≤ LL.length + (s.out ++ [_]).length
    rw [List.length_append, List.length_singleton]
    have := i.turn
    omega
  · intro J hJ
    show (s.at_.set s.who _).getD J 0 ≤ _
    by_cases e : s.who = J
    · subst e
      rw [List.getD, List.getElem?_set_self (by rw [i.len]; exact h2)]
      exact h3
    · simp only [List.getD, List.getElem?_set_ne e]
      exact i.le J hJ
  · show (s.at_.set s.who (s.at_.getD s.who 0 + 1)).getD s.who 0 = _
    rw [List.getD, List.getElem?_set_self (by rw [i.len]; exact h2)]
    rfl
theorem push_inv {s : MS} (i : RInv LL s) (I : Nat) (h1 : I < LL.length) (h2 : s.at_.getD I 0 < (LL.getD I []).length) (h3 : ∀ e ∈ s.l, e.1 ≠ (I : Int)) (h4 : s.l.length < LL.length) (h5 : s.turn < LL.length + s.out.length) : RInv LL (s.push lt LL I) := by
  have hp : (s.push lt LL I).l.Perm (s.l ++ [((I : Int), (s.turn : Int))]) := rise_perm _ _ (by simp)
  refine ⟨i.len, ?_, ?_, ?_, i.sum, h5, i.le⟩
  · intro e he
    rcases List.mem_append.1 (hp.mem_iff.1 he) with he | he
    · exact i.dom e he
    · rw [List.mem_singleton.1 he]; exact ⟨I, rfl, h1, h2⟩
  · refine (hp.map (·.1)).nodup_iff.2 ?_
    rw [List.map_append, List.map_cons, List.map_nil, List.nodup_append]
    refine ⟨i.nodup, by simp, ?_⟩
    intro a ha b hb hab
    obtain ⟨e, he, rfl⟩ := List.mem_map.1 ha
    rw [List.mem_singleton.1 hb] at hab
    exact h3 e he hab
  · rw [hp.length_eq, List.length_append, List.length_singleton]; omega
theorem sum_le_all : ∀ (a : List Nat) (LL : List (List Int)), a.length = LL.length → (∀ I, I < LL.length → a.getD I 0 ≤ (LL.getD I []).length) → a.sum ≤ (LL.map (·.length)).sum
  | [], [], _, _ => Nat.le_refl _
  | x :: a, l :: LL, h, hh => by
    have h0 := hh 0 (by simp)
    have ih := sum_le_all a LL (by simpa using h) (fun I hI => by simpa using hh (I + 1) (by simpa using hI))
    simp only [List.map_cons, List.sum_cons]
    simp only [List.getD_cons_zero] at h0
    omega
theorem RInv.total {s : MS} (i : RInv LL s) : s.out.length ≤ (LL.map (·.length)).sum := by rw [i.sum]; exact sum_le_all _ _ i.len i.le
theorem step_inv {s : MS} (i : RInv LL s) (h : 0 < s.l.length) : RInv LL (s.step lt LL) ∧ (s.step lt LL).out.length = s.out.length + 1 := by
  obtain ⟨t1, t2, t3, t4⟩ := told_inv lt LL i h
  have ho : (s.told lt LL).out.length = s.out.length + 1 := by show (s.out ++ [_]).length = _; simp
  unfold MS.step
  split
  · rename_i hc
    have := i.many
    have := i.turn
    exact ⟨push_inv lt LL t1 s.who (who_dom LL i h).2.1 hc t2 (by omega) (by rw [ho]; show s.turn < _; omega), ho⟩
  · exact ⟨t1, ho⟩
end
end Go.Proofs.Ytiadljcfcncbkaa
