/- Heaps of sorted, plain: what they hold stays the same; the first is first. -/
import Derived.Test.YtiadljcfcncbkaaHpPop
namespace Go.Proofs.Ytiadljcfcncbkaa
open Hp
set_option linter.unusedVariables false

theorem getD_eq {l : List E} {i : Nat} (h : i < l.length) : l.getD i d = l[i] := by simp [List.getD, List.getElem?_eq_getElem h]
theorem sw_perm (l : List E) (i j : Nat) (hi : i < l.length) (hj : j < l.length) : (sw l i j).Perm l := by
  unfold sw
  rw [getD_eq hi, getD_eq hj]
  exact List.set_set_perm hi hj
theorem riseF_perm (lt : E → E → Bool) : ∀ f l k, k < l.length → (riseF lt f l k).Perm l := by
  intro f
  induction f with
  | zero => intro l k _; exact List.Perm.refl _
  | succ f ih =>
    intro l k hk
    rw [riseF]
    split
    · exact List.Perm.refl _
    · split
      · exact (ih _ _ (by rw [sw_len]; omega)).trans (sw_perm l _ _ hk (by omega))
      · exact List.Perm.refl _
theorem rise_perm (lt : E → E → Bool) (l : List E) (h : 0 < l.length) : (rise lt l).Perm l := riseF_perm lt _ l _ (by omega)
theorem sinkF_perm (lt : E → E → Bool) : ∀ f l k, (sinkF lt f l k).Perm l := by
  intro f
  induction f with
  | zero => intro l k; exact List.Perm.refl _
  | succ f ih =>
    intro l k
    rw [sinkF]
    split
    · rename_i h
      have hn := nxt_lt lt l k h
      split
      · exact (ih _ _).trans (sw_perm l _ _ (by omega) hn.1)
      · exact List.Perm.refl _
    · exact List.Perm.refl _
/-- the first, and what is left, are all -/
theorem left_perm (lt : E → E → Bool) (l : List E) (h : 0 < l.length) : (l.getD 0 d :: Hp.left lt l).Perm l := by
  unfold Hp.left Hp.sink
  refine (List.Perm.cons _ (sinkF_perm lt _ _ _)).trans ?_
  obtain ⟨a, t, rfl⟩ : ∃ a t, l = a :: t := by
    cases l with
    | nil => simp at h
    | cons a t => exact ⟨a, t, rfl⟩
  simp only [List.getD_cons_zero, List.length_cons, Nat.add_sub_cancel]
  refine List.Perm.cons _ ?_
  rcases List.eq_nil_or_concat t with rfl | ⟨t', b, rfl⟩
  · exact List.Perm.refl _
  · have hb : (a :: (t' ++ [b])).getD (t' ++ [b]).length d = b := by
      simp [List.getD]
    simp only [List.concat_eq_append] at *
    rw [hb, List.set_cons_zero]
    have : (b :: (t' ++ [b])).take (t' ++ [b]).length = b :: t' := by
      rw [List.length_append, List.length_singleton, List.take_succ_cons, List.take_left']
      rfl
    rw [this]
    exact (List.perm_append_comm (l₁ := [b]) (l₂ := t'))
end Go.Proofs.Ytiadljcfcncbkaa
