/- Heaps of sorted, plain: rise and sink make a heap of one that is none at one place; of a heap the first is first. -/
import Derived.Test.YtiadljcfcncbkaaHpPure
import Derived.Test.YtiadljcfcncbkaaHpSteady
namespace Go.Proofs.Ytiadljcfcncbkaa
open Hp
set_option linter.unusedVariables false

/-- an order: of two that are behind one another none is ahead -/
structure WO (lt : E → E → Bool) : Prop where
  asymm : ∀ a b, lt a b = true → lt b a = false
  trans : ∀ a b c, lt b a = false → lt c b = false → lt c a = false
def IsHeap (lt : E → E → Bool) (l : List E) : Prop := ∀ i, 0 < i → i < l.length → lt (l.getD i d) (l.getD ((i - 1) / 2) d) = false
theorem sw_get (l : List E) (i j m : Nat) (hi : i < l.length) (hj : j < l.length) : (sw l i j).getD m d = if m = j then l.getD i d else if m = i then l.getD j d else l.getD m d := by
  unfold sw
  simp only [List.getD, List.getElem?_set, List.length_set]
  by_cases h1 : m = j
  · subst h1; simp [hj]
  · by_cases h2 : m = i
    · subst h2; simp [hi, h1, Ne.symm h1]
    · simp [h1, h2, Ne.symm h1, Ne.symm h2]
theorem heap_first {lt : E → E → Bool} (W : WO lt) {l : List E} (h : IsHeap lt l) : ∀ i, i < l.length → lt (l.getD i d) (l.getD 0 d) = false := by
  intro i
  induction i using Nat.strongRecOn with
  | ind i ih =>
    intro hi
    by_cases h0 : i = 0
    · subst h0
      cases e : lt (l.getD 0 d) (l.getD 0 d) with
      | false => rfl
      | true => have := W.asymm _ _ e; rw [e] at this; exact this
    · exact W.trans _ _ _ (ih ((i - 1) / 2) (by omega) (by omega)) (h i (by omega) hi)
/-- a heap but for what stands at k and above it -/
structure RI (lt : E → E → Bool) (l : List E) (k : Nat) : Prop where
  at_ : ∀ i, 0 < i → i < l.length → i ≠ k → lt (l.getD i d) (l.getD ((i - 1) / 2) d) = false
  by_ : ∀ i, 0 < i → i < l.length → (i - 1) / 2 = k → 0 < k → lt (l.getD i d) (l.getD ((k - 1) / 2) d) = false
theorem riseF_heap {lt : E → E → Bool} (W : WO lt) : ∀ f l k, k < l.length → k ≤ f → RI lt l k → IsHeap lt (riseF lt f l k) := by
  intro f
  induction f with
  | zero =>
    intro l k hk hf h
    rw [riseF]
    exact fun i h0 hi => h.at_ i h0 hi (by omega)
  | succ f ih =>
    intro l k hk hf h
    rw [riseF]
    split
    · rename_i h0
      exact fun i h1 hi => h.at_ i h1 hi (by omega)
    · rename_i h0
      split
      · rename_i hlt
        have hp : (k - 1) / 2 < l.length := by omega
        refine ih _ _ (by rw [sw_len]; exact hp) (by omega) ⟨?_, ?_⟩
        · intro i h1 hi hne
          rw [sw_len] at hi
          rw [sw_get l k _ i hk hp, sw_get l k _ ((i - 1) / 2) hk hp, if_neg hne]
          by_cases hik : i = k
          · subst hik
            rw [if_pos rfl, if_pos rfl]
            exact W.asymm _ _ hlt
          · rw [if_neg hik]
            by_cases hpk : (i - 1) / 2 = k
            · rw [if_neg (by omega), if_pos hpk]
              exact h.by_ i h1 hi hpk (by omega)
            · by_cases hpp : (i - 1) / 2 = (k - 1) / 2
              · rw [if_pos hpp]
                have e := h.at_ i h1 hi hik
                rw [hpp] at e
                exact W.trans _ _ _ (W.asymm _ _ hlt) e
              · rw [if_neg hpp, if_neg hpk]
                exact h.at_ i h1 hi hik
        · intro i h1 hi hpi h0p
          rw [sw_len] at hi
          have hpar := h.at_ ((k - 1) / 2) h0p hp (by omega)
          rw [sw_get l k _ i hk hp, sw_get l k _ _ hk hp, if_neg (show ¬ i = (k - 1) / 2 by omega), if_neg (show ¬ ((k - 1) / 2 - 1) / 2 = (k - 1) / 2 by omega), if_neg (show ¬ ((k - 1) / 2 - 1) / 2 = k by omega)]
          by_cases hik : i = k
          · rw [if_pos hik]; exact hpar
          · rw [if_neg hik]
            have e := h.at_ i h1 hi hik
            rw [hpi] at e
            exact W.trans _ _ _ hpar e
      · rename_i hlt
        intro i h1 hi
        by_cases hik : i = k
        · subst hik; simpa using hlt
        · exact h.at_ i h1 hi hik
theorem rise_heap {lt : E → E → Bool} (W : WO lt) (l : List E) (e : E) (h : IsHeap lt l) : IsHeap lt (rise lt (l ++ [e])) := by
  unfold rise
  refine riseF_heap W _ _ _ (by simp) (by omega) ⟨fun i h0 hi hne => ?_, fun i h0 hi hp h1 => ?_⟩
  · rw [List.length_append, List.length_singleton] at hi hne
    have e1 : ∀ j, j < l.length → (l ++ [e]).getD j d = l.getD j d := fun j hj => by simp [List.getD, List.getElem?_append_left hj]
    rw [e1 i (by omega), e1 _ (by omega)]
    exact h i h0 (by omega)
  · rw [List.length_append, List.length_singleton] at hi hp
    omega
/-- a heap but for what stands at k and below it -/
structure SI (lt : E → E → Bool) (l : List E) (k : Nat) : Prop where
  at_ : ∀ i, 0 < i → i < l.length → (i - 1) / 2 ≠ k → lt (l.getD i d) (l.getD ((i - 1) / 2) d) = false
  by_ : ∀ i, 0 < i → i < l.length → (i - 1) / 2 = k → 0 < k → lt (l.getD i d) (l.getD ((k - 1) / 2) d) = false
theorem nxt_is (lt : E → E → Bool) (W : WO lt) (l : List E) (k : Nat) (h : 2 * k + 1 < l.length) : (nxt lt l k - 1) / 2 = k ∧ ∀ i, 0 < i → i < l.length → (i - 1) / 2 = k → lt (l.getD i d) (l.getD (nxt lt l k) d) = false := by
  have irr : ∀ a, lt a a = false := fun a => by
    cases e : lt a a with
    | false => rfl
    | true => have := W.asymm _ _ e; rw [e] at this; exact this
  unfold nxt
  split
  · rename_i hc
    refine ⟨by omega, fun i h0 hi hp => ?_⟩
    rcases (show i = 2 * k + 1 ∨ i = 2 * k + 2 by omega) with rfl | rfl
    · exact W.asymm _ _ hc.2
    · exact irr _
  · rename_i hc
    refine ⟨by omega, fun i h0 hi hp => ?_⟩
    rcases (show i = 2 * k + 1 ∨ i = 2 * k + 2 by omega) with rfl | rfl
    · exact irr _
    · cases e : lt (l.getD (2 * k + 2) d) (l.getD (2 * k + 1) d) with
      | false => rfl
      | true => exact absurd ⟨hi, e⟩ hc
theorem sinkF_heap {lt : E → E → Bool} (W : WO lt) : ∀ f l k, l.length ≤ k + f → SI lt l k → IsHeap lt (sinkF lt f l k) := by
  intro f
  induction f with
  | zero =>
    intro l k hf h
    rw [sinkF]
    exact fun i h0 hi => h.at_ i h0 hi (by omega)
  | succ f ih =>
    intro l k hf h
    rw [sinkF]
    split
    · rename_i h2
      obtain ⟨hc, hm⟩ := nxt_is lt W l k h2
      have hl := nxt_lt lt l k h2
      generalize nxt lt l k = c at hc hm hl ⊢
      split
      · rename_i hlt
        refine ih _ _ (by rw [sw_len]; omega) ⟨fun i h0 hi hne => ?_, fun i h0 hi hp h1 => ?_⟩
        · rw [sw_len] at hi
          rw [sw_get l k c i (by omega) hl.1, sw_get l k c ((i - 1) / 2) (by omega) hl.1, if_neg hne]
          by_cases hic : i = c
          · subst hic
            rw [if_pos rfl, if_pos hc]
            exact W.asymm _ _ hlt
          · rw [if_neg hic]
            by_cases hpk : (i - 1) / 2 = k
            · rw [if_pos hpk, if_neg (by omega)]
              exact hm i h0 hi hpk
            · rw [if_neg hpk]
              by_cases hik : i = k
              · subst hik
                rw [if_pos rfl]
                exact h.by_ c (by omega) hl.1 hc h0
              · rw [if_neg hik]
                exact h.at_ i h0 hi hpk
        · rw [sw_len] at hi
          rw [sw_get l k c i (by omega) hl.1, sw_get l k c ((c - 1) / 2) (by omega) hl.1, if_neg (by omega), if_neg (by omega), if_neg (by omega), if_pos hc]
          have e := h.at_ i h0 hi (by omega)
          rw [hp] at e
          exact e
      · rename_i hlt
        intro i h0 hi
        by_cases hpk : (i - 1) / 2 = k
        · rw [hpk]
          exact W.trans _ _ _ (by simpa using hlt) (hm i h0 hi hpk)
        · exact h.at_ i h0 hi hpk
    · exact fun i h0 hi => h.at_ i h0 hi (by omega)
theorem left_heap {lt : E → E → Bool} (W : WO lt) (l : List E) (h : IsHeap lt l) : IsHeap lt (Hp.left lt l) := by
  unfold Hp.left Hp.sink
  refine sinkF_heap W _ _ _ (by omega) ⟨fun i h0 hi hne => ?_, fun i h0 hi hp h1 => by omega⟩
  rw [List.length_take, List.length_set] at hi
  have e1 : ∀ j, 0 < j → j < l.length - 1 → ((l.set 0 (l.getD (l.length - 1) d)).take (l.length - 1)).getD j d = l.getD j d := fun j h0 hj => by
    simp only [List.getD, List.getElem?_take, hj, if_true, List.getElem?_set]
    rw [if_neg (by omega)]
  rw [e1 i h0 (by omega), e1 _ (by omega) (by omega)]
  exact h i h0 (by omega)
theorem heap_nil (lt : E → E → Bool) : IsHeap lt [] := fun i _ hi => by simp at hi
/-- replacing the first -/
theorem swap_heap {lt : E → E → Bool} (W : WO lt) (l : List E) (e : E) (h : IsHeap lt l) : IsHeap lt (Hp.sink lt (l.set 0 e)) := by
  unfold Hp.sink
  refine sinkF_heap W _ _ _ (by omega) ⟨fun i h0 hi hne => ?_, fun i h0 hi hp h1 => by omega⟩
  rw [List.length_set] at hi
  have e1 : ∀ j, 0 < j → (l.set 0 e).getD j d = l.getD j d := fun j h0 => by
    simp only [List.getD, List.getElem?_set]
    rw [if_neg (by omega)]
  rw [e1 i h0, e1 _ (by omega)]
  exact h i h0 hi
/-- the order of steady: of numbers by an order, then by turns -/
theorem steady_wo (lt : Int → Int → Bool) (h1 : ∀ a b, lt a b = true → lt b a = false) (h2 : ∀ a b c, lt b a = false → lt c b = false → lt c a = false) : WO (Hp.steady lt) := by
  refine ⟨fun a b h => ?_, fun a b c h h' => ?_⟩
  · simp only [Hp.steady, Bool.or_eq_true, Bool.and_eq_true, Bool.not_eq_true', decide_eq_true_eq, Bool.or_eq_false_iff, Bool.and_eq_false_iff, Bool.not_eq_false', decide_eq_false_iff_not] at h ⊢
    rcases h with h | ⟨h, h3⟩
    · exact ⟨h1 _ _ h, .inr h⟩
    · exact ⟨h3, .inl (by omega)⟩
  · simp only [Hp.steady, Bool.or_eq_false_iff, Bool.and_eq_false_iff, Bool.not_eq_false', decide_eq_false_iff_not] at h h' ⊢
    obtain ⟨x1, x2⟩ := h
    obtain ⟨y1, y2⟩ := h'
    refine ⟨h2 _ _ _ x1 y1, ?_⟩
    rcases x2 with x2 | x2
    · rcases y2 with y2 | y2
      · exact .inl (by omega)
      · right
        cases e : lt a.1 c.1 with
        | true => rfl
        | false => have := h2 _ _ _ e x1; rw [y2] at this; cases this
    · right
      cases e : lt a.1 c.1 with
      | true => rfl
      | false => have := h2 _ _ _ y1 e; rw [x2] at this; cases this
end Go.Proofs.Ytiadljcfcncbkaa
