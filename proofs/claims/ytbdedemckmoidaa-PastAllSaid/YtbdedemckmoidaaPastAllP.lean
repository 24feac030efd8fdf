/- What one who has the floor is told: plain. -/
import Derived.Test.YtbdedemckmoidaaPastAdd
namespace Go.Proofs.Ytbdedemckmoidaa
open Go Go.RowKit
set_option linter.unusedVariables false

/-- a dot is among the events, or the floor has it -/
def Knows (K : List Ev) (F : Nat → Int) (d : Dt) : Prop := d ∈ K.map Ev.dot ∨ hasB F d.1 d.2 = true
theorem hasB_mono {f g : Nat → Int} (h : ∀ i, f i ≤ g i) {r n : Int} (hf : hasB f r n = true) : hasB g r n = true := by
  unfold hasB at hf ⊢
  rw [Bool.and_eq_true] at hf ⊢
  exact ⟨hf.1, decide_eq_true (Int.le_trans (of_decide_eq_true hf.2) (h _))⟩
theorem hasB_with (f : Nat → Int) (r n : Int) (hv : vldB r n = true) : hasB (withF f r n) r n = true := by
  unfold hasB withF
  rw [hv, if_pos rfl, Bool.true_and]
  refine decide_eq_true ?_
  unfold vset
  rw [if_pos rfl]
  omega
theorem knows_add {K : List Ev} {F : Nat → Int} {d : Dt} (e : Ev) (h : Knows K F d) : Knows (addEv K e) F d := by
  rcases h with h | h
  · refine .inl ?_
    unfold addEv
    split
    · exact h
    · rw [List.map_append]; exact List.mem_append_left _ h
  · exact .inr h
theorem knows_new (K : List Ev) (F : Nat → Int) (e : Ev) : Knows (addEv K e) F e.dot := by
  refine .inl ?_
  unfold addEv
  split
  · assumption
  · rw [List.map_append]; exact List.mem_append_right _ (by simp)
section
variable {σ : Type} (goes : σ → Ev → Bool) (next : σ → Ev → σ)
theorem knows_fold (d : Dt) (hv : vldB d.1 d.2 = true) : ∀ (l : List Ev) (x : σ × List Ev × (Nat → Int)), (Knows x.2.1 x.2.2 d ∨ d ∈ l.map Ev.dot) → Knows (l.foldl (wStep goes next) x).2.1 (l.foldl (wStep goes next) x).2.2 d
  | [], x, h => by
    rcases h with h | h
    · exact h
    · simp at h
  | e :: l, x, h => by
    rw [List.foldl_cons]
    refine knows_fold d hv l _ ?_
    unfold wStep
    rcases h with h | h
    · left
      split
      · rcases h with h | h
        · exact .inl h
        · exact .inr (hasB_mono (fun i => withF_le _ _ _ i) h)
      · rcases h with h | h
        · exact .inl (by rw [List.map_append]; exact List.mem_append_left _ h)
        · exact .inr h
    · rw [List.map_cons, List.mem_cons] at h
      rcases h with h | h
      · left
        subst h
        split
        · exact .inr (hasB_with _ _ _ hv)
        · exact .inl (by rw [List.map_append]; exact List.mem_append_right _ (by simp))
      · exact .inr h
theorem knows_run (s : σ) {F : Nat → Int} {l : List Ev} {d : Dt} (hv : vldB d.1 d.2 = true) (h : Knows l F d) : Knows (wRun goes next s F l).2.1 (wRun goes next s F l).2.2 d := by
  rcases h with h | h
  · exact knows_fold goes next d hv l (s, [], F) (.inr h)
  · exact knows_fold goes next d hv l (s, [], F) (.inl (.inr h))
theorem wRun_mem : ∀ (l : List Ev) (x : σ × List Ev × (Nat → Int)) (e : Ev), e ∈ (l.foldl (wStep goes next) x).2.1 → e ∈ x.2.1 ∨ e ∈ l
  | [], x, e, h => .inl h
  | y :: l, x, e, h => by
    rw [List.foldl_cons] at h
    rcases wRun_mem l _ e h with h | h
    · unfold wStep at h
      split at h
      · exact .inl h
      · rcases List.mem_append.1 h with h | h
        · exact .inl h
        · exact .inr (by rw [List.mem_singleton.1 h]; exact List.mem_cons_self ..)
    · exact .inr (List.mem_cons_of_mem _ h)
end
theorem addEv_mem {K : List Ev} {e x : Ev} (h : x ∈ addEv K e) : x ∈ K ∨ x = e := by
  unfold addEv at h
  split at h
  · exact .inl h
  · rcases List.mem_append.1 h with h | h
    · exact .inl h
    · exact .inr (List.mem_singleton.1 h)
/-- one who has the floor is told what he lacks -/
theorem knows_told {K : List Ev} {F v : Nat → Int} {d : Dt} (h : Knows K F d) (hF : ∀ i, F i ≤ v i) (hn : hasB v d.1 d.2 = false) : d ∈ (K.filter fun e => !e.has v).map Ev.dot := by
  rcases h with h | h
  · obtain ⟨e, he, rfl⟩ := List.mem_map.1 h
    refine List.mem_map.2 ⟨e, List.mem_filter.2 ⟨he, ?_⟩, rfl⟩
    have : e.has v = false := hn
    rw [this]; rfl
  · rw [hasB_mono hF h] at hn
    cases hn
end Go.Proofs.Ytbdedemckmoidaa
