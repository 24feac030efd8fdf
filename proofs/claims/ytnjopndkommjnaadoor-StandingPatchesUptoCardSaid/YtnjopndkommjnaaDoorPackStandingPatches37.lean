/- The statement StandingPatches, proved for every input that its row reads: part 37 of 54. -/
import Derived.Test.YtnjopndkommjnaaDoorPackStandingPatches31
/- standing, plain: what leads from one answer to another one makes that of it. -/
namespace Go.Proofs.YtnjopndkommjnaaDoor
open Go
set_option linter.unusedVariables false

/-- an answer behind changes, in no order; none: one of them can't be -/
def patchN : List Ht → List Chg → Option (List Ht)
  | l, [] => some l
  | l, c :: cs => if okC c.kind (decide (scoresOf l c.hit.id ≠ [])) then patchN (stepN l c) cs else none
def newScores (c : Chg) : List Int := if c.kind = 2 then [] else [c.hit.score]
theorem scores_step (l : List Ht) (c : Chg) (id : ByteArray) : scoresOf (stepN l c) id = if id = c.hit.id then newScores c else scoresOf l id :=
  (stepT_is (fun _ => rfl) c id).symm
/-- changes of names that differ, each of which can be -/
theorem patchN_all : ∀ (D : List Chg) (l : List Ht), (D.map fun c => c.hit.id).Nodup → (∀ c ∈ D, okC c.kind (decide (scoresOf l c.hit.id ≠ [])) = true) →
    ∃ r, patchN l D = some r ∧ (∀ c ∈ D, scoresOf r c.hit.id = newScores c) ∧ (∀ id, id ∉ D.map (fun c => c.hit.id) → scoresOf r id = scoresOf l id)
  | [], l, _, _ => ⟨l, rfl, by simp, fun id _ => rfl⟩
  | c :: D, l, hn, hok => by
    rw [List.map_cons] at hn
    have hn' := List.nodup_cons.1 hn
    obtain ⟨r, h1, h2, h3⟩ := patchN_all D (stepN l c) hn'.2 (fun c' hc' => by
      have hne : c'.hit.id ≠ c.hit.id := fun e => hn'.1 (List.mem_map.2 ⟨c', hc', e⟩)
      rw [scores_step, if_neg hne]
      exact hok c' (List.mem_cons_of_mem _ hc'))
    refine ⟨r, by rw [patchN, if_pos (hok c (by simp))]; exact h1, fun c' hc' => ?_, fun id hid => ?_⟩
    · rcases List.mem_cons.1 hc' with rfl | hc'
      · rw [h3 _ hn'.1, scores_step, if_pos rfl]
      · exact h2 c' hc'
    · rw [List.map_cons, List.mem_cons] at hid
      have hid' : id ≠ c.hit.id ∧ id ∉ D.map (fun c => c.hit.id) := ⟨fun e => hid (.inl e), fun e => hid (.inr e)⟩
      rw [h3 id hid'.2, scores_step, if_neg hid'.1]
theorem perm_scores {a b : List Ht} (h : ∀ id, scoresOf a id = scoresOf b id) : a.Perm b := by
  rw [List.perm_iff_count]
  intro x
  rw [count_scores, count_scores, h]
theorem scores_mem {l : List Ht} {id : ByteArray} (h : scoresOf l id ≠ []) : ∃ x ∈ l, x.id = id := by
  refine Classical.byContradiction fun q => h (scoresOf_nil.2 fun x hx e => q ⟨x, hx, e⟩)
/-- where no name stands twice -/
theorem scores_one {l : List Ht} (h : (l.map Ht.id).Nodup) {x : Ht} (hx : x ∈ l) : scoresOf l x.id = [x.score] := by
  induction l with
  | nil => simp at hx
  | cons y l ih =>
    rw [List.map_cons] at h
    have h' := List.nodup_cons.1 h
    simp only [scoresOf]
    rcases List.mem_cons.1 hx with rfl | hx
    · rw [if_pos rfl]
      rw [scoresOf_nil.2 fun z hz e => h'.1 (List.mem_map.2 ⟨z, hz, e⟩)]
    · rw [if_neg (fun e => h'.1 (List.mem_map.2 ⟨x, hx, e.symm⟩))]
      exact ih h'.2 hx
theorem went_mem {old now : List Ht} {c : Chg} : c ∈ wentL old now ↔ c.kind = 2 ∧ c.hit ∈ old ∧ scoresOf now c.hit.id = [] := by
  unfold wentL
  rw [List.mem_map]
  constructor
  · rintro ⟨h, hh, rfl⟩
    rw [List.mem_filter] at hh
    exact ⟨rfl, hh.1, by simpa using hh.2⟩
  · rintro ⟨h1, h2, h3⟩
    refine ⟨c.hit, List.mem_filter.2 ⟨h2, by simpa using h3⟩, ?_⟩
    cases c
    simp only at h1
    rw [h1]
theorem came_mem {old now : List Ht} {c : Chg} : c ∈ cameL old now ↔ c.hit ∈ now ∧ c ∈ cameOf old c.hit := by
  unfold cameL
  rw [List.mem_flatMap]
  constructor
  · rintro ⟨h, hh, hc⟩
    have : c.hit = h := by
      unfold cameOf at hc
      split at hc
      · rw [List.mem_singleton.1 hc]
      · split at hc
        · simp at hc
        · rw [List.mem_singleton.1 hc]
    rw [this]; exact ⟨hh, hc⟩
  · rintro ⟨h1, h2⟩; exact ⟨c.hit, h1, h2⟩
theorem went_ids {old now : List Ht} (h : (old.map Ht.id).Nodup) : ((wentL old now).map fun c => c.hit.id).Nodup := by
  unfold wentL
  rw [List.map_map]
  have : ((fun c : Chg => c.hit.id) ∘ fun h : Ht => (⟨2, h⟩ : Chg)) = Ht.id := rfl
  rw [this]
  exact List.Nodup.sublist (List.Sublist.map _ List.filter_sublist) h
theorem came_ids {old now : List Ht} (h : (now.map Ht.id).Nodup) : ((cameL old now).map fun c => c.hit.id).Nodup := by
  induction now with
  | nil => simp [cameL]
  | cons x now ih =>
    rw [List.map_cons] at h
    have h' := List.nodup_cons.1 h
    have ih := ih h'.2
    unfold cameL at ih ⊢
    rw [List.flatMap_cons, List.map_append]
    refine List.nodup_append.2 ⟨?_, ih, fun a ha b hb e => ?_⟩
    · unfold cameOf
      split
      · simp
      · split <;> simp
    · rw [List.mem_map] at ha hb
      obtain ⟨c, hc, rfl⟩ := ha
      obtain ⟨c', hc', rfl⟩ := hb
      have h1 := (came_mem (old := old) (now := now) (c := c')).1 (by unfold cameL; exact hc')
      have h2 := (came_mem (old := old) (now := [x]) (c := c)).1 (by unfold cameL; simpa using hc)
      have h3 : c.hit = x := by simpa using h2.1
      refine h'.1 (List.mem_map.2 ⟨c'.hit, h1.1, ?_⟩)
      rw [← h3, e]
/-- no name twice in either: what leads from one to the other makes it -/
theorem back_is {old now : List Ht} (ho : (old.map Ht.id).Nodup) (hn : (now.map Ht.id).Nodup) : ∃ r, patchN old (diffL old now) = some r ∧ r.Perm now := by
  have hp : (diffL old now).Perm (wentL old now ++ cameL old now) := isrt_perm _
  have mem : ∀ c, c ∈ diffL old now ↔ c ∈ wentL old now ∨ c ∈ cameL old now := fun c => by rw [hp.mem_iff, List.mem_append]
  have came : ∀ {c : Chg}, c ∈ cameL old now → c.hit ∈ now ∧ ((c.kind = 1 ∧ scoresOf old c.hit.id = []) ∨ (c.kind = 3 ∧ ∃ s t, scoresOf old c.hit.id = s :: t ∧ s ≠ c.hit.score)) := fun {c} hc => by
    obtain ⟨h1, h2⟩ := came_mem.1 hc
    refine ⟨h1, ?_⟩
    unfold cameOf at h2
    split at h2
    · rename_i e
      have := List.mem_singleton.1 h2
      exact .inl ⟨by rw [this], e⟩
    · rename_i s t e
      split at h2
      · simp at h2
      · rename_i ne
        have := List.mem_singleton.1 h2
        exact .inr ⟨by rw [this], s, t, e, ne⟩
  have nd : ((diffL old now).map fun c => c.hit.id).Nodup := by
    rw [(hp.map _).nodup_iff, List.map_append]
    refine List.nodup_append.2 ⟨went_ids ho, came_ids hn, fun a ha b hb e => ?_⟩
    rw [List.mem_map] at ha hb
    obtain ⟨c, hc, rfl⟩ := ha
    obtain ⟨c', hc', rfl⟩ := hb
    have h1 := went_mem.1 hc
    have h2 := (came hc').1
    exact scoresOf_nil.1 h1.2.2 c'.hit h2 e.symm
  have ok : ∀ c ∈ diffL old now, okC c.kind (decide (scoresOf old c.hit.id ≠ [])) = true := fun c hc => by
    rcases (mem c).1 hc with hc | hc
    · obtain ⟨h1, h2, _⟩ := went_mem.1 hc
      have h3 := scores_one ho h2
      rw [h1, h3]; rfl
    · rcases (came hc).2 with ⟨h1, h2⟩ | ⟨h1, s, t, h2, _⟩
      · rw [h1, h2]; rfl
      · rw [h1, h2]; rfl
  obtain ⟨r, h1, h2, h3⟩ := patchN_all _ old nd ok
  refine ⟨r, h1, perm_scores fun id => ?_⟩
  by_cases hid : id ∈ (diffL old now).map (fun c => c.hit.id)
  · obtain ⟨c, hc, rfl⟩ := List.mem_map.1 hid
    rw [h2 c hc]
    unfold newScores
    rcases (mem c).1 hc with hc | hc
    · obtain ⟨k1, _, k3⟩ := went_mem.1 hc
      rw [if_pos k1, k3]
    · obtain ⟨k1, k2⟩ := came hc
      rw [scores_one hn k1, if_neg (by rcases k2 with ⟨k2, _⟩ | ⟨k2, _⟩ <;> rw [k2] <;> decide)]
  · rw [h3 id hid]
    have out : ∀ c ∈ diffL old now, c.hit.id ≠ id := fun c hc e => hid (List.mem_map.2 ⟨c, hc, e⟩)
    by_cases hnw : scoresOf now id = []
    · rw [hnw]
      refine scoresOf_nil.2 fun x hx e => ?_
      exact out ⟨2, x⟩ ((mem _).2 (.inl (went_mem.2 ⟨rfl, hx, by rw [show (Chg.mk 2 x).hit.id = id from e]; exact hnw⟩))) e
    · obtain ⟨x, hx, rfl⟩ := scores_mem hnw
      rw [scores_one hn hx]
      cases e : scoresOf old x.id with
      | nil => exact absurd rfl (out ⟨1, x⟩ ((mem _).2 (.inr (came_mem.2 ⟨hx, by unfold cameOf; simp only; rw [e]; simp⟩))))
      | cons s t =>
        obtain ⟨y, hy, hy2⟩ := scores_mem (l := old) (id := x.id) (by rw [e]; simp)
        have h4 := scores_one ho hy
        rw [hy2, e] at h4
        by_cases hs : s = x.score
        · rw [← hs]
          injection h4 with h4 h5
          rw [h5]
        · exact absurd rfl (out ⟨3, x⟩ ((mem _).2 (.inr (came_mem.2 ⟨hx, by unfold cameOf; simp only; rw [e]; simp [hs]⟩))))
/-- from one to itself leads nothing -/
theorem diff_self {l : List Ht} (h : (l.map Ht.id).Nodup) : diffL l l = [] := by
  have hp : (diffL l l).Perm (wentL l l ++ cameL l l) := isrt_perm _
  refine List.eq_nil_of_length_eq_zero ?_
  rw [hp.length_eq]
  have h1 : wentL l l = [] := by
    refine List.eq_nil_iff_forall_not_mem.2 fun c hc => ?_
    obtain ⟨_, k2, k3⟩ := went_mem.1 hc
    rw [scores_one h k2] at k3; cases k3
  have h2 : cameL l l = [] := by
    refine List.eq_nil_iff_forall_not_mem.2 fun c hc => ?_
    obtain ⟨k1, k2⟩ := came_mem.1 hc
    unfold cameOf at k2
    rw [scores_one h k1] at k2
    simp at k2
  rw [h1, h2]; rfl
/-- an answer behind changes, in its order -/
def patchH (l : List Ht) (D : List Chg) : Option (List Ht) := (patchN l D).map sortH
theorem back_good {a b : List Ht} (ha : GoodH a) (hb : GoodH b) : patchH a (diffL a b) = some b := by
  obtain ⟨r, h1, h2⟩ := back_is ha.ids hb.ids
  unfold patchH
  rw [h1, Option.map_some, sort_of h2 hb]
theorem patch_nil {a : List Ht} (ha : GoodH a) : patchH a [] = some a := by
  unfold patchH patchN
  rw [Option.map_some, sort_of (List.Perm.refl a) ha]
end Go.Proofs.YtnjopndkommjnaaDoor
