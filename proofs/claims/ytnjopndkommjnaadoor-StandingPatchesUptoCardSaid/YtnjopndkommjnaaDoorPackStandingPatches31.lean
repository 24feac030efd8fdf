/- The statement StandingPatches, proved for every input that its row reads: part 31 of 54. -/
import Derived.Test.YtnjopndkommjnaaDoorPackStandingPatches9
/- standing, plain: an answer's order, and which may be one. -/
namespace Go.Proofs.YtnjopndkommjnaaDoor
open Go
set_option linter.unusedVariables false

/-- does one hit stand ahead of another one? -/
def ltH (a b : Ht) : Bool := decide (b.score < a.score) || (decide (a.score = b.score) && ltB a.id b.id)
theorem ltH_iff (a b : Ht) : ltH a b = true ↔ b.score < a.score ∨ (a.score = b.score ∧ ltB a.id b.id = true) := by
  unfold ltH; simp
theorem ltH_tot {a b : Ht} (h1 : ltH a b = false) (h2 : ltH b a = false) : a = b := by
  have h1' : ¬ (ltH a b = true) := by rw [h1]; simp
  have h2' : ¬ (ltH b a = true) := by rw [h2]; simp
  rw [ltH_iff] at h1' h2'
  have e : a.score = b.score := by
    have n1 : ¬ b.score < a.score := fun e => h1' (.inl e)
    have n2 : ¬ a.score < b.score := fun e => h2' (.inl e)
    omega
  have e2 : a.id = b.id := by
    apply lin_B.tot
    · cases q : ltB a.id b.id
      · rfl
      · exact absurd (.inr ⟨e, q⟩) h1'
    · cases q : ltB b.id a.id
      · rfl
      · exact absurd (.inr ⟨e.symm, q⟩) h2'
  cases a; cases b
  simp only at e e2
  rw [e, e2]
theorem sw_H : SW ltH where
  irr := fun x => by
    cases e : ltH x x with
    | false => rfl
    | true =>
      rw [ltH_iff, lin_B.irr] at e
      simp at e
  tr := fun x y z h1 h2 => by
    rw [ltH_iff] at h1 h2 ⊢
    rcases h1 with h1 | ⟨e1, h1⟩
    · rcases h2 with h2 | ⟨e2, h2⟩
      · exact .inl (by omega)
      · exact .inl (by omega)
    · rcases h2 with h2 | ⟨e2, h2⟩
      · exact .inl (by omega)
      · exact .inr ⟨by omega, lin_B.tr _ _ _ h1 h2⟩
  ng := fun x y z h1 h2 => by
    cases e : ltH x z with
    | false => rfl
    | true =>
      have t : ltH y x = true ∨ y = x := by
        cases q : ltH y x
        · exact .inr (ltH_tot q h1)
        · exact .inl rfl
      rcases t with t | rfl
      · have : ltH y z = true := by
          rw [ltH_iff] at t e ⊢
          rcases t with t | ⟨e1, t⟩
          · rcases e with e | ⟨e2, e⟩
            · exact .inl (by omega)
            · exact .inl (by omega)
          · rcases e with e | ⟨e2, e⟩
            · exact .inl (by omega)
            · exact .inr ⟨by omega, lin_B.tr _ _ _ t e⟩
        rw [this] at h2; cases h2
      · rw [e] at h2; cases h2
/-- two lists in order with the same hits are the same -/
theorem srtH_unique {A B : List Ht} (hA : Srt ltH A) (hB : Srt ltH B) (hp : A.Perm B) : A = B :=
  List.Perm.eq_of_pairwise (le := fun a b => ltH b a = false) (fun x y _ _ h1 h2 => ltH_tot h2 h1) hA hB hp
/-- the document's: a hit behind the last that stands ahead of it -/
def atH (l : List Ht) (h : Ht) : Nat := l.zipIdx.foldl (fun a x => if ltH x.1 h then x.2 + 1 else a) 0
def putH (l : List Ht) (h : Ht) : List Ht := l.take (atH l h) ++ h :: l.drop (atH l h)
theorem atH_snoc (l : List Ht) (x h : Ht) : atH (l ++ [x]) h = if ltH x h then l.length + 1 else atH l h := by
  unfold atH
  rw [List.zipIdx_append, List.foldl_append]
  simp
theorem atH_le (h : Ht) : ∀ (n : Nat) (l : List Ht), l.length = n → atH l h ≤ l.length := by
  intro n
  induction n with
  | zero => intro l hl; rw [List.eq_nil_of_length_eq_zero hl]; exact Nat.le_refl _
  | succ n ih =>
    intro l hl
    have hne : l ≠ [] := by intro e; rw [e] at hl; cases hl
    rw [← List.dropLast_concat_getLast hne, atH_snoc]
    have := ih l.dropLast (by rw [List.length_dropLast]; omega)
    split
    · simp
    · simp only [List.length_append, List.length_singleton]; omega
theorem putH_perm (l : List Ht) (h : Ht) : (putH l h).Perm (l ++ [h]) := by
  unfold putH
  refine List.perm_middle.trans ?_
  rw [List.take_append_drop]
  exact (List.perm_append_singleton h l).symm
theorem atH_split : ∀ (A B : List Ht) (h : Ht), (∀ x ∈ A, ltH x h = true) → (∀ x ∈ B, ltH x h = false) → atH (A ++ B) h = A.length := by
  intro A B h hA hB
  have key : ∀ (n : Nat) (B : List Ht), B.length = n → (∀ x ∈ B, ltH x h = false) → atH (A ++ B) h = atH A h := by
    intro n
    induction n with
    | zero => intro B hn _; rw [List.eq_nil_of_length_eq_zero hn, List.append_nil]
    | succ n ih =>
      intro B hn hb
      have hne : B ≠ [] := by intro e; rw [e] at hn; cases hn
      rw [← List.dropLast_concat_getLast hne, ← List.append_assoc, atH_snoc, if_neg (by rw [hb _ (List.getLast_mem hne)]; decide)]
      exact ih _ (by rw [List.length_dropLast]; omega) fun x hx => hb x (List.dropLast_subset B hx)
  rw [key _ B rfl hB]
  by_cases hne : A = []
  · rw [hne]; rfl
  · have h1 := List.dropLast_concat_getLast hne
    rw [← h1, atH_snoc, if_pos (hA _ (List.getLast_mem hne))]
    simp
theorem putH_srt {l : List Ht} (hs : Srt ltH l) (h : Ht) : Srt ltH (putH l h) := by
  have cut : ∃ A B, l = A ++ B ∧ (∀ x ∈ A, ltH x h = true) ∧ (∀ x ∈ B, ltH x h = false) := by
    induction l with
    | nil => exact ⟨[], [], rfl, by simp, by simp⟩
    | cons x l ih =>
      obtain ⟨A, B, e, hA, hB⟩ := ih (List.Pairwise.of_cons hs)
      cases ex : ltH x h with
      | true =>
        refine ⟨x :: A, B, by rw [e]; rfl, fun y hy => ?_, hB⟩
        rcases List.mem_cons.1 hy with rfl | hy
        · exact ex
        · exact hA y hy
      | false =>
        refine ⟨[], x :: l, rfl, by simp, fun y hy => ?_⟩
        rcases List.mem_cons.1 hy with rfl | hy
        · exact ex
        · exact sw_H.ng _ _ _ (List.rel_of_pairwise_cons hs hy) ex
  obtain ⟨A, B, rfl, hA, hB⟩ := cut
  unfold putH
  rw [atH_split A B h hA hB]
  simp only [List.take_left, List.drop_left]
  have h1 := List.pairwise_append.1 hs
  refine List.pairwise_append.2 ⟨h1.1, List.Pairwise.cons (fun v hv => hB v hv) h1.2.1, fun a ha b hb => ?_⟩
  rcases List.mem_cons.1 hb with rfl | hb
  · exact sw_H.asym (hA a ha)
  · exact h1.2.2 a ha b hb
/-- the document's sort -/
def sortH (l : List Ht) : List Ht := l.foldl putH []
theorem sortH_both : ∀ (n : Nat) (l : List Ht), l.length = n → (sortH l).Perm l ∧ Srt ltH (sortH l) := by
  intro n
  induction n with
  | zero => intro l hl; rw [List.eq_nil_of_length_eq_zero hl]; exact ⟨List.Perm.refl _, List.Pairwise.nil⟩
  | succ n ih =>
    intro l hl
    have hne : l ≠ [] := by intro e; rw [e] at hl; cases hl
    obtain ⟨h1, h2⟩ := ih l.dropLast (by rw [List.length_dropLast]; omega)
    rw [← List.dropLast_concat_getLast hne]
    unfold sortH at h1 h2 ⊢
    rw [List.foldl_append]
    exact ⟨(putH_perm _ _).trans (h1.append_right _), putH_srt h2 _⟩
theorem sortH_perm (l : List Ht) : (sortH l).Perm l := (sortH_both _ l rfl).1
theorem sortH_srt (l : List Ht) : Srt ltH (sortH l) := (sortH_both _ l rfl).2
/-- as many keys as hits: no name twice -/
theorem keys_count {α : Type} : ∀ (ks ids : List α), ks.Nodup → (∀ a, a ∈ ks ↔ a ∈ ids) → (ks.length = ids.length ↔ ids.Nodup) := by
  classical
  have le : ∀ (ks ids : List α), ks.Nodup → (∀ a ∈ ks, a ∈ ids) → ks.length ≤ ids.length := by
    intro ks
    induction ks with
    | nil => intro ids _ _; simp
    | cons k ks ih =>
      intro ids hn hs
      have hn' := List.nodup_cons.1 hn
      have hk := hs k (by simp)
      obtain ⟨A, B, rfl⟩ := List.append_of_mem hk
      have := ih (A ++ B) hn'.2 fun a ha => by
        have h1 := hs a (by simp [ha])
        rw [List.mem_append, List.mem_cons] at h1
        rw [List.mem_append]
        rcases h1 with h1 | rfl | h1
        · exact .inl h1
        · exact absurd ha hn'.1
        · exact .inr h1
      simp only [List.length_append, List.length_cons] at this ⊢
      omega
  intro ks ids hn hm
  constructor
  · intro hl
    -- were one there twice, fewer would do
    refine Classical.byContradiction fun hnd => ?_
    have dup : ∃ A x B, ids = A ++ x :: B ∧ x ∈ B := by
      clear hm hl
      induction ids with
      | nil => exact absurd List.nodup_nil hnd
      | cons x ids ih =>
        by_cases hx : x ∈ ids
        · exact ⟨[], x, ids, rfl, hx⟩
        · have : ¬ ids.Nodup := fun q => hnd (List.nodup_cons.2 ⟨hx, q⟩)
          obtain ⟨A, y, B, e, hy⟩ := ih this
          exact ⟨x :: A, y, B, by rw [e]; rfl, hy⟩
    obtain ⟨A, x, B, rfl, hx⟩ := dup
    have := le ks (A ++ B) hn fun a ha => by
      have h1 := (hm a).1 ha
      rw [List.mem_append, List.mem_cons] at h1
      rw [List.mem_append]
      rcases h1 with h1 | rfl | h1
      · exact .inl h1
      · exact .inr hx
      · exact .inr h1
    simp only [List.length_append, List.length_cons] at this hl
    omega
  · intro hd
    exact Nat.le_antisymm (le ks ids hn fun a ha => (hm a).1 ha) (le ids ks hd fun a ha => (hm a).2 ha)
/-- which may be an answer -/
structure GoodH (l : List Ht) : Prop where
  adj : ∀ i (h : i + 1 < l.length), ltH (l[i]'(by omega)) l[i + 1] = true
  ids : (l.map Ht.id).Nodup
theorem adj_srt : ∀ (l : List Ht), (∀ i (h : i + 1 < l.length), ltH (l[i]'(by omega)) l[i + 1] = true) → l.Pairwise fun x y => ltH x y = true
  | [], _ => List.Pairwise.nil
  | [x], _ => by simp
  | x :: y :: l, h => by
    have ih := adj_srt (y :: l) fun i hi => h (i + 1) (by simpa using hi)
    have h0 : ltH x y = true := h 0 (by simp)
    refine List.Pairwise.cons (fun z hz => ?_) ih
    rcases List.mem_cons.1 hz with rfl | hz
    · exact h0
    · exact sw_H.tr _ _ _ h0 (List.rel_of_pairwise_cons ih hz)
theorem GoodH.srt {l : List Ht} (h : GoodH l) : Srt ltH l := (adj_srt l h.adj).imp fun {a b} e => sw_H.asym e
theorem sort_of {r l : List Ht} (h : r.Perm l) (hg : GoodH l) : sortH r = l := srtH_unique (sortH_srt r) hg.srt ((sortH_perm r).trans h)
end Go.Proofs.YtnjopndkommjnaaDoor
