/- The statement StandingPatches, proved for every input that its row reads: part 9 of 54. -/
import Derived.Test.YtnjopndkommjnaaDoorStsPlain
import Derived.Test.YtnjopndkommjnaaDoorTabSPlain
/- standing, plain: answers, changes, what leads from one to another. -/
namespace Go.Proofs.YtnjopndkommjnaaDoor
open Go
set_option linter.unusedVariables false

theorem toList_eq {x y : ByteArray} (e : x.toList = y.toList) : x = y := by
  have h1 : ltB x y = false := by have := lin_B.irr y; unfold ltB at *; rw [e]; exact this
  have h2 : ltB y x = false := by have := lin_B.irr y; unfold ltB at *; rw [e]; exact this
  exact lin_B.tot x y h1 h2
structure Ht where
  id : ByteArray
  score : Int
structure Chg where
  kind : Int
  hit : Ht
/-- the scores that stand by a name, in their order -/
def scoresOf : List Ht → ByteArray → List Int
  | [], _ => []
  | h :: l, id => if h.id = id then h.score :: scoresOf l id else scoresOf l id
theorem scoresOf_app (a b : List Ht) (id : ByteArray) : scoresOf (a ++ b) id = scoresOf a id ++ scoresOf b id := by
  induction a with
  | nil => rfl
  | cons h a ih => simp only [List.cons_append, scoresOf]; split <;> simp [ih]
theorem scoresOf_nil {l : List Ht} {id : ByteArray} : scoresOf l id = [] ↔ ∀ h ∈ l, h.id ≠ id := by
  induction l with
  | nil => simp [scoresOf]
  | cons h l ih =>
    simp only [scoresOf]
    by_cases e : h.id = id
    · simp [e]
    · simp [e, ih]
def ltC (a b : Chg) : Bool := ltB a.hit.id b.hit.id
theorem sw_C : SW ltC where
  irr := fun x => lin_B.irr _
  tr := fun x y z h1 h2 => lin_B.tr _ _ _ h1 h2
  ng := fun x y z h1 h2 => by
    unfold ltC at *
    cases e : ltB x.hit.id z.hit.id with
    | false => rfl
    | true =>
      cases e2 : ltB y.hit.id x.hit.id with
      | true => rw [lin_B.tr _ _ _ e2 e] at h2; cases h2
      | false =>
        have := lin_B.tot _ _ h1 e2
        rw [this, h2] at e; cases e
/-- what went -/
def wentL (old now : List Ht) : List Chg := (old.filter fun h => decide (scoresOf now h.id = [])).map fun h => ⟨2, h⟩
/-- what one that stands now makes -/
def cameOf (old : List Ht) (h : Ht) : List Chg := match scoresOf old h.id with
  | [] => [⟨1, h⟩]
  | s :: _ => if s = h.score then [] else [⟨3, h⟩]
def cameL (old now : List Ht) : List Chg := now.flatMap (cameOf old)
def diffL (old now : List Ht) : List Chg := isrt ltC (wentL old now ++ cameL old now)
/-- the document's: a change behind those whose names are not greater -/
def atC (l : List Chg) (c : Chg) : Nat := (l.zipIdx.foldl (fun a x => if ltB c.hit.id x.1.hit.id then a else x.2 + 1) 0)
def putC (l : List Chg) (c : Chg) : List Chg := l.take (atC l c) ++ c :: l.drop (atC l c)
theorem atC_snoc (l : List Chg) (x c : Chg) : atC (l ++ [x]) c = if ltB c.hit.id x.hit.id then atC l c else l.length + 1 := by
  unfold atC
  rw [List.zipIdx_append, List.foldl_append]
  simp
/-- of a list in order: where those end that are not greater -/
theorem atC_split : ∀ (A B : List Chg) (c : Chg), (∀ x ∈ A, ltC c x = false) → (∀ x ∈ B, ltC c x = true) → atC (A ++ B) c = A.length := by
  intro A B c hA hB
  have hl : ∀ (B : List Chg), (∀ x ∈ B, ltC c x = true) → atC (A ++ B) c = atC A c := by
    intro B
    have key : ∀ (n : Nat) (B : List Chg), B.length = n → (∀ x ∈ B, ltC c x = true) → atC (A ++ B) c = atC A c := by
      intro n
      induction n with
      | zero => intro B hn _; rw [List.eq_nil_of_length_eq_zero hn, List.append_nil]
      | succ n ih =>
        intro B hn h
        have hne : B ≠ [] := by intro e; rw [e] at hn; cases hn
        rw [← List.dropLast_concat_getLast hne, ← List.append_assoc, atC_snoc, if_pos (show ltB c.hit.id (B.getLast hne).hit.id = true from h _ (List.getLast_mem hne))]
        exact ih _ (by rw [List.length_dropLast]; omega) fun x hx => h x (List.dropLast_subset B hx)
    exact key _ B rfl
  rw [hl B hB]
  by_cases hne : A = []
  · rw [hne]; rfl
  · have h1 := List.dropLast_concat_getLast hne
    rw [← h1, atC_snoc, if_neg (by have := hA _ (List.getLast_mem hne); unfold ltC at this; rw [this]; decide)]
    simp
theorem srt_cut {l : List Chg} (h : Srt ltC l) (c : Chg) : ∃ A B, l = A ++ B ∧ (∀ x ∈ A, ltC c x = false) ∧ (∀ x ∈ B, ltC c x = true) := by
  induction l with
  | nil => exact ⟨[], [], rfl, by simp, by simp⟩
  | cons x l ih =>
    obtain ⟨A, B, e, hA, hB⟩ := ih (List.Pairwise.of_cons h)
    cases ex : ltC c x with
    | false =>
      refine ⟨x :: A, B, by rw [e]; rfl, fun y hy => ?_, hB⟩
      rcases List.mem_cons.1 hy with rfl | hy
      · exact ex
      · exact hA y hy
    | true =>
      refine ⟨[], x :: l, rfl, by simp, fun y hy => ?_⟩
      rcases List.mem_cons.1 hy with rfl | hy
      · exact ex
      · have h1 := List.rel_of_pairwise_cons h hy
        cases e2 : ltC c y with
        | true => rfl
        | false => rw [sw_C.ng _ _ _ e2 h1] at ex; cases ex
theorem putC_is {l : List Chg} (h : Srt ltC l) (c : Chg) : putC l c = mrg ltC l [c] := by
  obtain ⟨A, B, rfl, hA, hB⟩ := srt_cut h c
  unfold putC
  rw [atC_split A B c hA hB, mrg_one hA hB]
  simp
theorem putF_is (D : List Chg) : D.foldl putC [] = isrt ltC D := by
  have key : ∀ (n : Nat) (D : List Chg), D.length = n → D.foldl putC [] = isrt ltC D := by
    intro n
    induction n with
    | zero => intro D hn; rw [List.eq_nil_of_length_eq_zero hn]; rfl
    | succ n ih =>
      intro D hn
      have hne : D ≠ [] := by intro e; rw [e] at hn; cases hn
      rw [← List.dropLast_concat_getLast hne, List.foldl_append, isrt_snoc, ih _ (by rw [List.length_dropLast]; omega)]
      exact putC_is (isrt_srt sw_C _) _
  exact key _ D rfl
/-- the document's Diff -/
def refWent (now : List Ht) (acc : List Chg) (h : Ht) : List Chg := if scoresOf now h.id = [] then putC acc ⟨2, h⟩ else acc
def refCame (old : List Ht) (acc : List Chg) (h : Ht) : List Chg := match scoresOf old h.id with
  | [] => putC acc ⟨1, h⟩
  | s :: _ => if s = h.score then acc else putC acc ⟨3, h⟩
def refDiffL (old now : List Ht) : List Chg := now.foldl (refCame old) (old.foldl (refWent now) [])
theorem refDiff_is (old now : List Ht) : refDiffL old now = diffL old now := by
  unfold diffL
  rw [← putF_is, List.foldl_append]
  have e1 : ∀ (l : List Ht) (acc : List Chg), l.foldl (refWent now) acc = (wentL l now).foldl putC acc := by
    intro l
    induction l with
    | nil => intro acc; rfl
    | cons h l ih =>
      intro acc
      rw [List.foldl_cons, ih]
      unfold wentL refWent
      by_cases e : scoresOf now h.id = [] <;> simp [e]
  have e2 : ∀ (l : List Ht) (acc : List Chg), l.foldl (refCame old) acc = (cameL old l).foldl putC acc := by
    intro l
    induction l with
    | nil => intro acc; rfl
    | cons h l ih =>
      intro acc
      rw [List.foldl_cons, ih]
      unfold cameL
      rw [List.flatMap_cons, List.foldl_append]
      congr 1
      unfold refCame cameOf
      cases scoresOf old h.id with
      | nil => rfl
      | cons s t => simp only; split <;> rfl
  unfold refDiffL
  rw [e1, e2]
end Go.Proofs.YtnjopndkommjnaaDoor
/- standing, plain: an answer behind changes. -/
namespace Go.Proofs.YtnjopndkommjnaaDoor
open Go
set_option linter.unusedVariables false

deriving instance DecidableEq for Ht
theorem count_scores (l : List Ht) (h : Ht) : l.count h = (scoresOf l h.id).count h.score := by
  induction l with
  | nil => rfl
  | cons x l ih =>
    rw [List.count_cons, ih]
    simp only [scoresOf]
    by_cases e : x.id = h.id
    · rw [if_pos e, List.count_cons]
      congr 1
      obtain ⟨xi, xs⟩ := x
      obtain ⟨hi, hs⟩ := h
      simp only at e
      subst e
      by_cases e2 : xs = hs <;> simp [e2]
    · rw [if_neg e]
      have : (x == h) = false := by
        rw [beq_eq_false_iff_ne]
        exact fun q => e (by rw [q])
      simp [this]
/-- all hits of some names, by a table of their scores -/
def allOf (ks : List ByteArray) (f : ByteArray → List Int) : List Ht := ks.flatMap fun id => (f id).map fun s => ⟨id, s⟩
open Classical in
theorem count_all : ∀ (ks : List ByteArray) (f : ByteArray → List Int) (h : Ht), ks.Nodup → (allOf ks f).count h = if h.id ∈ ks then (f h.id).count h.score else 0
  | [], f, h, _ => by simp [allOf]
  | k :: ks, f, h, hn => by
    have hn' := List.nodup_cons.1 hn
    have ih := count_all ks f h hn'.2
    unfold allOf at ih ⊢
    rw [List.flatMap_cons, List.count_append, ih]
    have one : ((f k).map fun s => (⟨k, s⟩ : Ht)).count h = if k = h.id then (f k).count h.score else 0 := by
      induction f k with
      | nil => simp
      | cons s t ih2 =>
        rw [List.map_cons, List.count_cons, ih2, List.count_cons]
        obtain ⟨hi, hs⟩ := h
        by_cases e : k = hi
        · subst e
          by_cases e2 : s = hs <;> simp [e2]
        · have : ((⟨k, s⟩ : Ht) == ⟨hi, hs⟩) = false := by
            rw [beq_eq_false_iff_ne]
            exact fun q => e (by injection q)
          simp [this, e]
    rw [one]
    by_cases e : k = h.id
    · subst e
      simp [hn'.1]
    · have e' : ¬ h.id = k := fun q => e q.symm
      simp [e, e']
open Classical in
/-- what the table holds is what the answer holds -/
theorem all_perm {ks : List ByteArray} {f : ByteArray → List Int} {l : List Ht} (hn : ks.Nodup) (hk : ∀ id, id ∉ ks → f id = []) (hf : ∀ id, f id = scoresOf l id) : (allOf ks f).Perm l := by
  rw [List.perm_iff_count]
  intro h
  rw [count_all ks f h hn, count_scores, ← hf]
  split
  · rfl
  · rename_i e
    rw [hk _ e]; rfl
/-- one change, by the table and by the document -/
def okC (kind : Int) (there : Bool) : Bool := decide (1 ≤ kind) && decide (kind ≤ 3) && (there != decide (kind = 1))
def stepT (f : ByteArray → List Int) (c : Chg) : ByteArray → List Int := fun id => if id = c.hit.id then (if c.kind = 2 then [] else [c.hit.score]) else f id
def stepN (l : List Ht) (c : Chg) : List Ht := (l.filter fun h => decide (h.id ≠ c.hit.id)) ++ if c.kind = 2 then [] else [c.hit]
theorem scores_out (l : List Ht) (a id : ByteArray) : scoresOf (l.filter fun h => decide (h.id ≠ a)) id = if id = a then [] else scoresOf l id := by
  induction l with
  | nil => simp [scoresOf]
  | cons h l ih =>
    by_cases e : h.id = a
    · rw [List.filter_cons_of_neg (by simp [e]), ih]
      by_cases e2 : id = a
      · rw [if_pos e2, if_pos e2]
      · rw [if_neg e2, if_neg e2]
        simp only [scoresOf]
        rw [if_neg (fun q => e2 (by rw [← q, e]))]
    · rw [List.filter_cons_of_pos (by simp [e])]
      simp only [scoresOf]
      rw [ih]
      by_cases e2 : id = a
      · rw [if_pos e2, if_pos e2, if_neg (fun q => e (by rw [q, e2]))]
      · rw [if_neg e2, if_neg e2]
theorem stepT_is {f : ByteArray → List Int} {l : List Ht} (h : ∀ id, f id = scoresOf l id) (c : Chg) (id : ByteArray) : stepT f c id = scoresOf (stepN l c) id := by
  unfold stepT stepN
  rw [scoresOf_app, scores_out]
  by_cases e : id = c.hit.id
  · subst e
    rw [if_pos rfl, if_pos rfl]
    by_cases e2 : c.kind = 2
    · rw [if_pos e2, if_pos e2]; rfl
    · rw [if_neg e2, if_neg e2]; simp [scoresOf]
  · rw [if_neg e, if_neg e, h]
    by_cases e2 : c.kind = 2
    · rw [if_pos e2]; simp [scoresOf]
    · rw [if_neg e2]
      simp only [scoresOf]
      rw [if_neg (fun q => e q.symm), List.append_nil]
end Go.Proofs.YtnjopndkommjnaaDoor
