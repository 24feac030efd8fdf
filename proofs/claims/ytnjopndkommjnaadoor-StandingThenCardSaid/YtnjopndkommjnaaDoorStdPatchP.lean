/- standing, plain: an answer behind changes. -/
import Derived.Test.YtnjopndkommjnaaDoorStdPlain
namespace Go.Proofs.YtnjopndkommjnaaDoor
open Go
set_option linter.unusedVariables false

deriving instance DecidableEq for Ht
theorem count_scores (l : List Ht) (h : Ht) : l.count h = (scoresOf l h.id).count h.score := by
  induction l with
  | nil => rfl
  | cons x l ih =>
    rw [List.count_cons, ih]
    simp only [scoresOf]
    by_cases e : x.id = h.id
    · rw [if_pos e, List.count_cons]
      congr 1
      obtain ⟨xi, xs⟩ := x
      obtain ⟨hi, hs⟩ := h
      simp only at e
      subst e
      by_cases e2 : xs = hs <;> simp [e2]
    · rw [if_neg e]
      have : (x == h) = false := by
        rw [beq_eq_false_iff_ne]
        exact fun q => e (by rw [q])
      simp [this]
/-- all hits of some names, by a table of their scores -/
def allOf (ks : List ByteArray) (f : ByteArray → List Int) : List Ht := ks.flatMap fun id => (f id).map fun s => ⟨id, s⟩
open Classical in
theorem count_all : ∀ (ks : List ByteArray) (f : ByteArray → List Int) (h : Ht), ks.Nodup → (allOf ks f).count h = if h.id ∈ ks then (f h.id).count h.score else 0
  | [], f, h, _ => by simp [allOf]
  | k :: ks, f, h, hn => by
    have hn' := List.nodup_cons.1 hn
    have ih := count_all ks f h hn'.2
    unfold allOf at ih ⊢
    rw [List.flatMap_cons, List.count_append, ih]
    have one : ((f k).map fun s => (⟨k, s⟩ : Ht)).count h = if k = h.id then (f k).count h.score else 0 := by
      induction f k with
      | nil => simp
      | cons s t ih2 =>
        rw [List.map_cons, List.count_cons, ih2, List.count_cons]
        obtain ⟨hi, hs⟩ := h
        by_cases e : k = hi
        · subst e
          by_cases e2 : s = hs <;> simp [e2]
        · have : ((⟨k, s⟩ : Ht) == ⟨hi, hs⟩) = false := by
            rw [beq_eq_false_iff_ne]
            exact fun q => e (by injection q)
          simp [this, e]
    rw [one]
    by_cases e : k = h.id
    · subst e
      simp [hn'.1]
    · have e' : ¬ h.id = k := fun q => e q.symm
      simp [e, e']
open Classical in
/-- what the table holds is what the answer holds -/
theorem all_perm {ks : List ByteArray} {f : ByteArray → List Int} {l : List Ht} (hn : ks.Nodup) (hk : ∀ id, id ∉ ks → f id = []) (hf : ∀ id, f id = scoresOf l id) : (allOf ks f).Perm l := by
  rw [List.perm_iff_count]
  intro h
  rw [count_all ks f h hn, count_scores, ← hf]
  split
  · rfl
  · rename_i e
    rw [hk _ e]; rfl
/-- one change, by the table and by the document -/
def okC (kind : Int) (there : Bool) : Bool := decide (1 ≤ kind) && decide (kind ≤ 3) && (there != decide (kind = 1))
def stepT (f : ByteArray → List Int) (c : Chg) : ByteArray → List Int := fun id => if id = c.hit.id then (if c.kind = 2 then [] else [c.hit.score]) else f id
def stepN (l : List Ht) (c : Chg) : List Ht := (l.filter fun h => decide (h.id ≠ c.hit.id)) ++ if c.kind = 2 then [] else [c.hit]
theorem scores_out (l : List Ht) (a id : ByteArray) : scoresOf (l.filter fun h => decide (h.id ≠ a)) id = if id = a then [] else scoresOf l id := by
  induction l with
  | nil => simp [scoresOf]
  | cons h l ih =>
    by_cases e : h.id = a
    · rw [List.filter_cons_of_neg (by simp [e]), ih]
      by_cases e2 : id = a
      · rw [if_pos e2, if_pos e2]
      · rw [if_neg e2, if_neg e2]
        simp only [scoresOf]
        rw [if_neg (fun q => e2 (by rw [← q, e]))]
    · rw [List.filter_cons_of_pos (by simp [e])]
      simp only [scoresOf]
      rw [ih]
      by_cases e2 : id = a
      · rw [if_pos e2, if_pos e2, if_neg (fun q => e (by rw [q, e2]))]
      · rw [if_neg e2, if_neg e2]
theorem stepT_is {f : ByteArray → List Int} {l : List Ht} (h : ∀ id, f id = scoresOf l id) (c : Chg) (id : ByteArray) : stepT f c id = scoresOf (stepN l c) id := by
  unfold stepT stepN
  rw [scoresOf_app, scores_out]
  by_cases e : id = c.hit.id
  · subst e
    rw [if_pos rfl, if_pos rfl]
    by_cases e2 : c.kind = 2
    · rw [if_pos e2, if_pos e2]; rfl
    · rw [if_neg e2, if_neg e2]; simp [scoresOf]
  · rw [if_neg e, if_neg e, h]
    by_cases e2 : c.kind = 2
    · rw [if_pos e2]; simp [scoresOf]
    · rw [if_neg e2]
      simp only [scoresOf]
      rw [if_neg (fun q => e q.symm), List.append_nil]
end Go.Proofs.YtnjopndkommjnaaDoor
