/- The pages of a device that were written since the last sync, as its map has them: what is taken out, what is laid in. -/
import Derived.Test.YtfgjcgonlpbdbaaPgRead
namespace Go.Proofs.Ytfgjcgonlpbdbaa
open Go Go.RowKit
set_option linter.unusedVariables false

def wasL (old : Nat → List UInt8) (lo : List (Nat × Nat)) : List (Int × Value × Nat) := lo.map fun e => ((e.1 : Int), .agg (bys (old e.1)).toArray, e.2)
/-- the map at M has of each page of a list what it had -/
structure Was (w : World) (M n : Nat) (old : Nat → List UInt8) (lo : List (Nat × Nat)) (c : Nat) : Prop where
  map : w.heap[M]? = some (.map (ents (wasL old lo)).toArray c)
  key : (lo.map (·.1)).Nodup
  born : (lo.map (·.2)).Nodup
  lt : ∀ e ∈ lo, e.1 < n ∧ e.2 < c
  len : ∀ e ∈ lo, (old e.1).length = 128
theorem Was.at {w w' : World} {M n c : Nat} {old : Nat → List UInt8} {lo : List (Nat × Nat)} (h : Was w M n old lo c) (hb : w'.heap[M]? = w.heap[M]?) : Was w' M n old lo c :=
  ⟨hb.trans h.map, h.key, h.born, h.lt, h.len⟩
theorem Was.mlt {w : World} {M n c : Nat} {old : Nat → List UInt8} {lo : List (Nat × Nat)} (h : Was w M n old lo c) : M < w.heap.size := (Array.getElem?_eq_some_iff.1 h.map).1
theorem Was.below {w w' : World} {M n c : Nat} {old : Nat → List UInt8} {lo : List (Nat × Nat)} (h : Was w M n old lo c) (hb : Below w.heap.size w w') : Was w' M n old lo c := h.at (hb.block M h.mlt)
theorem Was.nil {w : World} {M n c : Nat} {old : Nat → List UInt8} (h : w.heap[M]? = some (.map (ents []).toArray c)) : Was w M n old [] c :=
  ⟨h, List.nodup_nil, List.nodup_nil, fun e he => by simp at he, fun e he => by simp at he⟩
def delW (x : Int) (lo : List (Nat × Nat)) : List (Nat × Nat) := lo.filter fun e => decide ((e.1 : Int) ≠ x)
theorem mem_delW {x : Int} {lo : List (Nat × Nat)} {e : Nat × Nat} : e ∈ delW x lo ↔ e ∈ lo ∧ (e.1 : Int) ≠ x := by simp [delW]
theorem delW_sub (x : Int) (lo : List (Nat × Nat)) : (delW x lo).Sublist lo := List.filter_sublist
theorem delW_none {x : Int} {lo : List (Nat × Nat)} (h : ∀ e ∈ lo, (e.1 : Int) ≠ x) : delW x lo = lo := by
  unfold delW
  rw [List.filter_eq_self]
  intro e he
  simpa using h e he
theorem wasL_key {old : Nat → List UInt8} {lo : List (Nat × Nat)} {x : Int} (h : ∀ e ∈ lo, (e.1 : Int) ≠ x) : ∀ e ∈ wasL old lo, e.1 ≠ x := by
  intro e he
  obtain ⟨a, ha, rfl⟩ := List.mem_map.1 he
  exact h a ha
theorem Was.del {w : World} {M n c : Nat} {old : Nat → List UInt8} {lo : List (Nat × Nat)} (h : Was w M n old lo c) (x : Int) : Was (mapTo w M (.map (ents (wasL old (delW x lo))).toArray c)) M n old (delW x lo) c :=
  ⟨mapTo_at h.map, h.key.sublist ((delW_sub x lo).map _), h.born.sublist ((delW_sub x lo).map _), fun e he => h.lt e (mem_delW.1 he).1, fun e he => h.len e (mem_delW.1 he).1⟩
theorem Was.run_del {P : Program} {T K E : TypeId} {w : World} {M n c : Nat} {old : Nat → List UInt8} {lo : List (Nat × Nat)} (h : Was w M n old lo c) (hT : P.underlying T = some (.map K E)) (hK : P.underlying K = some (.int .i64)) (x : Int) (ty : TypeId) :
    (Builtin.delete_ #[T, K] ty #[.map (some M), .int .i64 x]).run P w = .ok (.tuple #[]) (mapTo w M (.map (ents (wasL old (delW x lo))).toArray c)) := by
  by_cases hx : ∃ e ∈ lo, (e.1 : Int) = x
  · obtain ⟨e, he, rfl⟩ := hx
    obtain ⟨l1, l2, rfl⟩ := List.append_of_mem he
    have hk := h.key
    rw [List.map_append, List.map_cons] at hk
    have hk1 : ∀ a ∈ l1, (a.1 : Int) ≠ e.1 := fun a ha q => by
      have q2 : a.1 = e.1 := by omega
      have := (List.nodup_append.1 hk).2.2 a.1 (List.mem_map_of_mem ha) e.1 (by simp)
      exact this q2
    have hk2 : ∀ a ∈ l2, (a.1 : Int) ≠ e.1 := fun a ha q => by
      have q2 : a.1 = e.1 := by omega
      have := (List.nodup_cons.1 (List.nodup_append.1 hk).2.1).1
      exact this (q2 ▸ List.mem_map_of_mem ha)
    have e1 : delW (e.1 : Int) (l1 ++ e :: l2) = l1 ++ l2 := by
      unfold delW
      rw [List.filter_append, List.filter_cons_of_neg (by simp)]
      have := delW_none hk1
      have h2 := delW_none hk2
      unfold delW at this h2
      rw [this, h2]
    rw [e1]
    have hm := h.map
    unfold wasL at hm ⊢
    rw [List.map_append, List.map_cons] at hm
    rw [List.map_append]
    exact run_delete_here hT hK _ _ _ _ _ hm (wasL_key (old := old) hk1) ty
  · have hn : ∀ e ∈ lo, (e.1 : Int) ≠ x := fun e he q => hx ⟨e, he, q⟩
    rw [delW_none hn]
    exact run_delete_absent hT hK h.map x (wasL_key hn) ty
/-- what is left behind those of a list were taken out, but one -/
def delK (torn : Int) : List Int → List (Nat × Nat) → List (Nat × Nat)
  | [], lo => lo
  | x :: r, lo => delK torn r (if x = torn then lo else delW x lo)
theorem delK_app (torn : Int) (a b : List Int) : ∀ lo, delK torn (a ++ b) lo = delK torn b (delK torn a lo) := by
  induction a with
  | nil => intro lo; rfl
  | cons x a ih => intro lo; exact ih _
theorem mem_delK (torn : Int) (ks : List Int) : ∀ (lo : List (Nat × Nat)) (e : Nat × Nat), e ∈ delK torn ks lo ↔ e ∈ lo ∧ ((e.1 : Int) ∈ ks → (e.1 : Int) = torn) := by
  induction ks with
  | nil => intro lo e; simp [delK]
  | cons x r ih =>
    intro lo e
    simp only [delK]
    rw [ih]
    by_cases h : x = torn
    · rw [if_pos h]
      constructor
      · rintro ⟨h1, h2⟩
        refine ⟨h1, fun h3 => ?_⟩
        rcases List.mem_cons.1 h3 with h4 | h4
        · omega
        · exact h2 h4
      · rintro ⟨h1, h2⟩; exact ⟨h1, fun h3 => h2 (by simp [h3])⟩
    · rw [if_neg h, mem_delW]
      constructor
      · rintro ⟨⟨h1, h1'⟩, h2⟩
        refine ⟨h1, fun h3 => ?_⟩
        rcases List.mem_cons.1 h3 with h4 | h4
        · exact absurd h4 h1'
        · exact h2 h4
      · rintro ⟨h1, h2⟩
        exact ⟨⟨h1, fun q => h (by have := h2 (by simp [q]); omega)⟩, fun h3 => h2 (by simp [h3])⟩
/-! what a crash leaves of a page -/
def lastsOf (torn cut : Int) (i : Nat) : Nat := if (i : Int) = torn then (min (max cut 0) 128).toNat else 0
theorem lasts_le (torn cut : Int) (i : Nat) : lastsOf torn cut i ≤ 128 := by unfold lastsOf; split <;> omega
def patch (pg old : Nat → List UInt8) (torn cut : Int) (i : Nat) : List UInt8 := (pg i).take (lastsOf torn cut i) ++ (old i).drop (lastsOf torn cut i)
/-- the pages behind those entries that were seen -/
def pgS (pg old : Nat → List UInt8) (torn cut : Int) (lo : List (Nat × Nat)) (seen : Array Nat) (i : Nat) : List UInt8 :=
  if ∃ e ∈ lo, e.1 = i ∧ seen.contains e.2 = true then patch pg old torn cut i else pg i
def pgC (pg old : Nat → List UInt8) (torn cut : Int) (lo : List (Nat × Nat)) (i : Nat) : List UInt8 :=
  if ∃ e ∈ lo, e.1 = i then patch pg old torn cut i else pg i
theorem pgS_none (pg old : Nat → List UInt8) (torn cut : Int) (lo : List (Nat × Nat)) : pgS pg old torn cut lo #[] = pg := by
  funext i
  unfold pgS
  rw [if_neg]
  rintro ⟨e, _, _, h⟩
  simp at h
theorem pgS_all (pg old : Nat → List UInt8) (torn cut : Int) (lo : List (Nat × Nat)) (seen : Array Nat) (h : ∀ e ∈ lo, seen.contains e.2 = true) : pgS pg old torn cut lo seen = pgC pg old torn cut lo := by
  funext i
  unfold pgS pgC
  by_cases h1 : ∃ e ∈ lo, e.1 = i
  · obtain ⟨e, h2, h3⟩ := h1
    rw [if_pos ⟨e, h2, h3, h e h2⟩, if_pos ⟨e, h2, h3⟩]
  · rw [if_neg h1, if_neg]
    rintro ⟨e, h2, h3, _⟩
    exact h1 ⟨e, h2, h3⟩
theorem snd_inj : ∀ {l : List (Nat × Nat)}, (l.map (·.2)).Nodup → ∀ {x e : Nat × Nat}, x ∈ l → e ∈ l → x.2 = e.2 → x = e
  | [], _, _, _, hx, _, _ => by simp at hx
  | a :: l, hb, x, e, hx, he, h => by
    rw [List.map_cons, List.nodup_cons] at hb
    rcases List.mem_cons.1 hx with e1 | hx2
    · rcases List.mem_cons.1 he with e2 | he2
      · rw [e1, e2]
      · subst e1; exact absurd (h ▸ List.mem_map_of_mem he2) hb.1
    · rcases List.mem_cons.1 he with e2 | he2
      · subst e2; exact absurd (h ▸ List.mem_map_of_mem hx2) hb.1
      · exact snd_inj hb.2 hx2 he2 h
theorem fst_inj : ∀ {l : List (Nat × Nat)}, (l.map (·.1)).Nodup → ∀ {x e : Nat × Nat}, x ∈ l → e ∈ l → x.1 = e.1 → x = e
  | [], _, _, _, hx, _, _ => by simp at hx
  | a :: l, hb, x, e, hx, he, h => by
    rw [List.map_cons, List.nodup_cons] at hb
    rcases List.mem_cons.1 hx with e1 | hx2
    · rcases List.mem_cons.1 he with e2 | he2
      · rw [e1, e2]
      · subst e1; exact absurd (h ▸ List.mem_map_of_mem he2) hb.1
    · rcases List.mem_cons.1 he with e2 | he2
      · subst e2; exact absurd (h ▸ List.mem_map_of_mem hx2) hb.1
      · exact fst_inj hb.2 hx2 he2 h
theorem pgS_push (pg old : Nat → List UInt8) (torn cut : Int) (lo : List (Nat × Nat)) (seen : Array Nat) (i b : Nat) (hm : (i, b) ∈ lo) (hk : (lo.map (·.1)).Nodup) (hb : (lo.map (·.2)).Nodup) :
    pgS pg old torn cut lo (seen.push b) = fun j => if j = i then patch pg old torn cut i else pgS pg old torn cut lo seen j := by
  funext j
  by_cases h : j = i
  · subst h
    unfold pgS
    rw [if_pos ⟨(j, b), hm, rfl, by rw [contains_push]; simp⟩, if_pos rfl]
  · rw [if_neg h]
    unfold pgS
    have : (∃ e ∈ lo, e.1 = j ∧ (seen.push b).contains e.2 = true) ↔ (∃ e ∈ lo, e.1 = j ∧ seen.contains e.2 = true) := by
      constructor
      · rintro ⟨e, h1, h2, h3⟩
        refine ⟨e, h1, h2, ?_⟩
        rw [contains_push] at h3
        rcases Bool.or_eq_true _ _ ▸ h3 with h4 | h4
        · exact h4
        · have h5 : e.2 = b := by simpa using h4
          have h6 : e = (i, b) := by
            exact snd_inj hb h1 hm h5
          rw [h6] at h2
          exact absurd h2.symm h
      · rintro ⟨e, h1, h2, h3⟩
        exact ⟨e, h1, h2, by rw [contains_push, h3]; rfl⟩
    by_cases hp : ∃ e ∈ lo, e.1 = j ∧ seen.contains e.2 = true
    · rw [if_pos (this.2 hp), if_pos hp]
    · rw [if_neg (fun q => hp (this.1 q)), if_neg hp]
theorem patch_len {pg old : Nat → List UInt8} {torn cut : Int} {i : Nat} (h1 : (pg i).length = 128) (h2 : (old i).length = 128) : (patch pg old torn cut i).length = 128 := by
  have := lasts_le torn cut i
  unfold patch
  rw [List.length_append, List.length_take, List.length_drop]
  omega
end Go.Proofs.Ytfgjcgonlpbdbaa
