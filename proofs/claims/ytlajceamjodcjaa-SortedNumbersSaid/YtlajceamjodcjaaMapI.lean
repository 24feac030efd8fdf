/- Maps of ints by ints beside a table: what is looked up and turned where the key is there. -/
import Derived.Test.YtlajceamjodcjaaPgMap
import Derived.Test.YtlajceamjodcjaaTabPlain
namespace Go.Proofs.Ytlajceamjodcjaa
open Go Go.RowKit
set_option linter.unusedVariables false

section
variable {P : Program} {w : World} {T K E : TypeId} {r c : Nat}
theorem run_lookup1_here (hT : P.underlying T = some (.map K E)) (hK : P.underlying K = some (.int .i64)) (k : Int) (v : Value) (b : Nat) (l1 l2 : List (Int × Value × Nat)) (hb : w.heap[r]? = some (.map (ents (l1 ++ (k, v, b) :: l2)).toArray c)) (hk : ∀ e ∈ l1, e.1 ≠ k) :
    (Instr.lookup T (.map (some r)) (.int .i64 k) false).run P w = .ok v w := by
  have hg := MapKept.run_getObj_map (P := P) hb
  have hf := run_find hK k (ents (l1 ++ (k, v, b) :: l2)) _ (find_here k v b l1 l2 0 hk) w
  have hck := fun e => MapKept.run_checkKey (P := P) (w := w) (k := .int .i64 k) hK rfl e 9999
  unfold Instr.lookup
  simp only [Sem.run_bind, run_underlying hT, Result.andThen_ok, hg, Sem.run_pure, hck, hf]
  rfl
theorem run_update_here (hT : P.underlying T = some (.map K E)) (hK : P.underlying K = some (.int .i64)) (k : Int) (v v' : Value) (b : Nat) (l1 l2 : List (Int × Value × Nat)) (hb : w.heap[r]? = some (.map (ents (l1 ++ (k, v, b) :: l2)).toArray c)) (hk : ∀ e ∈ l1, e.1 ≠ k) :
    (Instr.mapUpdate T (.map (some r)) (.int .i64 k) v').run P w = .ok () (mapTo w r (.map (ents (l1 ++ (k, v', b) :: l2)).toArray c)) := by
  have hg := MapKept.run_getObj_map (P := P) hb
  have hf := run_find hK k (ents (l1 ++ (k, v, b) :: l2)) _ (find_here k v b l1 l2 0 hk) w
  have hck := fun e => MapKept.run_checkKey (P := P) (w := w) (k := .int .i64 k) hK rfl e 9999
  have hs := MapKept.run_setObj_map (P := P) (.map (ents (l1 ++ (k, v', b) :: l2)).toArray c) hb
  have he : ((ents (l1 ++ (k, v, b) :: l2)).toArray.modify (0 + l1.length) fun e => { e with key := .int .i64 k, val := v' }) = (ents (l1 ++ (k, v', b) :: l2)).toArray := by
    apply Array.ext_getElem?
    intro j
    rw [Array.getElem?_modify]
    simp only [ents, List.map_append, List.map_cons, List.getElem?_toArray, Nat.zero_add]
    by_cases h1 : l1.length = j
    · subst h1; simp
    · rw [if_neg h1]
      by_cases h2 : j < l1.length
      · rw [List.getElem?_append_left (by simpa using h2), List.getElem?_append_left (by simpa using h2)]
      · rw [List.getElem?_append_right (by simp; omega), List.getElem?_append_right (by simp; omega)]
        simp only [List.length_map]
        rw [show j - l1.length = (j - l1.length - 1) + 1 by omega, List.getElem?_cons_succ, List.getElem?_cons_succ]
  have hks : ∀ (x : Value) (W : World), (Instr.keyThatStays (.int .i64 k) (.int .i64 k)).run P W = .ok (.int .i64 k) W := fun x W => MapKept.run_keyThatStays (d := .int .i64) rfl
  have hel : (((ents (l1 ++ (k, v, b) :: l2)).toArray[0 + l1.length]?).map (·.key)).getD (.int .i64 k) = .int .i64 k := by simp [ents]
  unfold Instr.mapUpdate
  simp only [Sem.run_bind, run_underlying hT, Result.andThen_ok, hg, hck, hf, hel, hks (.int .i64 k), he]
  exact hs
end
/-- a map that has what a table has -/
structure MapI (ml : List (Int × Value × Nat)) (K V : List Int) : Prop where
  nodup : (ml.map (·.1)).Nodup
  has : ∀ e ∈ ml, ∃ v, e.2.1 = .int .i64 v ∧ tabAt K V e.1 = some v
  all : ∀ x ∈ K, ∃ e ∈ ml, e.1 = x
theorem MapI.nil : MapI [] [] [] := ⟨List.nodup_nil, fun e he => by simp at he, fun x hx => by simp at hx⟩
theorem MapI.mem {ml : List (Int × Value × Nat)} {K V : List Int} (h : MapI ml K V) (x : Int) : x ∈ ml.map (·.1) ↔ x ∈ K := by
  constructor
  · intro hx
    obtain ⟨e, he, rfl⟩ := List.mem_map.1 hx
    obtain ⟨v, _, h2⟩ := h.has e he
    unfold tabAt at h2
    split at h2
    · assumption
    · cases h2
  · intro hx
    obtain ⟨e, he, e1⟩ := h.all x hx
    exact List.mem_map.2 ⟨e, he, e1⟩
theorem MapI.len {ml : List (Int × Value × Nat)} {K V : List Int} (h : MapI ml K V) (hr : Rise K) : ml.length = K.length := by
  have hn : K.Nodup := List.Pairwise.imp (fun h => by omega) hr
  have := (List.perm_ext_iff_of_nodup h.nodup hn).2 h.mem
  simpa using this.length_eq
theorem MapI.split {ml : List (Int × Value × Nat)} {K V : List Int} (h : MapI ml K V) {x : Int} (hx : x ∈ K) : ∃ l1 l2 v b, ml = l1 ++ (x, .int .i64 v, b) :: l2 ∧ (∀ e ∈ l1, e.1 ≠ x) ∧ (∀ e ∈ l2, e.1 ≠ x) ∧ tabAt K V x = some v := by
  obtain ⟨⟨x', u, b⟩, he, rfl⟩ := h.all x hx
  obtain ⟨v, h1, h2⟩ := h.has _ he
  simp only at h1
  subst h1
  obtain ⟨l1, l2, rfl⟩ := List.append_of_mem he
  have hn := h.nodup
  rw [List.map_append, List.map_cons, List.nodup_append, List.nodup_cons] at hn
  refine ⟨l1, l2, v, b, rfl, fun e he1 e1 => ?_, fun e he1 e1 => ?_, h2⟩
  · exact hn.2.2 e.1 (List.mem_map.2 ⟨e, he1, rfl⟩) x' (List.mem_cons_self ..) e1
  · exact hn.2.1.1 (List.mem_map.2 ⟨e, he1, e1⟩)
theorem MapI.put_here {l1 l2 : List (Int × Value × Nat)} {K V : List Int} {x v y : Int} {b : Nat} (h : MapI (l1 ++ (x, .int .i64 v, b) :: l2) K V) (hr : Rise K) (hl : V.length = K.length) (h1 : ∀ e ∈ l1, e.1 ≠ x) (h2 : ∀ e ∈ l2, e.1 ≠ x) : MapI (l1 ++ (x, .int .i64 y, b) :: l2) (keyPut K x) (valPut K V x y) := by
  refine ⟨by have := h.nodup; simpa using this, fun e he => ?_, fun z hz => ?_⟩
  · rw [tab_put hr hl]
    rcases List.mem_append.1 he with he1 | he1
    · rw [if_neg (h1 e he1)]
      exact h.has e (List.mem_append_left _ he1)
    · rcases List.mem_cons.1 he1 with rfl | he1
      · exact ⟨y, rfl, if_pos rfl⟩
      · rw [if_neg (h2 e he1)]
        exact h.has e (List.mem_append_right _ (List.mem_cons_of_mem _ he1))
  · have key : ∀ z, (∃ e ∈ l1 ++ (x, Value.int .i64 v, b) :: l2, e.1 = z) → ∃ e ∈ l1 ++ (x, Value.int .i64 y, b) :: l2, e.1 = z := by
      rintro z ⟨e, he, rfl⟩
      rcases List.mem_append.1 he with he | he
      · exact ⟨e, List.mem_append_left _ he, rfl⟩
      · rcases List.mem_cons.1 he with rfl | he
        · exact ⟨_, List.mem_append_right _ (List.mem_cons_self ..), rfl⟩
        · exact ⟨e, List.mem_append_right _ (List.mem_cons_of_mem _ he), rfl⟩
    rcases (mem_keyPut K x z).1 hz with rfl | hz
    · exact ⟨_, List.mem_append_right _ (List.mem_cons_self ..), rfl⟩
    · exact key z (h.all z hz)
theorem MapI.put_new {ml : List (Int × Value × Nat)} {K V : List Int} {x y : Int} {b : Nat} (h : MapI ml K V) (hr : Rise K) (hl : V.length = K.length) (hx : x ∉ K) : MapI (ml ++ [(x, .int .i64 y, b)]) (keyPut K x) (valPut K V x y) := by
  have hne : ∀ e ∈ ml, e.1 ≠ x := fun e he e1 => hx ((h.mem x).1 (List.mem_map.2 ⟨e, he, e1⟩))
  refine ⟨?_, fun e he => ?_, fun z hz => ?_⟩
  · rw [List.map_append, List.nodup_append]
    refine ⟨h.nodup, by simp, fun a ha c hc e => ?_⟩
    simp at hc
    subst hc
    obtain ⟨e', he', rfl⟩ := List.mem_map.1 ha
    exact hne e' he' e
  · rw [tab_put hr hl]
    rcases List.mem_append.1 he with he | he
    · rw [if_neg (hne e he)]; exact h.has e he
    · rw [List.mem_singleton.1 he]; exact ⟨y, rfl, if_pos rfl⟩
  · rcases (mem_keyPut K x z).1 hz with rfl | hz
    · exact ⟨_, List.mem_append_right _ (List.mem_singleton.2 rfl), rfl⟩
    · obtain ⟨e, he, e1⟩ := h.all z hz
      exact ⟨e, List.mem_append_left _ he, e1⟩
end Go.Proofs.Ytlajceamjodcjaa
