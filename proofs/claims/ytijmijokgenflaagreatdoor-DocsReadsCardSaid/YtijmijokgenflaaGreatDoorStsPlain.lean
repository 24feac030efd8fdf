/- A stable order, plain: lists merged, and sorted by insertion. No number of a program stands here. -/
import Derived.Test.YtijmijokgenflaaGreatDoorProg
namespace Go.Proofs.YtijmijokgenflaaGreatDoor
set_option linter.unusedVariables false

section
variable {α : Type}
/-- two lists as one: of those that stand alike the first list's come first -/
def mrg (lt : α → α → Bool) : List α → List α → List α
  | [], V => V
  | u :: U, [] => u :: U
  | u :: U, v :: V => if lt v u then v :: mrg lt (u :: U) V else u :: mrg lt U (v :: V)
termination_by U V => U.length + V.length
variable {lt : α → α → Bool}
theorem mrg_nil (V : List α) : mrg lt [] V = V := by rw [mrg]
theorem mrg_nil2 (U : List α) : mrg lt U [] = U := by cases U <;> rw [mrg]
theorem mrg_cons (u v : α) (U V : List α) : mrg lt (u :: U) (v :: V) = if lt v u then v :: mrg lt (u :: U) V else u :: mrg lt U (v :: V) := by rw [mrg]
structure SW (lt : α → α → Bool) : Prop where
  irr : ∀ x, lt x x = false
  tr : ∀ x y z, lt x y = true → lt y z = true → lt x z = true
  ng : ∀ x y z, lt x y = false → lt y z = false → lt x z = false
theorem SW.asym (h : SW lt) {x y : α} (hxy : lt x y = true) : lt y x = false := by
  cases e : lt y x with
  | false => rfl
  | true => have := h.tr x y x hxy e; rw [h.irr x] at this; cases this
/-- the lists fall apart where all of the first parts stand ahead of all of the second ones -/
theorem mrg_split : ∀ (n : Nat) (U1 U2 V1 V2 : List α), U1.length + V1.length ≤ n → (∀ u ∈ U1, ∀ v ∈ V2, lt v u = false) → (∀ v ∈ V1, ∀ u ∈ U2, lt v u = true) → mrg lt (U1 ++ U2) (V1 ++ V2) = mrg lt U1 V1 ++ mrg lt U2 V2
  | 0, U1, U2, V1, V2, hn, _, _ => by
    obtain rfl := List.eq_nil_of_length_eq_zero (show U1.length = 0 by omega)
    obtain rfl := List.eq_nil_of_length_eq_zero (show V1.length = 0 by omega)
    rw [mrg_nil]; rfl
  | n + 1, [], U2, [], V2, _, _, _ => by rw [mrg_nil]; rfl
  | n + 1, [], [], v :: V1, V2, _, _, _ => by simp only [List.nil_append, mrg_nil]
  | n + 1, [], u :: U2, v :: V1, V2, hn, h1, h2 => by
    have e := h2 v (by simp) u (by simp)
    have ih := mrg_split n [] (u :: U2) V1 V2 (by simp at hn ⊢; omega) (by simp) (fun x hx y hy => h2 x (by simp [hx]) y hy)
    simp only [List.nil_append, List.cons_append, mrg_nil] at ih ⊢
    rw [mrg_cons, if_pos e, ih]
  | n + 1, u :: U1, U2, [], [], _, _, _ => by simp only [List.append_nil, mrg_nil2]
  | n + 1, u :: U1, U2, [], v :: V2, hn, h1, h2 => by
    have e := h1 u (by simp) v (by simp)
    have ih := mrg_split n U1 U2 [] (v :: V2) (by simp at hn ⊢; omega) (fun x hx y hy => h1 x (by simp [hx]) y hy) (by simp)
    simp only [List.nil_append, List.cons_append, mrg_nil2] at ih ⊢
    rw [mrg_cons, e, if_neg (by decide), ih]
  | n + 1, u :: U1, U2, v :: V1, V2, hn, h1, h2 => by
    simp only [List.cons_append]
    rw [mrg_cons, mrg_cons]
    cases e : lt v u with
    | true =>
      have ih := mrg_split n (u :: U1) U2 V1 V2 (by simp at hn ⊢; omega) h1 (fun x hx y hy => h2 x (by simp [hx]) y hy)
      simp only [List.cons_append] at ih
      rw [if_pos rfl, if_pos rfl, ih]; rfl
    | false =>
      have ih := mrg_split n U1 U2 (v :: V1) V2 (by simp at hn ⊢; omega) (fun x hx y hy => h1 x (by simp [hx]) y hy) h2
      simp only [List.cons_append] at ih
      rw [if_neg (by decide), if_neg (by decide), ih]; rfl
def Srt (lt : α → α → Bool) (L : List α) : Prop := L.Pairwise fun x y => lt y x = false
theorem mrg_perm : ∀ (n : Nat) (U V : List α), U.length + V.length ≤ n → (mrg lt U V).Perm (U ++ V)
  | _, [], V, _ => by rw [mrg_nil]; exact List.Perm.refl _
  | _, u :: U, [], _ => by rw [mrg_nil2, List.append_nil]
  | 0, u :: U, v :: V, h => by simp at h
  | n + 1, u :: U, v :: V, h => by
    rw [mrg_cons]
    split
    · refine ((mrg_perm n (u :: U) V (by simp at h ⊢; omega)).cons v).trans ?_
      exact List.perm_middle.symm
    · exact (mrg_perm n U (v :: V) (by simp at h ⊢; omega)).cons u
theorem mrg_mem {U V : List α} {x : α} : x ∈ mrg lt U V ↔ x ∈ U ∨ x ∈ V := by
  rw [(mrg_perm _ U V (Nat.le_refl _)).mem_iff, List.mem_append]
theorem mrg_len (U V : List α) : (mrg lt U V).length = U.length + V.length := by
  rw [(mrg_perm _ U V (Nat.le_refl _)).length_eq, List.length_append]
theorem mrg_srt (h : SW lt) : ∀ (n : Nat) (U V : List α), U.length + V.length ≤ n → Srt lt U → Srt lt V → Srt lt (mrg lt U V)
  | _, [], V, _, _, hV => by rw [mrg_nil]; exact hV
  | _, u :: U, [], _, hU, _ => by rw [mrg_nil2]; exact hU
  | 0, u :: U, v :: V, hn, _, _ => by simp at hn
  | n + 1, u :: U, v :: V, hn, hU, hV => by
    have hU' := List.pairwise_cons.1 hU; have hV' := List.pairwise_cons.1 hV
    rw [mrg_cons]
    cases e : lt v u with
    | true =>
      rw [if_pos rfl]
      refine List.pairwise_cons.2 ⟨fun x hx => ?_, mrg_srt h n (u :: U) V (by simp at hn ⊢; omega) hU hV'.2⟩
      have hux := h.asym e
      rcases mrg_mem.1 hx with hx | hx
      · rcases List.mem_cons.1 hx with rfl | hx
        · exact hux
        · exact h.ng x u v (hU'.1 x hx) hux
      · exact hV'.1 x hx
    | false =>
      rw [if_neg (by decide)]
      refine List.pairwise_cons.2 ⟨fun x hx => ?_, mrg_srt h n U (v :: V) (by simp at hn ⊢; omega) hU'.2 hV⟩
      rcases mrg_mem.1 hx with hx | hx
      · exact hU'.1 x hx
      · rcases List.mem_cons.1 hx with rfl | hx
        · exact e
        · exact h.ng x v u (hV'.1 x hx) e
theorem mrg_assoc (h : SW lt) : ∀ (n : Nat) (U V W : List α), U.length + V.length + W.length ≤ n → mrg lt (mrg lt U V) W = mrg lt U (mrg lt V W)
  | _, [], V, W, _ => by rw [mrg_nil, mrg_nil]
  | _, u :: U, [], W, _ => by rw [mrg_nil2, mrg_nil]
  | _, u :: U, v :: V, [], _ => by rw [mrg_nil2, mrg_nil2]
  | 0, u :: U, v :: V, w :: W, hn => by simp at hn
  | n + 1, u :: U, v :: V, w :: W, hn => by
    simp only [List.length_cons] at hn
    have i1 := mrg_assoc h n U (v :: V) (w :: W) (by simp; omega)
    have i2 := mrg_assoc h n (u :: U) V (w :: W) (by simp; omega)
    have i3 := mrg_assoc h n (u :: U) (v :: V) W (by simp; omega)
    cases e1 : lt v u with
    | true =>
      have l1 : mrg lt (u :: U) (v :: V) = v :: mrg lt (u :: U) V := by rw [mrg_cons, e1, if_pos rfl]
      cases e2 : lt w v with
      | true =>
        have e3 := h.tr w v u e2 e1
        have l2 : mrg lt (v :: V) (w :: W) = w :: mrg lt (v :: V) W := by rw [mrg_cons, e2, if_pos rfl]
        rw [l1, l2, mrg_cons, e2, if_pos rfl, mrg_cons, e3, if_pos rfl, ← l1, i3]
      | false =>
        have l2 : mrg lt (v :: V) (w :: W) = v :: mrg lt V (w :: W) := by rw [mrg_cons, e2, if_neg (by decide)]
        rw [l1, l2, mrg_cons, e2, if_neg (by decide), mrg_cons, e1, if_pos rfl, i2]
    | false =>
      have l1 : mrg lt (u :: U) (v :: V) = u :: mrg lt U (v :: V) := by rw [mrg_cons, e1, if_neg (by decide)]
      cases e2 : lt w v with
      | true =>
        have l2 : mrg lt (v :: V) (w :: W) = w :: mrg lt (v :: V) W := by rw [mrg_cons, e2, if_pos rfl]
        cases e3 : lt w u with
        | true => rw [l1, l2, mrg_cons, e3, if_pos rfl, mrg_cons, e3, if_pos rfl, ← l1, i3]
        | false => rw [l1, l2, mrg_cons, e3, if_neg (by decide), mrg_cons, e3, if_neg (by decide), ← l2, i1]
      | false =>
        have e3 := h.ng w v u e2 e1
        have l2 : mrg lt (v :: V) (w :: W) = v :: mrg lt V (w :: W) := by rw [mrg_cons, e2, if_neg (by decide)]
        rw [l1, l2, mrg_cons, e3, if_neg (by decide), mrg_cons, e1, if_neg (by decide), ← l2, i1]
/-- a list sorted by insertion: the stable order -/
def isrt (lt : α → α → Bool) (L : List α) : List α := L.foldl (fun a z => mrg lt a [z]) []
theorem isrt_nil : isrt lt [] = [] := rfl
theorem isrt_snoc (L : List α) (z : α) : isrt lt (L ++ [z]) = mrg lt (isrt lt L) [z] := by rw [isrt, List.foldl_append]; rfl
theorem isrt_fold (h : SW lt) : ∀ (B X Y : List α), B.foldl (fun a z => mrg lt a [z]) (mrg lt X Y) = mrg lt X (B.foldl (fun a z => mrg lt a [z]) Y)
  | [], X, Y => rfl
  | b :: B, X, Y => by rw [List.foldl_cons, List.foldl_cons, mrg_assoc h _ X Y [b] (Nat.le_refl _), isrt_fold h B]
theorem isrt_app (h : SW lt) (A B : List α) : isrt lt (A ++ B) = mrg lt (isrt lt A) (isrt lt B) := by
  rw [isrt, List.foldl_append]
  have := isrt_fold h B (isrt lt A) []
  rw [mrg_nil2] at this
  exact this
theorem isrt_fold_perm : ∀ (B X : List α), (B.foldl (fun a z => mrg lt a [z]) X).Perm (X ++ B)
  | [], X => by simp
  | b :: B, X => by
    rw [List.foldl_cons]
    refine (isrt_fold_perm B _).trans ?_
    have := (mrg_perm _ X [b] (Nat.le_refl _) (lt := lt)).append_right B
    simpa using this
theorem isrt_perm (L : List α) : (isrt lt L).Perm L := by have := isrt_fold_perm (lt := lt) L []; unfold isrt; simpa using this
theorem isrt_len (L : List α) : (isrt lt L).length = L.length := (isrt_perm L).length_eq
theorem isrt_fold_srt (h : SW lt) : ∀ (B X : List α), Srt lt X → Srt lt (B.foldl (fun a z => mrg lt a [z]) X)
  | [], X, hX => hX
  | b :: B, X, hX => isrt_fold_srt h B _ (mrg_srt h _ X [b] (Nat.le_refl _) hX (List.pairwise_singleton _ _))
theorem isrt_srt (h : SW lt) (L : List α) : Srt lt (isrt lt L) := isrt_fold_srt h L [] List.Pairwise.nil
theorem srt_at {L : List α} (h : Srt lt L) {i j : Nat} (hi : i < j) (hj : j < L.length) : lt L[j] (L[i]'(by omega)) = false := List.pairwise_iff_getElem.1 h i j (by omega) hj hi
/-- what stands up to a place -/
theorem srt_upto (h : SW lt) {U : List α} (hU : Srt lt U) {s : Nat} (hs : s < U.length) {z : α} (hz : lt z U[s] = false) : ∀ u ∈ U.take (s + 1), lt z u = false := by
  intro u hu
  obtain ⟨k, hk, rfl⟩ := List.mem_iff_getElem.1 hu
  rw [List.length_take] at hk
  rw [List.getElem_take]
  rcases Nat.lt_or_ge k s with h1 | h1
  · exact h.ng _ _ _ hz (srt_at hU h1 hs)
  · obtain rfl : k = s := by omega
    exact hz
theorem srt_from (h : SW lt) {V : List α} (hV : Srt lt V) {t : Nat} (ht : t < V.length) {z : α} (hz : lt V[t] z = false) : ∀ v ∈ V.drop t, lt v z = false := by
  intro v hv
  obtain ⟨k, hk, rfl⟩ := List.mem_iff_getElem.1 hv
  rw [List.length_drop] at hk
  rw [List.getElem_drop]
  rcases Nat.eq_zero_or_pos k with h1 | h1
  · subst h1; exact hz
  · exact h.ng _ _ _ (srt_at hV (i := t) (j := t + k) (by omega) (by omega)) hz
theorem srt_upto_lt (h : SW lt) {V : List α} (hV : Srt lt V) {t : Nat} (ht : t < V.length) {z : α} (hz : lt V[t] z = true) : ∀ v ∈ V.take (t + 1), lt v z = true := by
  intro v hv
  obtain ⟨k, hk, rfl⟩ := List.mem_iff_getElem.1 hv
  rw [List.length_take] at hk
  rw [List.getElem_take]
  rcases Nat.lt_or_ge k t with h1 | h1
  · cases e : lt V[k] z with
    | true => rfl
    | false => have := h.ng _ _ _ (srt_at hV h1 ht) e; rw [hz] at this; cases this
  · obtain rfl : k = t := by omega
    exact hz
theorem srt_from_lt (h : SW lt) {U : List α} (hU : Srt lt U) {s : Nat} (hs : s < U.length) {z : α} (hz : lt z U[s] = true) : ∀ u ∈ U.drop s, lt z u = true := by
  intro u hu
  obtain ⟨k, hk, rfl⟩ := List.mem_iff_getElem.1 hu
  rw [List.length_drop] at hk
  rw [List.getElem_drop]
  rcases Nat.eq_zero_or_pos k with h1 | h1
  · subst h1; exact hz
  · cases e : lt z U[s + k] with
    | true => rfl
    | false => have := h.ng _ _ _ e (srt_at hU (i := s) (j := s + k) (by omega) (by omega)); rw [hz] at this; cases this
theorem mrg_apart {U1 U2 V1 V2 : List α} (h1 : ∀ u ∈ U1, ∀ v ∈ V2, lt v u = false) (h2 : ∀ v ∈ V1, ∀ u ∈ U2, lt v u = true) : mrg lt (U1 ++ U2) (V1 ++ V2) = mrg lt U1 V1 ++ mrg lt U2 V2 := mrg_split _ _ _ _ _ (Nat.le_refl _) h1 h2
/-- one more put in -/
theorem mrg_one {U1 U2 : List α} {z : α} (h1 : ∀ u ∈ U1, lt z u = false) (h2 : ∀ u ∈ U2, lt z u = true) : mrg lt (U1 ++ U2) [z] = U1 ++ z :: U2 := by
  have e1 := mrg_apart (lt := lt) (U1 := U1) (U2 := U2) (V1 := []) (V2 := [z]) (fun u hu v hv => by rw [List.mem_singleton.1 hv]; exact h1 u hu) (by simp)
  have e2 := mrg_apart (lt := lt) (U1 := []) (U2 := U2) (V1 := [z]) (V2 := []) (by simp) (fun v hv u hu => by rw [List.mem_singleton.1 hv]; exact h2 u hu)
  simp only [List.nil_append, List.append_nil, mrg_nil, mrg_nil2] at e1 e2
  rw [e1, e2]; rfl
theorem mrg_one1 {V1 V2 : List α} {z : α} (h1 : ∀ v ∈ V1, lt v z = true) (h2 : ∀ v ∈ V2, lt v z = false) : mrg lt [z] (V1 ++ V2) = V1 ++ z :: V2 := by
  have e1 := mrg_apart (lt := lt) (U1 := []) (U2 := [z]) (V1 := V1) (V2 := V2) (by simp) (fun v hv u hu => by rw [List.mem_singleton.1 hu]; exact h1 v hv)
  have e2 := mrg_apart (lt := lt) (U1 := [z]) (U2 := []) (V1 := []) (V2 := V2) (fun u hu v hv => by rw [List.mem_singleton.1 hu]; exact h2 v hv) (by simp)
  simp only [List.nil_append, List.append_nil, mrg_nil, mrg_nil2] at e1 e2
  rw [e1, e2]; rfl
/-- blocks of so many, each in order -/
def blk (lt : α → α → Bool) (bs : Nat) (L : List α) : List α :=
  if h : L.length ≤ bs ∨ bs = 0 then isrt lt L else isrt lt (L.take bs) ++ blk lt bs (L.drop bs)
termination_by L.length
decreasing_by simp only [List.length_drop]; omega
theorem blk_small {bs : Nat} {L : List α} (h : L.length ≤ bs) : blk lt bs L = isrt lt L := by rw [blk, dif_pos (.inl h)]
theorem blk_ge {bs : Nat} {L : List α} (h : bs ≤ L.length) (h0 : 0 < bs) : blk lt bs L = isrt lt (L.take bs) ++ blk lt bs (L.drop bs) := by
  by_cases h1 : L.length ≤ bs
  · rw [blk_small h1, List.take_of_length_le h1, blk_small (by simp; omega), List.drop_of_length_le h1, isrt_nil, List.append_nil]
  · rw [blk, dif_neg (by omega)]
theorem blk_len {bs : Nat} (h0 : 0 < bs) : ∀ (n : Nat) (L : List α), L.length ≤ n → (blk lt bs L).length = L.length
  | 0, L, h => by rw [blk_small (by omega), isrt_len]
  | n + 1, L, h => by
    by_cases h1 : L.length ≤ bs
    · rw [blk_small h1, isrt_len]
    · rw [blk_ge (by omega) h0, List.length_append, isrt_len, blk_len h0 n (L.drop bs) (by simp; omega), List.length_take, List.length_drop]; omega
/-- two neighbouring blocks merged are one of twice as many -/
theorem blk_two (h : SW lt) {bs : Nat} (h0 : 0 < bs) {L : List α} (hl : 2 * bs ≤ L.length) :
    ∃ U V, blk lt bs L = U ++ (V ++ blk lt bs (L.drop (2 * bs))) ∧ U.length = bs ∧ V.length = bs ∧ Srt lt U ∧ Srt lt V ∧ blk lt (2 * bs) L = mrg lt U V ++ blk lt (2 * bs) (L.drop (2 * bs)) := by
  refine ⟨isrt lt (L.take bs), isrt lt ((L.drop bs).take bs), ?_, by rw [isrt_len, List.length_take]; omega, by rw [isrt_len, List.length_take, List.length_drop]; omega, isrt_srt h _, isrt_srt h _, ?_⟩
  · rw [blk_ge (by omega) h0, blk_ge (L := L.drop bs) (by simp; omega) h0, List.drop_drop, Nat.two_mul]
  · rw [blk_ge (bs := 2 * bs) (by omega) (by omega), ← isrt_app h, Nat.two_mul, List.take_add]
theorem blk_rest (h : SW lt) {bs : Nat} (h0 : 0 < bs) {L : List α} (hl : bs < L.length) (h2 : L.length ≤ 2 * bs) :
    ∃ U V, blk lt bs L = U ++ V ∧ U.length = bs ∧ V.length = L.length - bs ∧ Srt lt U ∧ Srt lt V ∧ blk lt (2 * bs) L = mrg lt U V := by
  refine ⟨isrt lt (L.take bs), isrt lt (L.drop bs), ?_, by rw [isrt_len, List.length_take]; omega, by rw [isrt_len, List.length_drop], isrt_srt h _, isrt_srt h _, ?_⟩
  · rw [blk_ge (by omega) h0, blk_small (L := L.drop bs) (by simp; omega)]
  · rw [blk_small h2, ← isrt_app h, List.take_append_drop]
end
end Go.Proofs.YtijmijokgenflaaGreatDoor
