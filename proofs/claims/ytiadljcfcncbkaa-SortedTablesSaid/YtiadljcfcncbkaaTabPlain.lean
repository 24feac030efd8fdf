/- sorted's tables, plain: keys that rise, and what stands by them. -/
import Derived.Test.YtiadljcfcncbkaaHpMerged
namespace Go.Proofs.Ytiadljcfcncbkaa
set_option linter.unusedVariables false

/-- keys that rise -/
def Rise (K : List Int) : Prop := K.Pairwise (· < ·)
/-- how many are below one -/
def posI (K : List Int) (x : Int) : Nat := K.countP (· < x)
def insI (l : List Int) (i : Nat) (x : Int) : List Int := l.take i ++ x :: l.drop i
def keyPut (K : List Int) (x : Int) : List Int := if x ∈ K then K else insI K (posI K x) x
def valPut (K V : List Int) (x y : Int) : List Int := if x ∈ K then V.set (posI K x) y else insI V (posI K x) y
/-- what stands by a key -/
def tabAt (K V : List Int) (x : Int) : Option Int := if x ∈ K then some (V.getD (posI K x) 0) else none
theorem posI_le (K : List Int) (x : Int) : posI K x ≤ K.length := List.countP_le_length
theorem rise_le {K : List Int} (h : Rise K) : K.Pairwise (· ≤ ·) := List.Pairwise.imp (fun h => by omega) h
/-- those below stand ahead -/
theorem pos_split : ∀ {K : List Int} (h : Rise K) (x : Int), (∀ y ∈ K.take (posI K x), y < x) ∧ (∀ y ∈ K.drop (posI K x), x ≤ y)
  | [], _, x => by simp [posI]
  | a :: K, h, x => by
    have h' := List.pairwise_cons.1 h
    obtain ⟨i1, i2⟩ := pos_split (K := K) h'.2 x
    unfold posI at *
    rw [List.countP_cons]
    by_cases ha : a < x
    · simp only [ha, decide_true, if_true, List.take_succ_cons, List.drop_succ_cons]
      refine ⟨fun y hy => ?_, i2⟩
      rcases List.mem_cons.1 hy with rfl | hy
      · exact ha
      · exact i1 y hy
    · have h0 : K.countP (· < x) = 0 := by
        rw [List.countP_eq_zero]
        intro y hy
        have := h'.1 y hy
        simp; omega
      simp only [ha, decide_false, h0]
      refine ⟨by simp, fun y hy => ?_⟩
      rcases List.mem_cons.1 (by simpa using hy) with rfl | hy
      · omega
      · have := h'.1 y hy; omega
theorem mem_insI (l : List Int) (i : Nat) (x y : Int) : y ∈ insI l i x ↔ y = x ∨ y ∈ l := by
  unfold insI
  have h : y ∈ l ↔ y ∈ l.take i ∨ y ∈ l.drop i := by rw [← List.mem_append, List.take_append_drop]
  rw [List.mem_append, List.mem_cons, h]
  constructor
  · rintro (h | h | h) <;> simp [h]
  · rintro (h | h | h) <;> simp [h]
theorem insI_len (l : List Int) (i : Nat) (x : Int) (h : i ≤ l.length) : (insI l i x).length = l.length + 1 := by unfold insI; simp; omega
theorem mem_keyPut (K : List Int) (x y : Int) : y ∈ keyPut K x ↔ y = x ∨ y ∈ K := by
  unfold keyPut
  split
  · rename_i h
    exact ⟨.inr, fun h' => by rcases h' with rfl | h'; exact h; exact h'⟩
  · exact mem_insI _ _ _ _
theorem rise_put {K : List Int} (h : Rise K) (x : Int) : Rise (keyPut K x) := by
  unfold keyPut
  split
  · exact h
  · rename_i hx
    obtain ⟨h1, h2⟩ := pos_split h x
    have hs := h
    rw [show K = K.take (posI K x) ++ K.drop (posI K x) from (List.take_append_drop _ _).symm] at hs
    unfold Rise at hs ⊢
    rw [List.pairwise_append] at hs
    unfold insI
    rw [List.pairwise_append, List.pairwise_cons]
    refine ⟨hs.1, ⟨fun y hy => ?_, hs.2.1⟩, fun a ha b hb => ?_⟩
    · have := h2 y hy
      have hne : x ≠ y := fun e => hx (by rw [e]; exact List.mem_of_mem_drop hy)
      omega
    · rcases List.mem_cons.1 hb with rfl | hb
      · exact h1 a ha
      · exact hs.2.2 a ha b hb
theorem pos_ins (K : List Int) (i : Nat) (x z : Int) : posI (insI K i x) z = posI K z + (if x < z then 1 else 0) := by
  unfold posI insI
  rw [List.countP_append, List.countP_cons]
  have h : K.countP (· < z) = (K.take i).countP (· < z) + (K.drop i).countP (· < z) := by rw [← List.countP_append, List.take_append_drop]
  rw [h]
  by_cases hxz : x < z
  · simp [hxz]; omega
  · simp [hxz]
theorem pos_lt {K : List Int} (h : Rise K) {z : Int} (hz : z ∈ K) : posI K z < K.length := by
  unfold posI
  rcases Nat.lt_or_ge (K.countP (· < z)) K.length with h1 | h1
  · exact h1
  · have := List.countP_eq_length.1 (Nat.le_antisymm List.countP_le_length h1) z hz
    simp at this
theorem pos_mono {K : List Int} {z x : Int} (hz : z ∈ K) (hzx : z < x) : posI K z < posI K x := by
  obtain ⟨A, B, rfl⟩ := List.append_of_mem hz
  unfold posI
  rw [List.countP_append, List.countP_append, List.countP_cons, List.countP_cons]
  have h1 : A.countP (· < z) ≤ A.countP (· < x) := List.countP_mono_left (fun y _ h => by simp at h ⊢; omega)
  have h2 : B.countP (· < z) ≤ B.countP (· < x) := List.countP_mono_left (fun y _ h => by simp at h ⊢; omega)
  simp [hzx]; omega
theorem pos_mono_le (K : List Int) {z x : Int} (hzx : x ≤ z) : posI K x ≤ posI K z := List.countP_mono_left (fun y _ h => by simp at h ⊢; omega)
theorem getD_ins (V : List Int) (p : Nat) (y : Int) (hp : p ≤ V.length) (j : Nat) : (insI V p y).getD j 0 = if j < p then V.getD j 0 else if j = p then y else V.getD (j - 1) 0 := by
  unfold insI
  simp only [List.getD_eq_getElem?_getD]
  by_cases h1 : j < p
  · rw [if_pos h1, List.getElem?_append_left (by simp; omega), List.getElem?_take, if_pos h1]
  · rw [if_neg h1, List.getElem?_append_right (by simp; omega), List.length_take, Nat.min_eq_left hp]
    by_cases h2 : j = p
    · subst h2; simp
    · rw [if_neg h2, show j - p = (j - p - 1) + 1 by omega, List.getElem?_cons_succ, List.getElem?_drop, show p + (j - p - 1) = j - 1 by omega]
/-- a table keeps what was put last -/
theorem tab_put {K V : List Int} (h : Rise K) (hl : V.length = K.length) (x y z : Int) : tabAt (keyPut K x) (valPut K V x y) z = if z = x then some y else tabAt K V z := by
  unfold tabAt
  by_cases hx : x ∈ K
  · have e1 : keyPut K x = K := if_pos hx
    have e2 : valPut K V x y = V.set (posI K x) y := if_pos hx
    rw [e1, e2]
    have hlt := pos_lt h hx
    by_cases hzx : z = x
    · subst hzx
      rw [if_pos rfl, if_pos hx, List.getD_eq_getElem?_getD, List.getElem?_set_self (by omega)]; rfl
    · rw [if_neg hzx]
      by_cases hz : z ∈ K
      · rw [if_pos hz, if_pos hz]
        have hne : posI K x ≠ posI K z := by
          rcases Int.lt_or_gt_of_ne hzx with h1 | h1
          · have := pos_mono hz h1; omega
          · have := pos_mono hx h1; omega
        rw [List.getD_eq_getElem?_getD, List.getElem?_set_ne hne, List.getD_eq_getElem?_getD]
      · rw [if_neg hz, if_neg hz]
  · have e1 : keyPut K x = insI K (posI K x) x := if_neg hx
    have e2 : valPut K V x y = insI V (posI K x) y := if_neg hx
    rw [e1, e2, pos_ins]
    have hp := posI_le K x
    by_cases hzx : z = x
    · subst hzx
      rw [if_pos rfl, if_pos ((mem_insI _ _ _ _).2 (.inl rfl)), if_neg (by omega), getD_ins _ _ _ (by omega), if_neg (by omega), if_pos (by omega)]
    · rw [if_neg hzx]
      by_cases hz : z ∈ K
      · rw [if_pos ((mem_insI _ _ _ _).2 (.inr hz)), if_pos hz, getD_ins _ _ _ (by omega)]
        rcases Int.lt_or_gt_of_ne hzx with h1 | h1
        · have := pos_mono hz h1
          rw [show (if x < z then 1 else 0) = 0 from if_neg (by omega), Nat.add_zero, if_pos this]
        · have := pos_mono_le K (z := z) (x := x) (by omega)
          rw [show (if x < z then 1 else 0) = 1 from if_pos h1, if_neg (by omega), if_neg (by omega), Nat.add_sub_cancel]
      · rw [if_neg (fun hh => by rcases (mem_insI _ _ _ _).1 hh with hh | hh; exact hzx hh; exact hz hh), if_neg hz]
theorem keyPut_len (K : List Int) (x : Int) : (keyPut K x).length = if x ∈ K then K.length else K.length + 1 := by
  unfold keyPut
  split
  · rfl
  · exact insI_len _ _ _ (posI_le K x)
theorem valPut_len {K V : List Int} (hl : V.length = K.length) (x y : Int) : (valPut K V x y).length = (keyPut K x).length := by
  rw [keyPut_len]
  unfold valPut
  split
  · rw [List.length_set]; exact hl
  · rw [insI_len _ _ _ (by rw [hl]; exact posI_le K x), hl]
end Go.Proofs.Ytiadljcfcncbkaa
