/- How far lists of signs are, plain. No number of a program stands here. -/
namespace Go.Proofs.YtnmigbbokmibnaaDoor.Sug
set_option linter.unusedVariables false

/-- how far the first i of a are from the first k of b; n: as much as the recursion may go down -/
def dpF (a b : Nat → Int) : Nat → Nat → Nat → Nat
  | 0, i, k => i + k
  | n + 1, i, k =>
    if i = 0 ∨ k = 0 then i + k
    else if 1 < i ∧ 1 < k ∧ a (i - 1) = b (k - 2) ∧ a (i - 2) = b (k - 1) then
      min (min (min (dpF a b n (i - 1) (k - 1) + (if a (i - 1) = b (k - 1) then 0 else 1)) (dpF a b n (i - 1) k + 1)) (dpF a b n i (k - 1) + 1)) (dpF a b n (i - 2) (k - 2) + 1)
    else min (min (dpF a b n (i - 1) (k - 1) + (if a (i - 1) = b (k - 1) then 0 else 1)) (dpF a b n (i - 1) k + 1)) (dpF a b n i (k - 1) + 1)
theorem dpF_fuel (a b : Nat → Int) : ∀ (n i k : Nat) (_ : i + k ≤ n) (m : Nat) (_ : i + k ≤ m), dpF a b n i k = dpF a b m i k
  | 0, i, k, h, m, hm => by
    obtain rfl : i = 0 := by omega
    obtain rfl : k = 0 := by omega
    cases m <;> simp [dpF]
  | n + 1, i, k, h, 0, hm => by
    obtain rfl : i = 0 := by omega
    obtain rfl : k = 0 := by omega
    simp [dpF]
  | n + 1, i, k, h, m + 1, hm => by
    unfold dpF
    by_cases h0 : i = 0 ∨ k = 0
    · rw [if_pos h0, if_pos h0]
    · rw [if_neg h0, if_neg h0, dpF_fuel a b n (i - 1) (k - 1) (by omega) m (by omega), dpF_fuel a b n (i - 1) k (by omega) m (by omega), dpF_fuel a b n i (k - 1) (by omega) m (by omega), dpF_fuel a b n (i - 2) (k - 2) (by omega) m (by omega)]
def dp (a b : Nat → Int) (i k : Nat) : Nat := dpF a b (i + k) i k
/-- without a change of places -/
def dp3 (a b : Nat → Int) (i k : Nat) : Nat := min (min (dp a b (i - 1) (k - 1) + (if a (i - 1) = b (k - 1) then 0 else 1)) (dp a b (i - 1) k + 1)) (dp a b i (k - 1) + 1)
def swaps (a b : Nat → Int) (i k : Nat) : Prop := 1 < i ∧ 1 < k ∧ a (i - 1) = b (k - 2) ∧ a (i - 2) = b (k - 1)
instance (a b : Nat → Int) (i k : Nat) : Decidable (swaps a b i k) := by unfold swaps; infer_instance
theorem dp_zero (a b : Nat → Int) {i k : Nat} (h : i = 0 ∨ k = 0) : dp a b i k = i + k := by
  unfold dp
  cases hn : i + k with
  | zero => simp [dpF, hn]
  | succ n => unfold dpF; rw [if_pos h, hn]
theorem dp_step (a b : Nat → Int) {i k : Nat} (h : ¬ (i = 0 ∨ k = 0)) : dp a b i k = if swaps a b i k then min (dp3 a b i k) (dp a b (i - 2) (k - 2) + 1) else dp3 a b i k := by
  obtain ⟨n, hn⟩ : ∃ n, i + k = n + 1 := ⟨i + k - 1, by omega⟩
  have f : ∀ x y, x + y ≤ n → dpF a b n x y = dp a b x y := fun x y hxy => dpF_fuel a b n x y hxy (x + y) (Nat.le_refl _)
  show dpF a b (i + k) i k = _
  rw [hn]
  unfold dpF
  rw [if_neg h, f (i - 1) (k - 1) (by omega), f (i - 1) k (by omega), f i (k - 1) (by omega), f (i - 2) (k - 2) (by omega)]
  rfl
theorem dp_sym (a b : Nat → Int) : ∀ (n i k : Nat) (_ : i + k ≤ n), dp a b i k = dp b a k i
  | n, i, k, h => by
    by_cases h0 : i = 0 ∨ k = 0
    · rw [dp_zero a b h0, dp_zero b a (by omega)]; omega
    · cases n with
      | zero => omega
      | succ n =>
        have e1 := dp_sym a b n (i - 1) (k - 1) (by omega)
        have e2 := dp_sym a b n (i - 1) k (by omega)
        have e3 := dp_sym a b n i (k - 1) (by omega)
        have e4 := dp_sym a b n (i - 2) (k - 2) (by omega)
        have e5 : dp3 a b i k = dp3 b a k i := by
          unfold dp3
          rw [e1, e2, e3]
          by_cases hq : a (i - 1) = b (k - 1)
          · rw [if_pos hq, if_pos hq.symm]; omega
          · rw [if_neg hq, if_neg (fun h => hq h.symm)]; omega
        have e6 : swaps a b i k ↔ swaps b a k i := by
          unfold swaps
          constructor
          · rintro ⟨p1, p2, p3, p4⟩; exact ⟨p2, p1, p4.symm, p3.symm⟩
          · rintro ⟨p1, p2, p3, p4⟩; exact ⟨p2, p1, p4.symm, p3.symm⟩
        rw [dp_step a b h0, dp_step b a (by omega), e4, e5]
        by_cases hs : swaps a b i k
        · rw [if_pos hs, if_pos (e6.1 hs)]
        · rw [if_neg hs, if_neg (fun h => hs (e6.2 h))]
theorem dp_low (a b : Nat → Int) : ∀ (n i k : Nat) (_ : i + k ≤ n), i ≤ dp a b i k + k ∧ k ≤ dp a b i k + i
  | n, i, k, h => by
    by_cases h0 : i = 0 ∨ k = 0
    · rw [dp_zero a b h0]; omega
    · cases n with
      | zero => omega
      | succ n =>
        have e1 := dp_low a b n (i - 1) (k - 1) (by omega)
        have e2 := dp_low a b n (i - 1) k (by omega)
        have e3 := dp_low a b n i (k - 1) (by omega)
        have e4 := dp_low a b n (i - 2) (k - 2) (by omega)
        have e5 : i ≤ dp3 a b i k + k ∧ k ≤ dp3 a b i k + i := by
          unfold dp3
          split <;> omega
        rw [dp_step a b h0]
        split
        · rename_i hs
          have := hs.1; have := hs.2.1
          omega
        · exact e5
theorem dp_high (a b : Nat → Int) : ∀ (n i k : Nat) (_ : i + k ≤ n), dp a b i k ≤ max i k
  | n, i, k, h => by
    by_cases h0 : i = 0 ∨ k = 0
    · rw [dp_zero a b h0]; omega
    · cases n with
      | zero => omega
      | succ n =>
        have e1 := dp_high a b n (i - 1) (k - 1) (by omega)
        have e5 : dp3 a b i k ≤ max i k := by
          unfold dp3
          split <;> omega
        rw [dp_step a b h0]
        split <;> omega
theorem dp_none (a b : Nat → Int) : ∀ (n i k : Nat) (_ : i + k ≤ n), dp a b i k = 0 ↔ i = k ∧ ∀ t, t < i → a t = b t
  | n, i, k, h => by
    by_cases h0 : i = 0 ∨ k = 0
    · rw [dp_zero a b h0]
      constructor
      · intro h; exact ⟨by omega, fun t ht => by omega⟩
      · rintro ⟨h1, _⟩; omega
    · cases n with
      | zero => omega
      | succ n =>
        have e1 := dp_none a b n (i - 1) (k - 1) (by omega)
        have key : dp a b i k = 0 ↔ dp a b (i - 1) (k - 1) = 0 ∧ a (i - 1) = b (k - 1) := by
          have e5 : dp3 a b i k = 0 ↔ dp a b (i - 1) (k - 1) = 0 ∧ a (i - 1) = b (k - 1) := by
            unfold dp3
            by_cases hq : a (i - 1) = b (k - 1)
            · rw [if_pos hq]; simp only [hq, and_true]; omega
            · rw [if_neg hq]; exact ⟨fun h => by omega, fun h => absurd h.2 hq⟩
          rw [dp_step a b h0, ← e5]
          split <;> omega
        rw [key, e1]
        constructor
        · rintro ⟨⟨h1, h2⟩, h3⟩
          refine ⟨by omega, fun t ht => ?_⟩
          rcases Nat.lt_or_ge t (i - 1) with hl | hg
          · exact h2 t hl
          · obtain rfl : t = i - 1 := by omega
            rw [h3]; congr 1; omega
        · rintro ⟨h1, h2⟩
          refine ⟨⟨by omega, fun t ht => h2 t (by omega)⟩, ?_⟩
          rw [h2 (i - 1) (by omega)]; congr 1; omega
end Go.Proofs.YtnmigbbokmibnaaDoor.Sug
