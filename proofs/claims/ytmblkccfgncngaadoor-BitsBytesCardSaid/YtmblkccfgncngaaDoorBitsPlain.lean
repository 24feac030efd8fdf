/- Sets of small numbers as words of 64 bits: the plain part (no number of a program stands here). -/
import Derived.WalkKit
namespace Go.Proofs.YtmblkccfgncngaaDoor
namespace Bit
/-- how many k below m have f -/
def cnt (f : Nat → Bool) : Nat → Nat
  | 0 => 0
  | m + 1 => cnt f m + if f m then 1 else 0
theorem cnt_le (f : Nat → Bool) (m : Nat) : cnt f m ≤ m := by
  induction m with
  | zero => exact Nat.le_refl _
  | succ m ih => simp only [cnt]; split <;> omega
theorem cnt_congr {f g : Nat → Bool} {m : Nat} (h : ∀ k, k < m → f k = g k) : cnt f m = cnt g m := by
  induction m with
  | zero => rfl
  | succ m ih => simp only [cnt]; rw [ih (fun k hk => h k (by omega)), h m (by omega)]
theorem cnt_add (f : Nat → Bool) (a b : Nat) : cnt f (a + b) = cnt f a + cnt (fun k => f (a + k)) b := by
  induction b with
  | zero => rfl
  | succ b ih => rw [← Nat.add_assoc]; simp only [cnt]; rw [ih]; omega
theorem cnt_none {f : Nat → Bool} {m : Nat} (h : ∀ k, k < m → f k = false) : cnt f m = 0 := by
  rw [cnt_congr (g := fun _ => false) h]
  clear h
  induction m with
  | zero => rfl
  | succ m ih => simp [cnt, ih]
/-- behind n there is none -/
theorem cnt_past {f : Nat → Bool} {n m : Nat} (hn : n ≤ m) (h : ∀ k, n ≤ k → f k = false) : cnt f m = cnt f n := by
  obtain ⟨d, rfl⟩ := Nat.exists_eq_add_of_le hn
  rw [cnt_add, cnt_none (f := fun k => f (n + k)) (fun k _ => h _ (by omega)), Nat.add_zero]

/-- the first b bits of the j-th word of f -/
def wordK (f : Nat → Bool) (j : Nat) : Nat → Nat
  | 0 => 0
  | b + 1 => (if f (64 * j + b) then 2 ^ b else 0) + wordK f j b
theorem wordK_lt (f : Nat → Bool) (j b : Nat) : wordK f j b < 2 ^ b := by
  induction b with
  | zero => exact Nat.one_pos
  | succ b ih => simp only [wordK, Nat.pow_succ]; split <;> omega
theorem wordK_bit (f : Nat → Bool) (j b i : Nat) : (wordK f j b).testBit i = (decide (i < b) && f (64 * j + i)) := by
  induction b with
  | zero => simp [wordK]
  | succ b ih =>
    simp only [wordK]
    by_cases hf : f (64 * j + b) = true
    · rw [if_pos hf]
      rcases Nat.lt_trichotomy i b with h | h | h
      · rw [Nat.testBit_two_pow_add_gt h, ih]; simp [h, show i < b + 1 by omega]
      · subst h
        rw [Nat.testBit_two_pow_add_eq, ih]; simp [hf]
      · have hlt : 2 ^ b + wordK f j b < 2 ^ i := by
          have h1 := wordK_lt f j b
          have h2 : 2 ^ (b + 1) ≤ 2 ^ i := Nat.pow_le_pow_right (by omega) (by omega)
          rw [Nat.pow_succ] at h2; omega
        rw [Nat.testBit_lt_two_pow hlt]; simp [show ¬ i < b + 1 by omega]
    · rw [if_neg hf, Nat.zero_add, ih]
      have hf' : f (64 * j + b) = false := by simpa using hf
      by_cases h : i = b
      · subst h; simp [hf']
      · have : decide (i < b) = decide (i < b + 1) := by simp; omega
        rw [this]
def word (f : Nat → Bool) (j : Nat) : Nat := wordK f j 64
theorem word_lt (f : Nat → Bool) (j : Nat) : word f j < 18446744073709551616 := wordK_lt f j 64
theorem word_bit (f : Nat → Bool) (j i : Nat) : (word f j).testBit i = (decide (i < 64) && f (64 * j + i)) := wordK_bit f j 64 i
theorem word_of {f : Nat → Bool} {j x : Nat} (hx : x < 18446744073709551616) (h : ∀ i, i < 64 → x.testBit i = f (64 * j + i)) : x = word f j := by
  refine Nat.eq_of_testBit_eq fun i => ?_
  rw [word_bit]
  by_cases hi : i < 64
  · rw [h i hi]; simp [hi]
  · have : x < 2 ^ i := Nat.lt_of_lt_of_le hx (Nat.pow_le_pow_right (n := 2) (i := 64) (by omega) (by omega))
    rw [Nat.testBit_lt_two_pow this]; simp [hi]
theorem word_congr {f g : Nat → Bool} {j : Nat} (h : ∀ i, i < 64 → f (64 * j + i) = g (64 * j + i)) : word f j = word g j :=
  word_of (word_lt f j) fun i hi => by rw [word_bit, h i hi]; simp [hi]
theorem word_zero {f : Nat → Bool} {j : Nat} (h : ∀ i, i < 64 → f (64 * j + i) = false) : word f j = 0 :=
  (word_of (by omega) fun i hi => by rw [h i hi]; simp).symm
theorem word_eq_zero {f : Nat → Bool} {j : Nat} (h : word f j = 0) : ∀ i, i < 64 → f (64 * j + i) = false := by
  intro i hi
  have := word_bit f j i
  rw [h] at this
  simpa [hi] using this.symm

/-- what f becomes where one number is put in, or taken out -/
def turn (f : Nat → Bool) (k : Nat) (b : Bool) : Nat → Bool := fun i => if i = k then b else f i
theorem turn_other {f : Nat → Bool} {k j : Nat} {b : Bool} (h : k / 64 ≠ j) : word (turn f k b) j = word f j :=
  word_congr fun i hi => by unfold turn; rw [if_neg (by omega)]
theorem two_pow_lt (k : Nat) (h : k < 64) : 2 ^ k < 18446744073709551616 := Nat.pow_lt_pow_right (a := 2) (by omega) h
theorem or_lt64 {x y : Nat} (hx : x < 18446744073709551616) (hy : y < 18446744073709551616) : x ||| y < 18446744073709551616 := Nat.or_lt_two_pow (n := 64) hx hy
theorem turn_in (f : Nat → Bool) (k : Nat) : word f (k / 64) ||| 2 ^ (k % 64) = word (turn f k true) (k / 64) := by
  refine word_of (or_lt64 (word_lt f _) (two_pow_lt _ (Nat.mod_lt _ (by decide)))) fun i hi => ?_
  rw [Nat.testBit_or, word_bit, Nat.testBit_two_pow]
  unfold turn
  by_cases h : k % 64 = i
  · rw [if_pos (by omega)]; simp [h]
  · rw [if_neg (by omega)]; simp [h, hi]
theorem turn_out (f : Nat → Bool) (k : Nat) : word (turn f k false) (k / 64) = word f (k / 64) &&& (18446744073709551615 - 2 ^ (k % 64)) := by
  refine (word_of (Nat.lt_of_le_of_lt Nat.and_le_left (word_lt f _)) fun i hi => ?_).symm
  have e : 18446744073709551615 - 2 ^ (k % 64) = 2 ^ 64 - (2 ^ (k % 64) + 1) := by omega
  rw [Nat.testBit_and, word_bit, e, Nat.testBit_two_pow_sub_succ (two_pow_lt _ (by omega)), Nat.testBit_two_pow]
  unfold turn
  by_cases h : k % 64 = i
  · rw [if_pos (by omega)]; simp [h]
  · rw [if_neg (by omega)]; simp [h, hi]
/-- the bit that is asked for -/
theorem bit_is (x k : Nat) : (x / 2 ^ k) % 2 = if x.testBit k then 1 else 0 := by
  rw [Nat.testBit_eq_decide_div_mod_eq]
  by_cases h : x / 2 ^ k % 2 = 1
  · simp [h]
  · simp [h]; omega
theorem below_bit (b i : Nat) : (2 ^ b - 1).testBit i = decide (i < b) := Nat.testBit_two_pow_sub_one b i
/-- the numbers of a word below b -/
theorem word_below (f : Nat → Bool) (j b : Nat) (hb : b ≤ 64) : word f j &&& (2 ^ b - 1) = word (fun i => f i && decide (i < 64 * j + b)) j := by
  refine word_of (Nat.lt_of_le_of_lt Nat.and_le_left (word_lt f _)) fun i hi => ?_
  rw [Nat.testBit_and, word_bit, below_bit]
  simp [hi]
/-- how many bits a word has -/
def ones (x : Nat) : Nat := cnt x.testBit 64
theorem ones_word (f : Nat → Bool) (j : Nat) : cnt f (64 * j) + ones (word f j) = cnt f (64 * j + 64) := by
  rw [cnt_add]
  congr 1
  exact cnt_congr fun k hk => by rw [word_bit]; simp [hk]
theorem ones_below (f : Nat → Bool) (j b : Nat) (hb : b ≤ 64) : cnt f (64 * j) + ones (word f j &&& (2 ^ b - 1)) = cnt f (64 * j + b) := by
  rw [word_below f j b hb, cnt_add]
  congr 1
  unfold ones
  rw [cnt_past (n := b) hb]
  · exact cnt_congr fun k hk => by rw [word_bit]; simp [hk, show k < 64 by omega]
  · intro k hk; rw [word_bit]; simp; omega

/-! the next one, and all -/
/-- what Next gives of the numbers below n -/
def IsNext (f : Nat → Bool) (n i : Nat) (r : Int) : Prop :=
  (∃ k : Nat, r = k ∧ i ≤ k ∧ k < n ∧ f k = true ∧ ∀ m, i ≤ m → m < k → f m = false) ∨ (r = -1 ∧ ∀ m, i ≤ m → m < n → f m = false)
theorem IsNext.unique {f : Nat → Bool} {n i : Nat} {r s : Int} (h : IsNext f n i r) (k : IsNext f n i s) : r = s := by
  rcases h with ⟨a, rfl, a1, a2, a3, a4⟩ | ⟨rfl, a⟩ <;> rcases k with ⟨b, rfl, b1, b2, b3, b4⟩ | ⟨rfl, b⟩
  · rcases Nat.lt_trichotomy a b with h | h | h
    · have := b4 a a1 h; rw [a3] at this; cases this
    · rw [h]
    · have := a4 b b1 h; rw [b3] at this; cases this
  · have := b a a1 a2; rw [a3] at this; cases this
  · have := a b b1 b2; rw [b3] at this; cases this
  · rfl
end Bit
end Go.Proofs.YtmblkccfgncngaaDoor
