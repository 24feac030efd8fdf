/- The plain mathematics of small letters (layer 4). No program stands here. -/
namespace Go.Proofs.YtldfomggeleolaaDoor.Fol
def great : List (List Int) := [[65, 90, 1, 32], [192, 214, 1, 32], [216, 222, 1, 32], [256, 302, 2, 1], [306, 310, 2, 1], [313, 327, 2, 1], [330, 374, 2, 1], [377, 381, 2, 1],
  [913, 929, 1, 32], [931, 937, 1, 32], [1024, 1039, 1, 80], [1040, 1071, 1, 32], [1120, 1152, 2, 1]]
def letters : List (List Int) := [[65, 90], [97, 122], [192, 214], [216, 246], [248, 591], [880, 893], [895, 902], [904, 1327]]
/-- by rows, the first that fits -/
def low : List (List Int) → Int → Int
  | [], r => r
  | g :: rest, r => if g.getD 0 0 ≤ r ∧ r ≤ g.getD 1 0 ∧ (r - g.getD 0 0) % g.getD 2 0 = 0 then r + g.getD 3 0 else low rest r
def has : List (List Int) → Int → Bool
  | [], _ => false
  | g :: rest, r => if g.getD 0 0 ≤ r ∧ r ≤ g.getD 1 0 then true else has rest r
/-- by definition -/
def lower (r : Int) : Int :=
  if (65 ≤ r ∧ r ≤ 90) ∨ (192 ≤ r ∧ r ≤ 214) ∨ (216 ≤ r ∧ r ≤ 222) ∨ (913 ≤ r ∧ r ≤ 929) ∨ (931 ≤ r ∧ r ≤ 937) ∨ (1040 ≤ r ∧ r ≤ 1071) then r + 32
  else if 1024 ≤ r ∧ r ≤ 1039 then r + 80
  else if ((256 ≤ r ∧ r ≤ 302) ∨ (306 ≤ r ∧ r ≤ 310) ∨ (330 ≤ r ∧ r ≤ 374) ∨ (1120 ≤ r ∧ r ≤ 1152)) ∧ r % 2 = 0 ∨ ((313 ≤ r ∧ r ≤ 327) ∨ (377 ≤ r ∧ r ≤ 381)) ∧ r % 2 = 1 then r + 1
  else r
def letter (r : Int) : Bool :=
  if r = 215 ∨ r = 247 ∨ r = 894 ∨ r = 903 then false else decide ((65 ≤ r ∧ r ≤ 90) ∨ (97 ≤ r ∧ r ≤ 122) ∨ (192 ≤ r ∧ r ≤ 591) ∨ (880 ≤ r ∧ r ≤ 1327))
def digit (r : Int) : Bool := decide (48 ≤ r ∧ r ≤ 57)
theorem low_out (rows : List (List Int)) (r : Int) (h : ∀ g ∈ rows, ¬ (g.getD 0 0 ≤ r ∧ r ≤ g.getD 1 0)) : low rows r = r := by
  induction rows with
  | nil => rfl
  | cons g rest ih =>
    simp only [low]
    rw [if_neg (fun h1 => h g (List.mem_cons_self ..) ⟨h1.1, h1.2.1⟩)]
    exact ih fun g' hg' => h g' (List.mem_cons_of_mem _ hg')
theorem low_in : ∀ n : Nat, n < 1153 → low great (n : Int) = lower (n : Int) := by decide +kernel
theorem low_great (r : Int) : low great r = lower r := by
  by_cases h : 0 ≤ r ∧ r < 1153
  · obtain ⟨n, rfl⟩ := Int.eq_ofNat_of_zero_le h.1
    exact low_in n (by omega)
  · rw [low_out great r (by intro g hg; simp only [great, List.mem_cons, List.not_mem_nil, or_false] at hg; rcases hg with rfl | rfl | rfl | rfl | rfl | rfl | rfl | rfl | rfl | rfl | rfl | rfl | rfl <;> simp only [List.getD_cons_zero, List.getD_cons_succ] <;> omega)]
    unfold lower
    (repeat' split) <;> omega
theorem has_letters (r : Int) : has letters r = letter r := by
  simp only [letters, has, List.getD_cons_zero, List.getD_cons_succ]
  unfold letter
  (repeat' split) <;> simp <;> omega
theorem lower_lower (r : Int) : lower (lower r) = lower r := by
  have h : lower r = r ∨ lower r = r + 32 ∨ lower r = r + 80 ∨ lower r = r + 1 := by unfold lower; (repeat' split) <;> omega
  have h2 : ∀ y, lower r = y → lower y = y := by
    intro y hy
    subst hy
    generalize hx : lower r = x at h
    unfold lower at hx
    unfold lower
    (repeat' split) <;> (repeat' split at hx) <;> omega
  exact h2 _ rfl
theorem letter_lower (r : Int) : letter (lower r) = letter r := by
  have key : ∀ y, letter y = true ↔ ((65 ≤ y ∧ y ≤ 90) ∨ (97 ≤ y ∧ y ≤ 122) ∨ (192 ≤ y ∧ y ≤ 591) ∨ (880 ≤ y ∧ y ≤ 1327)) ∧ y ≠ 215 ∧ y ≠ 247 ∧ y ≠ 894 ∧ y ≠ 903 := by
    intro y; unfold letter; split <;> simp <;> omega
  rw [Bool.eq_iff_iff, key, key]
  unfold lower
  (repeat' split) <;> omega
theorem digit_lower (r : Int) : digit (lower r) = digit r := by
  unfold digit lower
  rw [Bool.eq_iff_iff]
  simp only [decide_eq_true_eq]
  (repeat' split) <;> omega
theorem sign_lower (r : Int) (h : (0 ≤ r ∧ r < 55296) ∨ (57343 < r ∧ r ≤ 1114111)) : (0 ≤ lower r ∧ lower r < 55296) ∨ (57343 < lower r ∧ lower r ≤ 1114111) := by
  unfold lower
  (repeat' split) <;> omega
end Go.Proofs.YtldfomggeleolaaDoor.Fol
