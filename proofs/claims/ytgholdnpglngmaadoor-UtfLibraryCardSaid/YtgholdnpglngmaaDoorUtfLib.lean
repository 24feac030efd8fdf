/- What Go's library says of a text, and what stands in the chapter: the same. No function of a program stands here. -/
import Derived.Test.YtgholdnpglngmaaDoorUtfEnds
import Derived.Test.YtgholdnpglngmaaDoorUtfValid
import Derived.Lib.TrimUEq
import Derived.Lib.ValidLaws
import Derived.Lib.RuneCount
namespace Go.Proofs.YtgholdnpglngmaaDoor
open Go
set_option linter.unusedVariables false

namespace Utf
theorem get_gt (s : ByteArray) (i : Nat) : (s.get! i).toNat = gt s i := by
  unfold gt
  congr 1
  rcases s with ⟨d⟩
  show d[i]! = d.toList.getD i 0
  by_cases h : i < d.size
  · rw [getElem!_pos d i h, List.getD, List.getElem?_eq_getElem (by simpa using h)]; simp
  · rw [getElem!_neg d i h, List.getD, List.getElem?_eq_none (by simpa using Nat.le_of_not_lt h)]; rfl
theorem sg_iff (c : Nat) : sg (c : Int) = true ↔ c < 55296 ∨ (57343 < c ∧ c ≤ 1114111) := by
  unfold sg; simp only [decide_eq_true_eq]; omega
theorem valid_iff (c : Nat) : Utf8.valid (c : Int) = true ↔ c < 55296 ∨ (57343 < c ∧ c ≤ 1114111) := by
  unfold Utf8.valid; simp only [Bool.or_eq_true, Bool.and_eq_true, decide_eq_true_eq]; omega
theorem all_one (P : Nat → Prop) : (∀ j, j < 1 → P j) ↔ P 0 := by
  constructor
  · intro h; exact h 0 (by omega)
  · intro h j hj
    obtain rfl : j = 0 := by omega
    exact h
theorem all_two (P : Nat → Prop) : (∀ j, j < 2 → P j) ↔ P 0 ∧ P 1 := ⟨fun h => ⟨h 0 (by omega), h 1 (by omega)⟩, fun h j hj => by
  rcases (show j = 0 ∨ j = 1 by omega) with rfl | rfl
  · exact h.1
  · exact h.2⟩
theorem all_three (P : Nat → Prop) : (∀ j, j < 3 → P j) ↔ P 0 ∧ P 1 ∧ P 2 := ⟨fun h => ⟨h 0 (by omega), h 1 (by omega), h 2 (by omega)⟩, fun h j hj => by
  rcases (show j = 0 ∨ j = 1 ∨ j = 2 by omega) with rfl | rfl | rfl
  · exact h.1
  · exact h.2.1
  · exact h.2.2⟩
theorem ok_none (s : ByteArray) (p : Nat) (h : p < s.size) (hl : led (gt s p) = 0) (hr : gt s p < 192) : acc s p 0 = gt s p ∧ (ok s p ↔ gt s p ≤ 127) := by
  have a : acc s p 0 = gt s p := by simp [acc, hl, lead]
  refine ⟨a, ?_⟩
  unfold ok
  rw [hl, a, sg_iff]
  have := sh_iff (gt s p : Nat)
  constructor
  · rintro ⟨_, _, _, h4⟩; omega
  · intro h1; exact ⟨by omega, fun j hj => by omega, by omega, by omega⟩
theorem ok_one (s : ByteArray) (p : Nat) (hl : led (gt s p) = 1) (hr1 : 192 ≤ gt s p) (hr2 : gt s p < 224) : acc s p 1 = (gt s p - 192) * 64 + gt s (p + 1) % 64 ∧
    (ok s p ↔ p + 1 < s.size ∧ (128 ≤ gt s (p + 1) ∧ gt s (p + 1) < 192) ∧ 127 < (gt s p - 192) * 64 + gt s (p + 1) % 64) := by
  have a : acc s p 1 = (gt s p - 192) * 64 + gt s (p + 1) % 64 := by simp [acc, hl, lead]
  refine ⟨a, ?_⟩
  unfold ok cont
  rw [hl, a, all_one (fun j => 128 ≤ gt s (p + 1 + j) ∧ gt s (p + 1 + j) < 192), sg_iff]
  have := sh_iff (((gt s p - 192) * 64 + gt s (p + 1) % 64 : Nat) : Int)
  simp only [Nat.add_zero]
  constructor
  · rintro ⟨h1, h2, h3, h4⟩; exact ⟨by omega, h2, by omega⟩
  · rintro ⟨h1, h2, h3⟩; exact ⟨by omega, h2, by omega, by omega⟩
theorem ok_two (s : ByteArray) (p : Nat) (hl : led (gt s p) = 2) (hr1 : 224 ≤ gt s p) (hr2 : gt s p < 240) : acc s p 2 = ((gt s p - 224) * 64 + gt s (p + 1) % 64) * 64 + gt s (p + 2) % 64 ∧
    (ok s p ↔ p + 2 < s.size ∧ (128 ≤ gt s (p + 1) ∧ gt s (p + 1) < 192) ∧ (128 ≤ gt s (p + 2) ∧ gt s (p + 2) < 192) ∧ 2047 < ((gt s p - 224) * 64 + gt s (p + 1) % 64) * 64 + gt s (p + 2) % 64 ∧ (((gt s p - 224) * 64 + gt s (p + 1) % 64) * 64 + gt s (p + 2) % 64 < 55296 ∨ 57343 < ((gt s p - 224) * 64 + gt s (p + 1) % 64) * 64 + gt s (p + 2) % 64)) := by
  have a : acc s p 2 = ((gt s p - 224) * 64 + gt s (p + 1) % 64) * 64 + gt s (p + 2) % 64 := by simp [acc, hl, lead]
  refine ⟨a, ?_⟩
  unfold ok cont
  rw [hl, a, all_two (fun j => 128 ≤ gt s (p + 1 + j) ∧ gt s (p + 1 + j) < 192), sg_iff]
  have := sh_iff ((((gt s p - 224) * 64 + gt s (p + 1) % 64) * 64 + gt s (p + 2) % 64 : Nat) : Int)
  have hc : ((gt s p - 224) * 64 + gt s (p + 1) % 64) * 64 + gt s (p + 2) % 64 ≤ 65535 := by omega
  simp only [Nat.add_zero, show p + 1 + 1 = p + 2 from rfl]
  constructor
  · rintro ⟨h1, ⟨h2, h5⟩, h3, h4⟩; exact ⟨by omega, h2, h5, by omega, by omega⟩
  · rintro ⟨h1, h2, h5, h3, h4⟩; exact ⟨by omega, ⟨h2, h5⟩, by omega, by omega⟩
theorem ok_three (s : ByteArray) (p : Nat) (hl : led (gt s p) = 3) (hr : 240 ≤ gt s p) : acc s p 3 = (((gt s p - 240) * 64 + gt s (p + 1) % 64) * 64 + gt s (p + 2) % 64) * 64 + gt s (p + 3) % 64 ∧
    (ok s p ↔ p + 3 < s.size ∧ (128 ≤ gt s (p + 1) ∧ gt s (p + 1) < 192) ∧ (128 ≤ gt s (p + 2) ∧ gt s (p + 2) < 192) ∧ (128 ≤ gt s (p + 3) ∧ gt s (p + 3) < 192) ∧ 65535 < (((gt s p - 240) * 64 + gt s (p + 1) % 64) * 64 + gt s (p + 2) % 64) * 64 + gt s (p + 3) % 64 ∧ (((gt s p - 240) * 64 + gt s (p + 1) % 64) * 64 + gt s (p + 2) % 64) * 64 + gt s (p + 3) % 64 ≤ 1114111) := by
  have a : acc s p 3 = (((gt s p - 240) * 64 + gt s (p + 1) % 64) * 64 + gt s (p + 2) % 64) * 64 + gt s (p + 3) % 64 := by simp [acc, hl, lead]
  refine ⟨a, ?_⟩
  unfold ok cont
  rw [hl, a, all_three (fun j => 128 ≤ gt s (p + 1 + j) ∧ gt s (p + 1 + j) < 192), sg_iff]
  have := sh_iff (((((gt s p - 240) * 64 + gt s (p + 1) % 64) * 64 + gt s (p + 2) % 64) * 64 + gt s (p + 3) % 64 : Nat) : Int)
  simp only [Nat.add_zero, show p + 1 + 1 = p + 2 from rfl, show p + 1 + 2 = p + 3 from rfl]
  have hsl := sh_le (((((gt s p - 240) * 64 + gt s (p + 1) % 64) * 64 + gt s (p + 2) % 64) * 64 + gt s (p + 3) % 64 : Nat) : Int)
  generalize (((gt s p - 240) * 64 + gt s (p + 1) % 64) * 64 + gt s (p + 2) % 64) * 64 + gt s (p + 3) % 64 = c at this hsl ⊢
  constructor
  · rintro ⟨h1, ⟨h2, h5, h6⟩, h3, h4⟩; exact ⟨by omega, h2, h5, h6, by omega, by omega⟩
  · rintro ⟨h1, h2, h5, h6, h3, h4⟩; exact ⟨by omega, ⟨h2, h5, h6⟩, by omega, by omega⟩
theorem decode_nx (s : ByteArray) (p : Nat) (h : p < s.size) : (ok s p → Utf8.decode s p = (acc s p (led (gt s p)), led (gt s p) + 1)) ∧ (¬ ok s p → Utf8.decode s p = (65533, 1)) := by
  have g0 := gt_lt s p
  have g1 := gt_lt s (p + 1)
  have g2 := gt_lt s (p + 2)
  have g3 := gt_lt s (p + 3)
  unfold Utf8.decode
  simp only [get_gt, Nat.add_zero, Utf8.runeError, Bool.and_eq_true, beq_iff_eq, decide_eq_true_eq, valid_iff, ge_iff_le]
  rcases led_cases (gt s p) with ⟨hl, hr⟩ | ⟨hl, hr1, hr2⟩ | ⟨hl, hr1, hr2⟩ | ⟨hl, hr⟩
  · obtain ⟨a, e⟩ := ok_none s p h hl hr
    rw [e, hl, a]
    generalize gt s p = b0 at *
    generalize gt s (p + 1) = b1 at *
    generalize gt s (p + 2) = b2 at *
    generalize gt s (p + 3) = b3 at *
    clear e a
    constructor
    · intro hok
      (repeat' split) <;> first | (refine Prod.ext ?_ ?_ <;> simp only <;> omega) | (exfalso; omega)
    · intro hno
      (repeat' split) <;> first | rfl | (exfalso; omega)
  · obtain ⟨a, e⟩ := ok_one s p hl hr1 hr2
    rw [e, hl, a]
    generalize gt s p = b0 at *
    generalize gt s (p + 1) = b1 at *
    generalize gt s (p + 2) = b2 at *
    generalize gt s (p + 3) = b3 at *
    clear e a
    constructor
    · intro hok
      (repeat' split) <;> first | (refine Prod.ext ?_ ?_ <;> simp only <;> omega) | (exfalso; omega)
    · intro hno
      (repeat' split) <;> first | rfl | (exfalso; omega)
  · obtain ⟨a, e⟩ := ok_two s p hl hr1 hr2
    rw [e, hl, a]
    generalize gt s p = b0 at *
    generalize gt s (p + 1) = b1 at *
    generalize gt s (p + 2) = b2 at *
    generalize gt s (p + 3) = b3 at *
    clear e a
    constructor
    · intro hok
      (repeat' split) <;> first | (refine Prod.ext ?_ ?_ <;> simp only <;> omega) | (exfalso; omega)
    · intro hno
      (repeat' split) <;> first | rfl | (exfalso; omega)
  · obtain ⟨a, e⟩ := ok_three s p hl hr
    rw [e, hl, a]
    generalize gt s p = b0 at *
    generalize gt s (p + 1) = b1 at *
    generalize gt s (p + 2) = b2 at *
    generalize gt s (p + 3) = b3 at *
    clear e a
    constructor
    · intro hok
      have h5 : b0 ≤ 244 := by omega
      obtain ⟨t, rfl⟩ : ∃ t, b0 = 240 + t := ⟨b0 - 240, by omega⟩
      have e1 : (240 + t) % 8 = t := by omega
      have e2 : (240 + t) / 8 = 30 := by omega
      have e3 : 240 + t - 240 = t := by omega
      rw [e3] at hok ⊢
      rw [e1, e2]
      obtain ⟨k1, k2, k3, k4, k5, k6⟩ := hok
      have d1 : b1 / 64 = 2 := by omega
      have d2 : b2 / 64 = 2 := by omega
      have d3 : b3 / 64 = 2 := by omega
      rw [d1, d2, d3]
      generalize b1 % 64 = c1 at *
      generalize b2 % 64 = c2 at *
      generalize b3 % 64 = c3 at *
      clear d1 d2 d3 k2 k3 k4 g1 g2 g3
      (repeat' split) <;> first | (refine Prod.ext ?_ ?_ <;> simp only <;> omega) | (exfalso; omega)
    · intro hno
      (repeat' split) <;> first | rfl | (exfalso; omega)
theorem nx_width (s : ByteArray) (p : Nat) (h : p < s.size) : (nx s p).2 = (Utf8.decode s p).2 := by
  obtain ⟨h1, h2⟩ := decode_nx s p h
  by_cases ho : ok s p
  · rw [nx_yes ho, h1 ho]
  · rw [nx_no ho, h2 ho]
theorem nx_bad (s : ByteArray) (p : Nat) (h : p < s.size) : (nx s p).1 < 0 ↔ ((Utf8.decode s p).1 = 65533 ∧ (Utf8.decode s p).2 = 1) := by
  obtain ⟨h1, h2⟩ := decode_nx s p h
  by_cases ho : ok s p
  · rw [nx_yes ho, h1 ho]
    constructor
    · intro h3; simp only at h3; omega
    · rintro ⟨h3, h4⟩
      simp only at h3 h4
      have h5 : led (gt s p) = 0 := by omega
      rw [h5] at h3
      have hr : gt s p < 192 := by
        rcases led_cases (gt s p) with ⟨_, h6⟩ | ⟨h6, _⟩ | ⟨h6, _⟩ | ⟨h6, _⟩
        · exact h6
        all_goals omega
      rw [(ok_none s p h h5 hr).1] at h3
      have := gt_lt s p
      omega
  · rw [nx_no ho, h2 ho]
    exact ⟨fun _ => ⟨rfl, rfl⟩, fun _ => by decide⟩
theorem vd_lib (s : ByteArray) : ∀ f p, s.size ≤ p + f → vd s f p = Lib.validD (s.data.toList.drop p) := by
  intro f
  induction f with
  | zero =>
    intro p h
    rw [vd_end s 0 p (by omega), List.drop_eq_nil_of_le (by rw [Array.length_toList]; exact h)]
    rfl
  | succ f ih =>
    intro p h
    by_cases hp : p < s.size
    · have hne : s.data.toList.drop p ≠ [] := by
        intro e
        have := congrArg List.length e
        rw [List.length_drop, Array.length_toList] at this
        have h2 : s.data.size = s.size := rfl
        simp only [List.length_nil] at this
        omega
      rw [Lib.validD_step _ hne, Lib.decodeL_drop]
      by_cases hb : (nx s p).1 < 0
      · rw [vd_no s (f + 1) p hp h hb, if_pos ((nx_bad s p hp).1 hb)]
      · have hs := nx_step s p hp
        rw [vd_step s (f + 1) p hp h hb, if_neg (fun q => hb ((nx_bad s p hp).2 q)), List.drop_drop, ← nx_width s p hp, Nat.add_sub_cancel]
        exact ih _ (by omega)
    · rw [vd_end s (f + 1) p (by omega), List.drop_eq_nil_of_le (by rw [Array.length_toList]; exact Nat.le_of_not_lt hp)]
      rfl
theorem valid_lib (s : ByteArray) : valid s = Lib.validD s.data.toList := by
  have := vd_lib s s.size 0 (by omega)
  rwa [List.drop_zero] at this
theorem ends_lib (s : ByteArray) : ∀ f p, (ends s f p).length = Lib.runeCountFrom s f p := by
  intro f
  induction f with
  | zero => intro p; rfl
  | succ f ih =>
    intro p
    rw [ends, Lib.runeCountFrom]
    by_cases hp : p < s.size
    · rw [if_pos hp, if_pos hp, List.length_cons, nx_width s p hp, ih]; omega
    · rw [if_neg hp, if_neg hp]; rfl
theorem count_lib (s : ByteArray) : (ends s s.size 0).length = Lib.runeCount s := ends_lib s s.size 0
end Utf
end Go.Proofs.YtgholdnpglngmaaDoor
