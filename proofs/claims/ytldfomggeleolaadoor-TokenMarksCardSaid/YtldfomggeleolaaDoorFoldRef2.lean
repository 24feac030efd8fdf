/- The contracts of the document's own Letter, Digit, Word. -/
import Derived.Test.YtldfomggeleolaaDoorFoldRef
namespace Go.Proofs.YtldfomggeleolaaDoor
open Go Go.RowKit

theorem letter_key (r : Int) : ∃ b, b = Fol.letter r ∧ ((r = 215 ∧ b = false) ∨ (r = 247 ∧ b = false) ∨ (r = 894 ∧ b = false) ∨ (r = 903 ∧ b = false) ∨
    ((65 ≤ r ∧ r ≤ 90) ∧ b = true) ∨ ((97 ≤ r ∧ r ≤ 122) ∧ b = true) ∨ (((192 ≤ r ∧ r ≤ 591) ∧ r ≠ 215 ∧ r ≠ 247) ∧ b = true) ∨ (((880 ≤ r ∧ r ≤ 1327) ∧ r ≠ 894 ∧ r ≠ 903) ∧ b = true) ∨
    (((¬ (65 ≤ r ∧ r ≤ 90) ∧ ¬ (97 ≤ r ∧ r ≤ 122) ∧ ¬ (192 ≤ r ∧ r ≤ 591) ∧ ¬ (880 ≤ r ∧ r ≤ 1327)) ∧ r ≠ 215 ∧ r ≠ 247 ∧ r ≠ 894 ∧ r ≠ 903) ∧ b = false)) := by
  refine ⟨_, rfl, ?_⟩
  generalize hb : Fol.letter r = b
  unfold Fol.letter at hb
  split at hb
  · subst hb; simp; omega
  · cases b
    · simp at hb; simp; omega
    · simp at hb; simp; omega

set_option maxHeartbeats 4000000 in
set_option maxRecDepth 100000 in
theorem refLetter_any (r : Int) (w : World) : Calls Tryd.prog 44 #[.int .i64 r] w fun e w' => e = .returned (.bool (Fol.letter r)) ∧ w = w' := by
  obtain ⟨b, hb, key⟩ := letter_key r
  rw [← hb]
  clear hb
  rcases key with ⟨rfl, rfl⟩ | ⟨rfl, rfl⟩ | ⟨rfl, rfl⟩ | ⟨rfl, rfl⟩ | ⟨⟨x1, x2⟩, rfl⟩ | ⟨⟨x1, x2⟩, rfl⟩ | ⟨⟨⟨x1, x2⟩, x3, x4⟩, rfl⟩ | ⟨⟨⟨x1, x2⟩, x3, x4⟩, rfl⟩ | ⟨⟨⟨x1, x2, x3, x4⟩, y1, y2, y3, y4⟩, rfl⟩
  · go_enter Tryd.func44, Tryd.ntmps44
    go_wp2
    all_goals
      go_ret
      exact ⟨rfl, rfl⟩
  · go_enter Tryd.func44, Tryd.ntmps44
    go_wp2
    all_goals
      go_ret
      exact ⟨rfl, rfl⟩
  · go_enter Tryd.func44, Tryd.ntmps44
    go_wp2
    all_goals
      go_ret
      exact ⟨rfl, rfl⟩
  · go_enter Tryd.func44, Tryd.ntmps44
    go_wp2
    all_goals
      go_ret
      exact ⟨rfl, rfl⟩
  all_goals
    have q1 : (r == 215) = false := by simp; omega
    have q2 : (r == 247) = false := by simp; omega
    have q3 : (r == 894) = false := by simp; omega
    have q4 : (r == 903) = false := by simp; omega
    go_enter Tryd.func44, Tryd.ntmps44
    go_wp2_with (first
      | (go_at_call 46; refine (in_yes _ _ _ _ (by omega)).mono ?_; rintro e w' ⟨rfl, rfl⟩)
      | (go_at_call 46; refine (in_no _ _ _ _ (by omega)).mono ?_; rintro e w' ⟨rfl, rfl⟩))
    all_goals
      go_ret
      exact ⟨rfl, rfl⟩

set_option maxHeartbeats 1000000 in
theorem refDigit_any (r : Int) (w : World) : Calls Tryd.prog 45 #[.int .i64 r] w fun e w' => e = .returned (.bool (Fol.digit r)) ∧ w = w' := by
  by_cases h : 48 ≤ r ∧ r ≤ 57
  · have e : Fol.digit r = true := by unfold Fol.digit; simp [h]
    rw [e]
    have hi := in_yes r 48 57 w h
    clear e h
    go_enter Tryd.func45, Tryd.ntmps45
    go_wp2_with fail
    refine hi.mono ?_
    rintro e w' ⟨rfl, rfl⟩
    go_wp2_with fail
    go_ret
    exact ⟨rfl, rfl⟩
  · have e : Fol.digit r = false := by unfold Fol.digit; simp [h]
    rw [e]
    have hi := in_no r 48 57 w h
    clear e h
    go_enter Tryd.func45, Tryd.ntmps45
    go_wp2_with fail
    refine hi.mono ?_
    rintro e w' ⟨rfl, rfl⟩
    go_wp2_with fail
    go_ret
    exact ⟨rfl, rfl⟩

set_option maxHeartbeats 1000000 in
theorem refWord_any (r : Int) (w : World) : Calls Tryd.prog 33 #[.int .i64 r] w fun e w' => e = .returned (.bool (word r)) ∧ w = w' := by
  have hl := refLetter_any r w
  have hd := refDigit_any r w
  unfold word
  cases h : Fol.letter r
  all_goals
    rw [h] at hl
    have HL := Lib.hid hl; have HD := Lib.hid hd
    clear h hl hd
    go_enter Tryd.func33, Tryd.ntmps33
    go_wp2_with fail
    refine HL.out.mono ?_
    rintro e w' ⟨rfl, rfl⟩
  · go_wp2_with fail
    refine HD.out.mono ?_
    rintro e w' ⟨rfl, rfl⟩
    go_wp2_with fail
    go_ret
    exact ⟨rfl, rfl⟩
  · go_wp2_with fail
    go_ret
    exact ⟨rfl, rfl⟩
end Go.Proofs.YtldfomggeleolaaDoor
