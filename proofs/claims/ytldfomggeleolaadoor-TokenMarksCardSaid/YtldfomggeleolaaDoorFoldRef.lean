/- The contracts of the document's own Lower, Letter, Digit, Word. -/
import Derived.Test.YtldfomggeleolaaDoorFoldSigns
namespace Go.Proofs.YtldfomggeleolaaDoor
open Go Go.RowKit

theorem in_yes (r a b : Int) (w : World) (h : a ≤ r ∧ r ≤ b) : Calls Tryd.prog 46 #[.int .i64 r, .int .i64 a, .int .i64 b] w fun e w' => e = .returned (.bool true) ∧ w = w' := by
  obtain ⟨h1, h2⟩ := h
  go_enter Tryd.func46, Tryd.ntmps46
  go_wp2
  go_ret
  exact ⟨rfl, rfl⟩
theorem in_no (r a b : Int) (w : World) (h : ¬ (a ≤ r ∧ r ≤ b)) : Calls Tryd.prog 46 #[.int .i64 r, .int .i64 a, .int .i64 b] w fun e w' => e = .returned (.bool false) ∧ w = w' := by
  by_cases h1 : a ≤ r
  · have h2 : ¬ r ≤ b := fun h2 => h ⟨h1, h2⟩
    clear h
    go_enter Tryd.func46, Tryd.ntmps46
    go_wp2
    go_ret
    exact ⟨ret_bool (by first | (simp; done) | (simp; omega)), rfl⟩
  · clear h
    go_enter Tryd.func46, Tryd.ntmps46
    go_wp2
    go_ret
    exact ⟨ret_bool (by first | (simp; done) | (simp; omega)), rfl⟩

theorem parity {r : Int} {c : Int} (h : r % 2 = c) : (r % 2 == 0) = (c == 0) ∧ (r % 2 == 1) = (c == 1) := by rw [h]; exact ⟨rfl, rfl⟩
def greats : List (Int × Int) := [(65, 90), (192, 214), (216, 222), (913, 929), (931, 937), (1040, 1071), (1024, 1039), (256, 302), (306, 310), (330, 374), (1120, 1152), (313, 327), (377, 381)]
theorem lower_key (r : Int) : ∃ y, y = Fol.lower r ∧ (((65 ≤ r ∧ r ≤ 90) ∧ y = r + 32) ∨ ((192 ≤ r ∧ r ≤ 214) ∧ y = r + 32) ∨ ((216 ≤ r ∧ r ≤ 222) ∧ y = r + 32) ∨ ((913 ≤ r ∧ r ≤ 929) ∧ y = r + 32) ∨ ((931 ≤ r ∧ r ≤ 937) ∧ y = r + 32) ∨ ((1040 ≤ r ∧ r ≤ 1071) ∧ y = r + 32) ∨ ((1024 ≤ r ∧ r ≤ 1039) ∧ y = r + 80) ∨ ((256 ≤ r ∧ r ≤ 302) ∧ r % 2 = 0 ∧ y = r + 1) ∨ ((256 ≤ r ∧ r ≤ 302) ∧ r % 2 = 1 ∧ y = r) ∨ ((306 ≤ r ∧ r ≤ 310) ∧ r % 2 = 0 ∧ y = r + 1) ∨ ((306 ≤ r ∧ r ≤ 310) ∧ r % 2 = 1 ∧ y = r) ∨ ((330 ≤ r ∧ r ≤ 374) ∧ r % 2 = 0 ∧ y = r + 1) ∨ ((330 ≤ r ∧ r ≤ 374) ∧ r % 2 = 1 ∧ y = r) ∨ ((1120 ≤ r ∧ r ≤ 1152) ∧ r % 2 = 0 ∧ y = r + 1) ∨ ((1120 ≤ r ∧ r ≤ 1152) ∧ r % 2 = 1 ∧ y = r) ∨ ((313 ≤ r ∧ r ≤ 327) ∧ r % 2 = 1 ∧ y = r + 1) ∨ ((313 ≤ r ∧ r ≤ 327) ∧ r % 2 = 0 ∧ y = r) ∨ ((377 ≤ r ∧ r ≤ 381) ∧ r % 2 = 1 ∧ y = r + 1) ∨ ((377 ≤ r ∧ r ≤ 381) ∧ r % 2 = 0 ∧ y = r) ∨ ((∀ q ∈ greats, ¬ (q.1 ≤ r ∧ r ≤ q.2)) ∧ y = r)) := by
  refine ⟨_, rfl, ?_⟩
  generalize hy : Fol.lower r = y
  unfold Fol.lower at hy
  by_cases hN : ∀ q ∈ greats, ¬ (q.1 ≤ r ∧ r ≤ q.2)
  · have hy2 : y = r := by
      simp only [greats, List.mem_cons, List.not_mem_nil, or_false, forall_eq_or_imp, forall_eq] at hN
      (repeat' split at hy) <;> omega
    exact .inr (.inr (.inr (.inr (.inr (.inr (.inr (.inr (.inr (.inr (.inr (.inr (.inr (.inr (.inr (.inr (.inr (.inr (.inr (⟨hN, hy2⟩)))))))))))))))))))
  · have hE : (65 ≤ r ∧ r ≤ 90) ∨ (192 ≤ r ∧ r ≤ 214) ∨ (216 ≤ r ∧ r ≤ 222) ∨ (913 ≤ r ∧ r ≤ 929) ∨ (931 ≤ r ∧ r ≤ 937) ∨ (1040 ≤ r ∧ r ≤ 1071) ∨ (1024 ≤ r ∧ r ≤ 1039) ∨ (256 ≤ r ∧ r ≤ 302) ∨ (306 ≤ r ∧ r ≤ 310) ∨ (330 ≤ r ∧ r ≤ 374) ∨ (1120 ≤ r ∧ r ≤ 1152) ∨ (313 ≤ r ∧ r ≤ 327) ∨ (377 ≤ r ∧ r ≤ 381) := by
      refine Classical.byContradiction fun h => hN ?_
      simp only [greats, List.mem_cons, List.not_mem_nil, or_false, forall_eq_or_imp, forall_eq]
      simp only [not_or] at h
      obtain ⟨h1, h2, h3, h4, h5, h6, h7, h8, h9, h10, h11, h12, h13⟩ := h
      exact ⟨h1, h2, h3, h4, h5, h6, h7, h8, h9, h10, h11, h12, h13⟩
    clear hN
    have hp : r % 2 = 0 ∨ r % 2 = 1 := by omega
    rcases hE with h | h | h | h | h | h | h | h | h | h | h | h | h
    · rw [if_pos (by omega)] at hy; exact .inl ⟨h, by omega⟩
    · rw [if_pos (by omega)] at hy; exact .inr (.inl ⟨h, by omega⟩)
    · rw [if_pos (by omega)] at hy; exact .inr (.inr (.inl ⟨h, by omega⟩))
    · rw [if_pos (by omega)] at hy; exact .inr (.inr (.inr (.inl ⟨h, by omega⟩)))
    · rw [if_pos (by omega)] at hy; exact .inr (.inr (.inr (.inr (.inl ⟨h, by omega⟩))))
    · rw [if_pos (by omega)] at hy; exact .inr (.inr (.inr (.inr (.inr (.inl ⟨h, by omega⟩)))))
    · rw [if_neg (by omega), if_pos (by omega)] at hy; exact .inr (.inr (.inr (.inr (.inr (.inr (.inl ⟨h, by omega⟩))))))
    · rcases hp with hp | hp
      · rw [if_neg (by omega), if_neg (by omega), if_pos (by omega)] at hy; exact .inr (.inr (.inr (.inr (.inr (.inr (.inr (.inl ⟨h, hp, by omega⟩)))))))
      · rw [if_neg (by omega), if_neg (by omega), if_neg (by omega)] at hy; exact .inr (.inr (.inr (.inr (.inr (.inr (.inr (.inr (.inl ⟨h, hp, by omega⟩))))))))
    · rcases hp with hp | hp
      · rw [if_neg (by omega), if_neg (by omega), if_pos (by omega)] at hy; exact .inr (.inr (.inr (.inr (.inr (.inr (.inr (.inr (.inr (.inl ⟨h, hp, by omega⟩)))))))))
      · rw [if_neg (by omega), if_neg (by omega), if_neg (by omega)] at hy; exact .inr (.inr (.inr (.inr (.inr (.inr (.inr (.inr (.inr (.inr (.inl ⟨h, hp, by omega⟩))))))))))
    · rcases hp with hp | hp
      · rw [if_neg (by omega), if_neg (by omega), if_pos (by omega)] at hy; exact .inr (.inr (.inr (.inr (.inr (.inr (.inr (.inr (.inr (.inr (.inr (.inl ⟨h, hp, by omega⟩)))))))))))
      · rw [if_neg (by omega), if_neg (by omega), if_neg (by omega)] at hy; exact .inr (.inr (.inr (.inr (.inr (.inr (.inr (.inr (.inr (.inr (.inr (.inr (.inl ⟨h, hp, by omega⟩))))))))))))
    · rcases hp with hp | hp
      · rw [if_neg (by omega), if_neg (by omega), if_pos (by omega)] at hy; exact .inr (.inr (.inr (.inr (.inr (.inr (.inr (.inr (.inr (.inr (.inr (.inr (.inr (.inl ⟨h, hp, by omega⟩)))))))))))))
      · rw [if_neg (by omega), if_neg (by omega), if_neg (by omega)] at hy; exact .inr (.inr (.inr (.inr (.inr (.inr (.inr (.inr (.inr (.inr (.inr (.inr (.inr (.inr (.inl ⟨h, hp, by omega⟩))))))))))))))
    · rcases hp with hp | hp
      · rw [if_neg (by omega), if_neg (by omega), if_neg (by omega)] at hy; exact .inr (.inr (.inr (.inr (.inr (.inr (.inr (.inr (.inr (.inr (.inr (.inr (.inr (.inr (.inr (.inr (.inl ⟨h, hp, by omega⟩))))))))))))))))
      · rw [if_neg (by omega), if_neg (by omega), if_pos (by omega)] at hy; exact .inr (.inr (.inr (.inr (.inr (.inr (.inr (.inr (.inr (.inr (.inr (.inr (.inr (.inr (.inr (.inl ⟨h, hp, by omega⟩)))))))))))))))
    · rcases hp with hp | hp
      · rw [if_neg (by omega), if_neg (by omega), if_neg (by omega)] at hy; exact .inr (.inr (.inr (.inr (.inr (.inr (.inr (.inr (.inr (.inr (.inr (.inr (.inr (.inr (.inr (.inr (.inr (.inr (.inl ⟨h, hp, by omega⟩))))))))))))))))))
      · rw [if_neg (by omega), if_neg (by omega), if_pos (by omega)] at hy; exact .inr (.inr (.inr (.inr (.inr (.inr (.inr (.inr (.inr (.inr (.inr (.inr (.inr (.inr (.inr (.inr (.inr (.inl ⟨h, hp, by omega⟩)))))))))))))))))

set_option maxHeartbeats 8000000 in
set_option maxRecDepth 100000 in
theorem refLower_any (r : Int) (w : World) (hr : (Lit.int .i64 r).wf = true) : Calls Tryd.prog 36 #[.int .i64 r] w fun e w' => e = .returned (.int .i64 (Fol.lower r)) ∧ w = w' := by
  obtain ⟨r1, r2⟩ := int_range hr
  clear hr
  obtain ⟨y, hy, key⟩ := lower_key r
  rw [← hy]
  clear hy
  rcases key with ⟨⟨x1, x2⟩, rfl⟩ | ⟨⟨x1, x2⟩, rfl⟩ | ⟨⟨x1, x2⟩, rfl⟩ | ⟨⟨x1, x2⟩, rfl⟩ | ⟨⟨x1, x2⟩, rfl⟩ | ⟨⟨x1, x2⟩, rfl⟩ | ⟨⟨x1, x2⟩, rfl⟩ | ⟨⟨x1, x2⟩, hp, hyr⟩ | ⟨⟨x1, x2⟩, hp, hyr⟩ | ⟨⟨x1, x2⟩, hp, hyr⟩ | ⟨⟨x1, x2⟩, hp, hyr⟩ | ⟨⟨x1, x2⟩, hp, hyr⟩ | ⟨⟨x1, x2⟩, hp, hyr⟩ | ⟨⟨x1, x2⟩, hp, hyr⟩ | ⟨⟨x1, x2⟩, hp, hyr⟩ | ⟨⟨x1, x2⟩, hp, hyr⟩ | ⟨⟨x1, x2⟩, hp, hyr⟩ | ⟨⟨x1, x2⟩, hp, hyr⟩ | ⟨⟨x1, x2⟩, hp, hyr⟩ | ⟨hN, hyr⟩
  · go_enter Tryd.func36, Tryd.ntmps36
    go_wp2_with (first
      | (go_at_call 46; refine (in_yes _ _ _ _ (by omega)).mono ?_; rintro e w' ⟨rfl, rfl⟩)
      | (go_at_call 46; refine (in_no _ _ _ _ (by omega)).mono ?_; rintro e w' ⟨rfl, rfl⟩))
    go_ret
    exact ⟨rfl, rfl⟩
  · go_enter Tryd.func36, Tryd.ntmps36
    go_wp2_with (first
      | (go_at_call 46; refine (in_yes _ _ _ _ (by omega)).mono ?_; rintro e w' ⟨rfl, rfl⟩)
      | (go_at_call 46; refine (in_no _ _ _ _ (by omega)).mono ?_; rintro e w' ⟨rfl, rfl⟩))
    go_ret
    exact ⟨rfl, rfl⟩
  · go_enter Tryd.func36, Tryd.ntmps36
    go_wp2_with (first
      | (go_at_call 46; refine (in_yes _ _ _ _ (by omega)).mono ?_; rintro e w' ⟨rfl, rfl⟩)
      | (go_at_call 46; refine (in_no _ _ _ _ (by omega)).mono ?_; rintro e w' ⟨rfl, rfl⟩))
    go_ret
    exact ⟨rfl, rfl⟩
  · go_enter Tryd.func36, Tryd.ntmps36
    go_wp2_with (first
      | (go_at_call 46; refine (in_yes _ _ _ _ (by omega)).mono ?_; rintro e w' ⟨rfl, rfl⟩)
      | (go_at_call 46; refine (in_no _ _ _ _ (by omega)).mono ?_; rintro e w' ⟨rfl, rfl⟩))
    go_ret
    exact ⟨rfl, rfl⟩
  · go_enter Tryd.func36, Tryd.ntmps36
    go_wp2_with (first
      | (go_at_call 46; refine (in_yes _ _ _ _ (by omega)).mono ?_; rintro e w' ⟨rfl, rfl⟩)
      | (go_at_call 46; refine (in_no _ _ _ _ (by omega)).mono ?_; rintro e w' ⟨rfl, rfl⟩))
    go_ret
    exact ⟨rfl, rfl⟩
  · go_enter Tryd.func36, Tryd.ntmps36
    go_wp2_with (first
      | (go_at_call 46; refine (in_yes _ _ _ _ (by omega)).mono ?_; rintro e w' ⟨rfl, rfl⟩)
      | (go_at_call 46; refine (in_no _ _ _ _ (by omega)).mono ?_; rintro e w' ⟨rfl, rfl⟩))
    go_ret
    exact ⟨rfl, rfl⟩
  · go_enter Tryd.func36, Tryd.ntmps36
    go_wp2_with (first
      | (go_at_call 46; refine (in_yes _ _ _ _ (by omega)).mono ?_; rintro e w' ⟨rfl, rfl⟩)
      | (go_at_call 46; refine (in_no _ _ _ _ (by omega)).mono ?_; rintro e w' ⟨rfl, rfl⟩))
    go_ret
    exact ⟨rfl, rfl⟩
  · rw [hyr]
    clear hyr
    obtain ⟨hp0, hp1⟩ := parity hp
    simp only [show ((0 : Int) == 0) = true from rfl, show ((0 : Int) == 1) = false from rfl, show ((1 : Int) == 0) = false from rfl, show ((1 : Int) == 1) = true from rfl] at hp0 hp1
    clear hp
    go_enter Tryd.func36, Tryd.ntmps36
    go_wp2_with (first
      | (go_at_call 46; refine (in_yes _ _ _ _ (by omega)).mono ?_; rintro e w' ⟨rfl, rfl⟩)
      | (go_at_call 46; refine (in_no _ _ _ _ (by omega)).mono ?_; rintro e w' ⟨rfl, rfl⟩))
    go_ret
    exact ⟨rfl, rfl⟩
  · rw [hyr]
    clear hyr
    obtain ⟨hp0, hp1⟩ := parity hp
    simp only [show ((0 : Int) == 0) = true from rfl, show ((0 : Int) == 1) = false from rfl, show ((1 : Int) == 0) = false from rfl, show ((1 : Int) == 1) = true from rfl] at hp0 hp1
    clear hp
    go_enter Tryd.func36, Tryd.ntmps36
    go_wp2_with (first
      | (go_at_call 46; refine (in_yes _ _ _ _ (by omega)).mono ?_; rintro e w' ⟨rfl, rfl⟩)
      | (go_at_call 46; refine (in_no _ _ _ _ (by omega)).mono ?_; rintro e w' ⟨rfl, rfl⟩))
    go_ret
    exact ⟨rfl, rfl⟩
  · rw [hyr]
    clear hyr
    obtain ⟨hp0, hp1⟩ := parity hp
    simp only [show ((0 : Int) == 0) = true from rfl, show ((0 : Int) == 1) = false from rfl, show ((1 : Int) == 0) = false from rfl, show ((1 : Int) == 1) = true from rfl] at hp0 hp1
    clear hp
    go_enter Tryd.func36, Tryd.ntmps36
    go_wp2_with (first
      | (go_at_call 46; refine (in_yes _ _ _ _ (by omega)).mono ?_; rintro e w' ⟨rfl, rfl⟩)
      | (go_at_call 46; refine (in_no _ _ _ _ (by omega)).mono ?_; rintro e w' ⟨rfl, rfl⟩))
    go_ret
    exact ⟨rfl, rfl⟩
  · rw [hyr]
    clear hyr
    obtain ⟨hp0, hp1⟩ := parity hp
    simp only [show ((0 : Int) == 0) = true from rfl, show ((0 : Int) == 1) = false from rfl, show ((1 : Int) == 0) = false from rfl, show ((1 : Int) == 1) = true from rfl] at hp0 hp1
    clear hp
    go_enter Tryd.func36, Tryd.ntmps36
    go_wp2_with (first
      | (go_at_call 46; refine (in_yes _ _ _ _ (by omega)).mono ?_; rintro e w' ⟨rfl, rfl⟩)
      | (go_at_call 46; refine (in_no _ _ _ _ (by omega)).mono ?_; rintro e w' ⟨rfl, rfl⟩))
    go_ret
    exact ⟨rfl, rfl⟩
  · rw [hyr]
    clear hyr
    obtain ⟨hp0, hp1⟩ := parity hp
    simp only [show ((0 : Int) == 0) = true from rfl, show ((0 : Int) == 1) = false from rfl, show ((1 : Int) == 0) = false from rfl, show ((1 : Int) == 1) = true from rfl] at hp0 hp1
    clear hp
    go_enter Tryd.func36, Tryd.ntmps36
    go_wp2_with (first
      | (go_at_call 46; refine (in_yes _ _ _ _ (by omega)).mono ?_; rintro e w' ⟨rfl, rfl⟩)
      | (go_at_call 46; refine (in_no _ _ _ _ (by omega)).mono ?_; rintro e w' ⟨rfl, rfl⟩))
    go_ret
    exact ⟨rfl, rfl⟩
  · rw [hyr]
    clear hyr
    obtain ⟨hp0, hp1⟩ := parity hp
    simp only [show ((0 : Int) == 0) = true from rfl, show ((0 : Int) == 1) = false from rfl, show ((1 : Int) == 0) = false from rfl, show ((1 : Int) == 1) = true from rfl] at hp0 hp1
    clear hp
    go_enter Tryd.func36, Tryd.ntmps36
    go_wp2_with (first
      | (go_at_call 46; refine (in_yes _ _ _ _ (by omega)).mono ?_; rintro e w' ⟨rfl, rfl⟩)
      | (go_at_call 46; refine (in_no _ _ _ _ (by omega)).mono ?_; rintro e w' ⟨rfl, rfl⟩))
    go_ret
    exact ⟨rfl, rfl⟩
  · rw [hyr]
    clear hyr
    obtain ⟨hp0, hp1⟩ := parity hp
    simp only [show ((0 : Int) == 0) = true from rfl, show ((0 : Int) == 1) = false from rfl, show ((1 : Int) == 0) = false from rfl, show ((1 : Int) == 1) = true from rfl] at hp0 hp1
    clear hp
    go_enter Tryd.func36, Tryd.ntmps36
    go_wp2_with (first
      | (go_at_call 46; refine (in_yes _ _ _ _ (by omega)).mono ?_; rintro e w' ⟨rfl, rfl⟩)
      | (go_at_call 46; refine (in_no _ _ _ _ (by omega)).mono ?_; rintro e w' ⟨rfl, rfl⟩))
    go_ret
    exact ⟨rfl, rfl⟩
  · rw [hyr]
    clear hyr
    obtain ⟨hp0, hp1⟩ := parity hp
    simp only [show ((0 : Int) == 0) = true from rfl, show ((0 : Int) == 1) = false from rfl, show ((1 : Int) == 0) = false from rfl, show ((1 : Int) == 1) = true from rfl] at hp0 hp1
    clear hp
    go_enter Tryd.func36, Tryd.ntmps36
    go_wp2_with (first
      | (go_at_call 46; refine (in_yes _ _ _ _ (by omega)).mono ?_; rintro e w' ⟨rfl, rfl⟩)
      | (go_at_call 46; refine (in_no _ _ _ _ (by omega)).mono ?_; rintro e w' ⟨rfl, rfl⟩))
    go_ret
    exact ⟨rfl, rfl⟩
  · rw [hyr]
    clear hyr
    obtain ⟨hp0, hp1⟩ := parity hp
    simp only [show ((0 : Int) == 0) = true from rfl, show ((0 : Int) == 1) = false from rfl, show ((1 : Int) == 0) = false from rfl, show ((1 : Int) == 1) = true from rfl] at hp0 hp1
    clear hp
    go_enter Tryd.func36, Tryd.ntmps36
    go_wp2_with (first
      | (go_at_call 46; refine (in_yes _ _ _ _ (by omega)).mono ?_; rintro e w' ⟨rfl, rfl⟩)
      | (go_at_call 46; refine (in_no _ _ _ _ (by omega)).mono ?_; rintro e w' ⟨rfl, rfl⟩))
    go_ret
    exact ⟨rfl, rfl⟩
  · rw [hyr]
    clear hyr
    obtain ⟨hp0, hp1⟩ := parity hp
    simp only [show ((0 : Int) == 0) = true from rfl, show ((0 : Int) == 1) = false from rfl, show ((1 : Int) == 0) = false from rfl, show ((1 : Int) == 1) = true from rfl] at hp0 hp1
    clear hp
    go_enter Tryd.func36, Tryd.ntmps36
    go_wp2_with (first
      | (go_at_call 46; refine (in_yes _ _ _ _ (by omega)).mono ?_; rintro e w' ⟨rfl, rfl⟩)
      | (go_at_call 46; refine (in_no _ _ _ _ (by omega)).mono ?_; rintro e w' ⟨rfl, rfl⟩))
    go_ret
    exact ⟨rfl, rfl⟩
  · rw [hyr]
    clear hyr
    obtain ⟨hp0, hp1⟩ := parity hp
    simp only [show ((0 : Int) == 0) = true from rfl, show ((0 : Int) == 1) = false from rfl, show ((1 : Int) == 0) = false from rfl, show ((1 : Int) == 1) = true from rfl] at hp0 hp1
    clear hp
    go_enter Tryd.func36, Tryd.ntmps36
    go_wp2_with (first
      | (go_at_call 46; refine (in_yes _ _ _ _ (by omega)).mono ?_; rintro e w' ⟨rfl, rfl⟩)
      | (go_at_call 46; refine (in_no _ _ _ _ (by omega)).mono ?_; rintro e w' ⟨rfl, rfl⟩))
    go_ret
    exact ⟨rfl, rfl⟩
  · rw [hyr]
    clear hyr
    obtain ⟨hp0, hp1⟩ := parity hp
    simp only [show ((0 : Int) == 0) = true from rfl, show ((0 : Int) == 1) = false from rfl, show ((1 : Int) == 0) = false from rfl, show ((1 : Int) == 1) = true from rfl] at hp0 hp1
    clear hp
    go_enter Tryd.func36, Tryd.ntmps36
    go_wp2_with (first
      | (go_at_call 46; refine (in_yes _ _ _ _ (by omega)).mono ?_; rintro e w' ⟨rfl, rfl⟩)
      | (go_at_call 46; refine (in_no _ _ _ _ (by omega)).mono ?_; rintro e w' ⟨rfl, rfl⟩))
    go_ret
    exact ⟨rfl, rfl⟩
  · rw [hyr]
    clear hyr
    have N := Lib.hid hN
    clear hN
    go_enter Tryd.func36, Tryd.ntmps36
    go_wp2_with (go_at_call 46; refine (in_no _ _ _ _ (N.out (_, _) (by decide))).mono ?_; rintro e w' ⟨rfl, rfl⟩)
    go_ret
    exact ⟨rfl, rfl⟩
end Go.Proofs.YtldfomggeleolaaDoor
