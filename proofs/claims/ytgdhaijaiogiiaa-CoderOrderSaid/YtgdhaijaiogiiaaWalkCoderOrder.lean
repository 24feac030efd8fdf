/- The walk of CoderOrder. -/
import Derived.Test.YtgdhaijaiogiiaaCoderOrder
namespace Go.Proofs.Ytgdhaijaiogiiaa
open Go Go.RowKit

set_option maxHeartbeats 2000000 in
theorem coderOrder_walk (n m : Int) (W : World) (hn : (Lit.int .i64 n).wf = true) (hm : (Lit.int .i64 m).wf = true) :
    Calls Try.prog 7 #[.int .i64 n, .int .i64 m] W (Yes W) := by
  have rn := int_range hn
  have rm := int_range hm
  clear hn hm
  obtain ⟨rn1, rn2⟩ := rn
  obtain ⟨rm1, rm2⟩ := rm
  have key : ∀ (x y : Nat), x ≤ 9223372036854775807 → y ≤ 9223372036854775807 → ((0 ≤ n ∧ n = x) ∨ (n < 0 ∧ x = 0)) → ((0 ≤ m ∧ m = y) ∨ (m < 0 ∧ y = 0)) →
      Calls Try.prog 7 #[.int .i64 n, .int .i64 m] W (Yes W) := by
    intro x y hx hy hnx hmy
    have hc := cmp_enc x y (by omega) (by omega)
    have HC := Lib.hid hc; clear hc
    have w1 : (Lit.int .i64 (x : Int)).wf = true := WalkArith.wf_i64 (by omega)
    have w2 : (Lit.int .i64 (y : Int)).wf = true := WalkArith.wf_i64 (by omega)
    have W1 := Lib.hid w1; have W2 := Lib.hid w2; clear w1 w2
    rcases hnx with ⟨hn0, rfl⟩ | ⟨hn0, rfl⟩ <;> rcases hmy with ⟨hm0, rfl⟩ | ⟨hm0, rfl⟩
    all_goals
      go_enter Try.func7, Try.ntmps7
      go_wp2_with fail
      refine (num_any none 0 [] _ W (Lies.nil _ _) (fun _ => rfl) (Nat.le_refl _) W1.out (by simp)).mono ?_
      intro e w1 hr1
      obtain ⟨p1, c1, rfl, g1, b1⟩ := hr1.given
      simp only [List.nil_append] at g1
      have G1 := Lib.hid g1; have B1 := Lib.hid b1; clear hr1 g1 b1
      go_wp2_with fail
      refine (num_any none 0 [] _ w1 (Lies.nil _ _) (fun _ => rfl) (Nat.le_refl _) W2.out (by simp)).mono ?_
      intro e w2 hr2
      obtain ⟨p2, c2, rfl, g2, b2⟩ := hr2.given
      simp only [List.nil_append] at g2
      have G2 := Lib.hid g2; have B2 := Lib.hid b2; clear hr2 g2 b2
      go_wp2_with fail
      refine (compare_any p1 p2 _ _ c1 c2 _ _ w2 (G1.out.lies.below B2.out) G2.out.lies rfl rfl).mono ?_
      rintro e w' ⟨rfl, rfl⟩
      go_wp2_with fail
      refine (cmpInt_any _ _ w2).mono ?_
      rintro e w' ⟨rfl, rfl⟩
      have hb := beq_iff_eq.2 HC.out
      try simp only [show ((0 : Nat) : Int) = 0 from rfl] at hb
      go_wp2_with fail
      refine (awake_any w2).mono ?_
      rintro e w3 ⟨rfl, b3⟩
      have B3 := Lib.hid b3
      go_wp2_with fail
      go_ret
      exact ⟨rfl, thenBelow (thenBelow B1.out B2.out) B3.out⟩
  exact key n.toNat m.toNat (by omega) (by omega) (by omega) (by omega)
end Go.Proofs.Ytgdhaijaiogiiaa
