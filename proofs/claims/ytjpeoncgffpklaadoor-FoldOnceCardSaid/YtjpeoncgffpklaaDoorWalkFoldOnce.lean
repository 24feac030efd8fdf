/- The walk of FoldOnce. -/
import Derived.Test.YtjpeoncgffpklaaDoorFoldText
import Derived.Test.YtjpeoncgffpklaaDoorFoldLaid
namespace Go.Proofs.YtjpeoncgffpklaaDoor
open Go Go.RowKit

theorem lower_near (r : Int) : r ≤ Fol.lower r ∧ Fol.lower r ≤ r + 80 ∧ (Fol.lower r ≠ r → r ≤ 2000) := by
  unfold Fol.lower
  (repeat' split) <;> omega
theorem sg_iff (r : Int) : Utf.sg r = true ↔ (0 ≤ r ∧ r < 55296) ∨ (57343 < r ∧ r ≤ 1114111) := by unfold Utf.sg; simp only [decide_eq_true_eq]

set_option maxHeartbeats 2000000 in
set_option maxRecDepth 100000 in
theorem foldOnce_walk (r : Int) (W : World) (hr : (Lit.int .i64 r).wf = true) (hT : Tables W) :
    Calls Tryd.prog 10 #[.int .i64 r] W (Yes W) := by
  obtain ⟨r1, r2⟩ := int_range hr
  have hn := lower_near r
  have hw : (Lit.int .i64 (Fol.lower r)).wf = true := by simp [Lit.wf, IntKind.min, IntKind.max, IntKind.bits, IntKind.signed]; omega
  have e1 := Fol.lower_lower r
  have e2 := Fol.letter_lower r
  have e3 := Fol.digit_lower r
  have e4 : Utf.sg r = true → Utf.sg (Fol.lower r) = true := fun h => (sg_iff _).2 (Fol.sign_lower r ((sg_iff _).1 h))
  have hl := lower_any r W hr hT.great
  obtain ⟨x, hx⟩ : ∃ x, x = Fol.lower r := ⟨_, rfl⟩
  rw [← hx] at hw e1 e2 e3 e4 hl
  have HT := Lib.hid hT; have HW := Lib.hid hw; have HR := Lib.hid hr; have E1 := Lib.hid e1; have E2 := Lib.hid e2; have E3 := Lib.hid e3; have E4 := Lib.hid e4; have HL := Lib.hid hl
  clear hT hw hr e1 e2 e3 e4 hl hx hn
  go_enter Tryd.func10, Tryd.ntmps10
  go_wp2_with fail
  refine HL.out.mono ?_
  rintro e w1 ⟨rfl, b1⟩
  have B1 := Lib.hid b1; have T1 := Lib.hid (HT.out.below b1)
  have h2 := lower_any x w1 HW.out T1.out.great
  rw [E1.out] at h2
  have H2 := Lib.hid h2
  clear b1 h2 HL
  go_wp2_with fail
  refine H2.out.mono ?_
  rintro e w2 ⟨rfl, b2⟩
  have B2 := Lib.hid (thenBelow B1.out b2); have T2 := Lib.hid (T1.out.below b2)
  have hs1 := sign_is r w2; have hs2 := sign_is x w2
  have hlt := letter_any x w2 HW.out T2.out.letters
  have hd1 := digit_any x; have hd2 := digit_any r
  have hlr := fun w h => letter_any r w HR.out h
  rw [E2.out] at hlt
  rw [E3.out] at hd1
  have LT := Lib.hid hlt; have D1 := Lib.hid hd1; have D2 := Lib.hid hd2; have LR := Lib.hid hlr
  clear b2 H2 hlt hd1 hd2 hlr
  generalize Fol.letter r = lt at LT LR
  generalize Fol.digit r = dg at D1 D2
  cases hsv : Utf.sg r with
  | false =>
    rw [hsv] at hs1
    have S1 := Lib.hid hs1
    clear hs1 hs2 hsv E4
    go_wp2_with fail
    refine S1.out.mono ?_
    rintro e w' ⟨rfl, rfl⟩
    go_wp2_with fail
    refine LT.out.mono ?_
    rintro e w3 ⟨rfl, b3⟩
    have B3 := Lib.hid (thenBelow B2.out b3); have T3 := Lib.hid (T2.out.below b3)
    have L3 := Lib.hid (LR.out w3 T3.out.letters)
    clear b3 LR
    go_wp2_with fail
    refine L3.out.mono ?_
    rintro e w4 ⟨rfl, b4⟩
    have B4 := Lib.hid (thenBelow B3.out b4); have T4 := Lib.hid (T3.out.below b4)
    clear b4
    go_wp2_with fail
    refine (D1.out w4).mono ?_
    rintro e w' ⟨rfl, rfl⟩
    go_wp2_with fail
    refine (D2.out w4).mono ?_
    rintro e w' ⟨rfl, rfl⟩
    go_wp2_with fail
    refine (awake4 w4 T4.out.shapes T4.out.great T4.out.letters).mono ?_
    rintro e w5 ⟨rfl, b5⟩
    have B5 := Lib.hid (thenBelow B4.out b5)
    go_wp2_with fail
    go_ret
    exact ⟨ret_bool (by first | rfl | (simp; done)), B5.out⟩
  | true =>
    rw [hsv] at hs1
    rw [E4.out hsv] at hs2
    have S1 := Lib.hid hs1; have S2 := Lib.hid hs2
    clear hs1 hs2 hsv E4
    go_wp2_with fail
    refine S1.out.mono ?_
    rintro e w' ⟨rfl, rfl⟩
    go_wp2_with fail
    refine S2.out.mono ?_
    rintro e w' ⟨rfl, rfl⟩
    go_wp2_with fail
    refine LT.out.mono ?_
    rintro e w3 ⟨rfl, b3⟩
    have B3 := Lib.hid (thenBelow B2.out b3); have T3 := Lib.hid (T2.out.below b3)
    have L3 := Lib.hid (LR.out w3 T3.out.letters)
    clear b3 LR
    go_wp2_with fail
    refine L3.out.mono ?_
    rintro e w4 ⟨rfl, b4⟩
    have B4 := Lib.hid (thenBelow B3.out b4); have T4 := Lib.hid (T3.out.below b4)
    clear b4
    go_wp2_with fail
    refine (D1.out w4).mono ?_
    rintro e w' ⟨rfl, rfl⟩
    go_wp2_with fail
    refine (D2.out w4).mono ?_
    rintro e w' ⟨rfl, rfl⟩
    go_wp2_with fail
    refine (awake4 w4 T4.out.shapes T4.out.great T4.out.letters).mono ?_
    rintro e w5 ⟨rfl, b5⟩
    have B5 := Lib.hid (thenBelow B4.out b5)
    go_wp2_with fail
    go_ret
    exact ⟨ret_bool (by first | rfl | (simp; done)), B5.out⟩
end Go.Proofs.YtjpeoncgffpklaaDoor
