/- The walk of FoldSigns. -/
import Derived.Test.YtjpeoncgffpklaaDoorFoldText
import Derived.Test.YtjpeoncgffpklaaDoorFoldLaid
import Derived.Test.YtjpeoncgffpklaaDoorFoldRef2
namespace Go.Proofs.YtjpeoncgffpklaaDoor
open Go Go.RowKit

set_option maxHeartbeats 2000000 in
set_option maxRecDepth 100000 in
theorem foldSigns_walk (r : Int) (W : World) (hr : (Lit.int .i64 r).wf = true) (hT : Tables W) :
    Calls Tryd.prog 8 #[.int .i64 r] W (Yes W) := by
  have HL := Lib.hid (lower_any r W hr hT.great)
  have HT := Lib.hid hT; have HR := Lib.hid hr
  have RL := Lib.hid (fun w => refLower_any r w hr)
  have D1 := Lib.hid (digit_any r); have D2 := Lib.hid (refDigit_any r)
  have L2 := Lib.hid (refLetter_any r); have W2 := Lib.hid (refWord_any r)
  have L1 := Lib.hid (fun w h => letter_any r w hr h); have W1 := Lib.hid (fun w h => word_any r w hr h)
  clear hT hr
  generalize Fol.lower r = x at HL RL
  generalize Fol.digit r = dg at D1 D2
  generalize Fol.letter r = lt at L1 L2
  generalize word r = wd at W1 W2
  go_enter Tryd.func8, Tryd.ntmps8
  go_wp2_with fail
  refine HL.out.mono ?_
  rintro e w1 ⟨rfl, b1⟩
  have B1 := Lib.hid b1; have T1 := Lib.hid (HT.out.below b1)
  clear b1 HL
  go_wp2_with fail
  refine (RL.out w1).mono ?_
  rintro e w' ⟨rfl, rfl⟩
  go_wp2_with fail
  refine (D1.out w1).mono ?_
  rintro e w' ⟨rfl, rfl⟩
  go_wp2_with fail
  refine (D2.out w1).mono ?_
  rintro e w' ⟨rfl, rfl⟩
  go_wp2_with fail
  refine (L1.out w1 T1.out.letters).mono ?_
  rintro e w2 ⟨rfl, b2⟩
  have B2 := Lib.hid (thenBelow B1.out b2); have T2 := Lib.hid (T1.out.below b2)
  clear b2
  go_wp2_with fail
  refine (L2.out w2).mono ?_
  rintro e w' ⟨rfl, rfl⟩
  go_wp2_with fail
  refine (W1.out w2 T2.out.letters).mono ?_
  rintro e w3 ⟨rfl, b3⟩
  have B3 := Lib.hid (thenBelow B2.out b3); have T3 := Lib.hid (T2.out.below b3)
  clear b3
  go_wp2_with fail
  refine (W2.out w3).mono ?_
  rintro e w' ⟨rfl, rfl⟩
  go_wp2_with fail
  refine (awake4 w3 T3.out.shapes T3.out.great T3.out.letters).mono ?_
  rintro e w4 ⟨rfl, b4⟩
  have B4 := Lib.hid (thenBelow B3.out b4)
  go_wp2_with fail
  go_ret
  exact ⟨ret_bool (by first | rfl | (simp; done)), B4.out⟩
end Go.Proofs.YtjpeoncgffpklaaDoor
