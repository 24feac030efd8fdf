/- The walk of TokenParts. -/
import Derived.Test.YtldfomggeleolaaDoorTokAwake
import Derived.Test.YtldfomggeleolaaDoorTokCount
import Derived.Test.YtldfomggeleolaaDoorTokParts
namespace Go.Proofs.YtldfomggeleolaaDoor
open Go Go.RowKit
set_option linter.unusedVariables false

set_option maxHeartbeats 4000000 in
set_option maxRecDepth 100000 in
theorem tokenParts_walk (a b : ByteArray) (W : World) (ha : a.size ≤ 140737488351232) (hb : b.size ≤ 140737488351232) (hT : Tables W) :
    Calls Tryd.prog 6 #[.string a, .string b] W (Yes W) := by
  have HT := Lib.hid hT
  by_cases h1 : a.size ≤ 2048
  · by_cases h2 : b.size ≤ 2048
    · have h1' : ¬ (a.size : Int) > 2048 := by omega
      have h2' : ¬ (b.size : Int) > 2048 := by omega
      have hz : ((a ++ ⟨#[32]⟩) ++ b).size ≤ 100000 := by
        rw [Tok.size_app, Tok.size_app]
        show a.size + 1 + b.size ≤ 100000
        omega
      have hz2 : ((⟨#[120]⟩ : ByteArray) ++ a).size ≤ 100000 := by
        rw [Tok.size_app]
        show 1 + a.size ≤ 100000
        omega
      have C1 := Lib.hid (fun w h => tokCount_is ((a ++ ⟨#[32]⟩) ++ b) w hz h)
      have C2 := Lib.hid (fun w h => tokCount_is a w (by omega) h)
      have C3 := Lib.hid (fun w h => tokCount_is b w (by omega) h)
      have C4 := Lib.hid (fun w h => tokCount_is ((⟨#[120]⟩ : ByteArray) ++ a) w hz2 h)
      have S1 := Lib.hid (fun w h => tokSingle_is a w (by omega) h)
      have L2 : (Tok.spans a).length ≤ 100000 := Nat.le_trans (Tok.sp_in a).1 (by omega)
      have L3 : (Tok.spans b).length ≤ 100000 := Nat.le_trans (Tok.sp_in b).1 (by omega)
      rw [Tok.parts_count] at C1
      have SA := Lib.hid (Tok.single_ahead a)
      have hsa1 : ¬ (9223372036854775807 : Int) < (a.size : Int) + 1 := by omega
      clear hT
      generalize (Tok.spans a).length = n at L2 C1 C2
      generalize (Tok.spans b).length = m at L3 C1 C3
      generalize (Tok.spans ((⟨#[120]⟩ : ByteArray) ++ a)).length = k at C4 SA
      generalize Tok.single a = sg at S1 SA
      go_enter Tryd.func6, Tryd.ntmps6
      go_wp2_with fail
      refine (C1.out W HT.out).mono ?_
      rintro e w1 ⟨rfl, hb1⟩
      have B1 := Lib.hid hb1
      clear hb1 C1
      go_wp2_with fail
      refine (C2.out w1 (HT.out.below B1.out)).mono ?_
      rintro e w2 ⟨rfl, hb1⟩
      have B2 := Lib.hid (thenBelow B1.out hb1)
      clear hb1 C2 B1
      go_wp2_with fail
      refine (C3.out w2 (HT.out.below B2.out)).mono ?_
      rintro e w3 ⟨rfl, hb1⟩
      have B3 := Lib.hid (thenBelow B2.out hb1)
      clear hb1 C3 B2
      go_wp2_with fail
      refine (S1.out w3 (HT.out.below B3.out)).mono ?_
      rintro e w4 ⟨rfl, hb1⟩
      have B4 := Lib.hid (thenBelow B3.out hb1)
      clear hb1 S1 B3
      cases hsg : sg with
      | false =>
        clear C4 SA
        go_wp2_with fail
        refine (awake15 w4 (HT.out.below B4.out)).mono ?_
        rintro e w5 ⟨rfl, hb1⟩
        have B5 := Lib.hid (thenBelow B4.out hb1)
        clear hb1 B4
        go_wp2_with fail
        go_ret
        exact ⟨ret_bool (by first | rfl | (simp; done)), B5.out⟩
      | true =>
        obtain rfl := SA.out hsg
        clear SA
        go_wp2_with fail
        refine (C4.out w4 (HT.out.below B4.out)).mono ?_
        rintro e w6 ⟨rfl, hb1⟩
        have B6 := Lib.hid (thenBelow B4.out hb1)
        clear hb1 C4 B4
        go_wp2_with fail
        refine (awake15 w6 (HT.out.below B6.out)).mono ?_
        rintro e w5 ⟨rfl, hb1⟩
        have B5 := Lib.hid (thenBelow B6.out hb1)
        clear hb1 B6
        go_wp2_with fail
        go_ret
        exact ⟨ret_bool (by first | rfl | (simp; done)), B5.out⟩
    · have h1' : ¬ (a.size : Int) > 2048 := by omega
      have h2' : (b.size : Int) > 2048 := by omega
      have AW := Lib.hid (awake15 W hT)
      clear hT
      go_enter Tryd.func6, Tryd.ntmps6
      go_wp2_with fail
      refine AW.out.mono ?_
      rintro e w3 ⟨rfl, hb3⟩
      have B3 := Lib.hid hb3
      clear AW hb3
      go_wp2_with fail
      go_ret
      exact ⟨ret_bool (by first | rfl | (simp; done)), B3.out⟩
  · have h1' : (a.size : Int) > 2048 := by omega
    have AW := Lib.hid (awake15 W hT)
    clear hT
    go_enter Tryd.func6, Tryd.ntmps6
    go_wp2_with fail
    refine AW.out.mono ?_
    rintro e w3 ⟨rfl, hb3⟩
    have B3 := Lib.hid hb3
    clear AW hb3
    go_wp2_with fail
    go_ret
    exact ⟨ret_bool (by first | rfl | (simp; done)), B3.out⟩
end Go.Proofs.YtldfomggeleolaaDoor
