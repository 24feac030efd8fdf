/- The statement StandingPatches, proved for every input that its row reads: part 45 of 54. -/
import Derived.Test.YtnjopndkommjnaaDoorRfDigits
import Derived.Test.YtnjopndkommjnaaDoorPackStandingPatches24
import Derived.Lib.Hide
/- The document's digits of any int, also the least one. -/
namespace Go.Proofs.YtnjopndkommjnaaDoor
open Go Go.RowKit
set_option linter.unusedVariables false
set_option maxRecDepth 1000000

theorem numB_is (n : Int) : numB n = itoB n := rfl
theorem decL_big (n : Nat) (h : ¬ n < 10) : Lib.decDigits n = Lib.decDigits (n / 10) ++ [UInt8.ofNat (48 + n % 10)] := by rw [Lib.decDigits, dif_neg h]
theorem numB_least : numB (-9223372036854775808) = ⟨#[45, 57, 50, 50, 51, 51, 55, 50, 48, 51, 54, 56, 53, 52, 55, 55, 53, 56, 48, 56]⟩ := by
  have h : Lib.decDigits 9223372036854775808 = [57, 50, 50, 51, 51, 55, 50, 48, 51, 54, 56, 53, 52, 55, 55, 53, 56, 48, 56] := by
    iterate 18 rw [decL_big _ (by decide)]
    rw [Lib.decDigits, dif_pos (by decide)]
    decide +kernel
  unfold numB Lib.itoa
  rw [if_pos (by decide), show (-9223372036854775808 : Int).natAbs = 9223372036854775808 from rfl, h]
set_option maxHeartbeats 1000000 in
theorem digits34_is (n : Int) (h0 : -9223372036854775808 ≤ n) (h1 : n ≤ 9223372036854775807) (w : World) : Calls Tryd.prog 34 #[.int .i64 n] w (DigR w (numB n)) := by
  by_cases h : n = -9223372036854775808
  · subst h
    rw [numB_least]
    go_enter Tryd.func34, Tryd.ntmps34
    go_wp2
    go_ret
    exact ⟨rfl, Below.refl _ _⟩
  · have DG := Lib.hid (refDigits_is n (by omega) h1 w)
    rw [← numB_is] at DG
    clear h0 h1
    go_enter Tryd.func34, Tryd.ntmps34
    go_wp2_with fail
    refine DG.out.mono ?_
    rintro e w2 ⟨rfl, hb⟩
    have B := Lib.hid hb
    clear hb DG
    dsimp only
    go_wp2
    go_ret
    exact ⟨rfl, B.out⟩
end Go.Proofs.YtnjopndkommjnaaDoor
