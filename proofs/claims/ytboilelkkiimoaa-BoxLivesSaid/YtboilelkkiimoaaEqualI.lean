/- slices.Equal of ints that are the same. -/
import Derived.Test.YtboilelkkiimoaaMemIntsOwn
import Derived.Deep.QuietTactic
import Derived.BigQuiet
namespace Go.Proofs.Ytboilelkkiimoaa
open Go Go.RowKit
set_option linter.unusedVariables false

theorem below_drewN {B : Nat} {a w : World} (h : Below B a w) (n : Nat) : Below B a (w.drewN n) := ⟨h.os, h.tape, h.output, h.size, h.block⟩
set_option maxHeartbeats 1000000 in
theorem equalI_any (p1 p2 : Option Addr) (c1 c2 : Nat) (l : List Int) (w : World) (h1 : LiesI w p1 l) (h2 : LiesI w p2 l) (hn : l.length ≤ 1000000) :
    Calls Try.prog 13 #[.slice p1 l.length c1, .slice p2 l.length c2] w fun e w' => e = .returned (.bool true) ∧ Below w.heap.size w w' := by
  have H1 := Lib.hid h1; have H2 := Lib.hid h2; clear h1 h2
  go_enter Try.func13, Try.ntmps13
  go_wp2
  go_loopw [13] (fun i wr => ∃ k : Nat, k ≤ l.length ∧ i = .int .i64 k ∧ Below w.heap.size w wr) (fun i _ => l.length - (intOf i).toNat)
  case atStart => exact ⟨0, Nat.zero_le _, rfl, Below.refl _ _⟩
  case round =>
    obtain ⟨k, hk, rfl, hb⟩ := hrel
    have HB := Lib.hid hb; clear hb
    by_cases hkl : k < l.length
    · obtain ⟨b1, o1, rfl, _, q1⟩ := (H1.out.below HB.out).at (by omega)
      obtain ⟨b2, o2, rfl, _, q2⟩ := (H2.out.below HB.out).at (by omega)
      have r1 := q1 k hkl; have r2 := q2 k hkl
      clear q1 q2
      generalize l.getD k 0 = x at r1 r2
      have hkl' : (k : Int) < l.length := by omega
      go_wp2
      go_quiet (fail)
      go_wp2
      go_roundw
      case rel => exact ⟨k + 1, by omega, by go_num, below_drewN HB.out _⟩
      case measure => simp [intOf]; omega
    · obtain rfl : k = l.length := by omega
      go_wp2
      go_ret
      exact ⟨rfl, HB.out⟩
end Go.Proofs.Ytboilelkkiimoaa
