/- slices.Equal of two lists of texts that hold the same. -/
import Derived.Test.YtijmijokgenflaaGreatDoorOpenS
import Derived.Test.YtijmijokgenflaaGreatDoorProg
import Derived.Deep.QuietTactic
import Derived.BigQuiet
namespace Go.Proofs.YtijmijokgenflaaGreatDoor
open Go Go.RowKit

theorem drewN_belowE {B : Nat} {a w : World} (h : Below B a w) (n : Nat) : Below B a (w.drewN n) := ⟨h.os, h.tape, h.output, h.size, h.block⟩
set_option maxHeartbeats 1000000 in
theorem equalS_same (p1 p2 : Option Addr) (c1 c2 : Nat) (l : List ByteArray) (w : World) (h1 : LiesS w p1 l) (h2 : LiesS w p2 l) (hl : l.length ≤ 9223372036854775806) :
    Calls Tryz.prog 14 #[.slice p1 l.length c1, .slice p2 l.length c2] w fun e w' => e = .returned (.bool true) ∧ Below w.heap.size w w' := by
  have H1 := Lib.hid h1; have H2 := Lib.hid h2
  clear h1 h2
  go_enter Tryz.func14, Tryz.ntmps14
  go_wp2
  go_loopw [13] (fun i wr => ∃ k : Nat, k ≤ l.length ∧ i = .int .i64 k ∧ Below w.heap.size w wr) (fun i _ => l.length - (intOf i).toNat)
  case atStart => exact ⟨0, Nat.zero_le _, rfl, Below.refl _ _⟩
  case round =>
    obtain ⟨k, hk, rfl, hb⟩ := hrel
    have B := Lib.hid hb
    clear hb
    by_cases hlt : k < l.length
    · have hlt' : (k : Int) < l.length := by omega
      obtain ⟨b1, o1, rfl, _, hc1⟩ := (H1.out.below B.out).at (by omega)
      obtain ⟨b2, o2, rfl, _, hc2⟩ := (H2.out.below B.out).at (by omega)
      have x1 := hc1 k hlt
      have x2 := hc2 k hlt
      clear hc1 hc2
      generalize l.getD k ByteArray.empty = s at x1 x2
      go_wp2
      go_quiet (fail)
      have B2 : Hid (Below w.heap.size w (wr.drewN nq)) := drewN_belowE B.out _
      go_wp2
      go_roundw
      case rel => exact ⟨k + 1, by omega, by go_num, B2.out⟩
      case measure => simp [intOf]; omega
    · have hlt' : ¬ (k : Int) < l.length := by omega
      go_wp2
      go_ret
      exact ⟨rfl, B.out⟩
end Go.Proofs.YtijmijokgenflaaGreatDoor
