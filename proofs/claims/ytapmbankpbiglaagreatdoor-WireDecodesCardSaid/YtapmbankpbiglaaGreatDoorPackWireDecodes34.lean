/- The statement WireDecodes, proved for every input that its row reads: part 34 of 54. -/
import Derived.Test.YtapmbankpbiglaaGreatDoorPackWireDecodes29
import Derived.Deep.QuietTactic
import Derived.BigQuiet
/- slices.Equal of ints that are the same. -/
namespace Go.Proofs.YtapmbankpbiglaaGreatDoor
open Go Go.RowKit
set_option linter.unusedVariables false

theorem below_drewN {B : Nat} {a w : World} (h : Below B a w) (n : Nat) : Below B a (w.drewN n) := ⟨h.os, h.tape, h.output, h.size, h.block⟩
end Go.Proofs.YtapmbankpbiglaaGreatDoor
