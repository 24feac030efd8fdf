/- The contract of the document's own Next: by the first length that fits. -/
import Derived.Test.YtgholdnpglngmaaDoorUtfRefNext
namespace Go.Proofs.YtgholdnpglngmaaDoor
open Go Go.RowKit

theorem below_drewN {B : Nat} {a w : World} (h : Below B a w) (n : Nat) : Below B a (w.drewN n) := ⟨h.os, h.tape, h.output, h.size, h.block⟩
end Go.Proofs.YtgholdnpglngmaaDoor
