/- The statement WireEncodes, proved for every input that its row reads: part 40 of 54. -/
import Derived.Test.YtapbeokocfmlpaaDoorPackWireEncodes38
import Derived.Test.YtapbeokocfmlpaaDoorPackWireEncodes31
/- docs: a write that was written is read. -/
namespace Go.Proofs.YtapbeokocfmlpaaDoor
open Go Go.RowKit
set_option linter.unusedVariables false
set_option maxRecDepth 1000000

theorem zeroWrC (w : World) : (zeroValue 60).run Tryd.prog w = .ok (.agg (Wr.cells ⟨0, 0, 0, ByteArray.empty, 0, ByteArray.empty⟩).toArray) w := by kernel_rfl
end Go.Proofs.YtapbeokocfmlpaaDoor
