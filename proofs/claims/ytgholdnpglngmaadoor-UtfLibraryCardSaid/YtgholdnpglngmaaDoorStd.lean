/- Contracts of bytes.Clone and bytes.Equal over this program, by the bytes that lie there. -/
import Derived.Test.YtgholdnpglngmaaDoorProg
import Derived.Test.YtgholdnpglngmaaDoorMem
namespace Go.Proofs.YtgholdnpglngmaaDoor
open Go Go.RowKit

theorem infoU8 : (Tryd.prog.info? 5).map (fun i => (i.zero, i.size, i.bytes)) = some (some (.int .u8 0), 1, 1) := by kernel_rfl

end Go.Proofs.YtgholdnpglngmaaDoor
