/- Contracts of bytes.Clone and bytes.Equal over this program, by the bytes that lie there. -/
import Derived.Test.YtehocohpfgabiaaDoorProg
import Derived.Test.YtehocohpfgabiaaDoorMem
namespace Go.Proofs.YtehocohpfgabiaaDoor
open Go Go.RowKit

theorem infoU8 : (Tryd.prog.info? 5).map (fun i => (i.zero, i.size, i.bytes)) = some (some (.int .u8 0), 1, 1) := by kernel_rfl

theorem isU8 : U8 Tryd.prog 61 5 := ⟨Tryd.underlying61, infoU8⟩

end Go.Proofs.YtehocohpfgabiaaDoor
