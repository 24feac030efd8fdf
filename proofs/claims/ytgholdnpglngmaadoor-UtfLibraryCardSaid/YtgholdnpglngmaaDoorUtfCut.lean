/- The contracts of strings.Clone, strings.HasPrefix and utf's Cut. -/
import Derived.Test.YtgholdnpglngmaaDoorUtfValid
import Derived.Lib.Strings
import Derived.Lib.Walk
import Derived.Lib.BufferWrite
import Derived.Lib.UnsafeStr
import Derived.Laws.MakeOwn
namespace Go.Proofs.YtgholdnpglngmaaDoor
open Go Go.RowKit

end Go.Proofs.YtgholdnpglngmaaDoor
