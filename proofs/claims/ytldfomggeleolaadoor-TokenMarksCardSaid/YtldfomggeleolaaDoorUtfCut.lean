/- The contracts of strings.Clone, strings.HasPrefix and utf's Cut. -/
import Derived.Test.YtldfomggeleolaaDoorUtfValid
import Derived.Lib.Strings
import Derived.Lib.Walk
import Derived.Lib.BufferWrite
import Derived.Lib.UnsafeStr
import Derived.Laws.MakeOwn
namespace Go.Proofs.YtldfomggeleolaaDoor
open Go Go.RowKit

end Go.Proofs.YtldfomggeleolaaDoor
