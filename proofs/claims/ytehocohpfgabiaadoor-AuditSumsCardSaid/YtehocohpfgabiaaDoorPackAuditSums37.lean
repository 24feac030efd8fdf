/- The statement AuditSums, proved for every input that its row reads: part 37 of 54. -/
import Derived.Test.YtehocohpfgabiaaDoorPackAuditSums24
import Derived.Test.YtehocohpfgabiaaDoorPackAuditSums36
/- The document's names and texts. -/
namespace Go.Proofs.YtehocohpfgabiaaDoor
open Go Go.RowKit
set_option linter.unusedVariables false
set_option maxRecDepth 1000000

theorem ev_dot {w : World} {b o : Nat} {x : EvP} (h : w.rangeAt b o x.cells) : w.rangeAt b o [.int .i64 x.e.rep, .int .i64 x.e.n] := fun j v hv => by
  match j, hv with
  | 0, hv => exact h 0 v hv
  | 1, hv => exact h 1 v hv
  | j + 2, hv => simp at hv
end Go.Proofs.YtehocohpfgabiaaDoor
