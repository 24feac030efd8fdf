/- The statement WireDecodes, proved for every input that its row reads: part 38 of 54. -/
import Derived.Test.YtapmbankpbiglaaGreatDoorPackWireDecodes29
import Derived.Laws.IdiomStrings
import Derived.StillTailTactics
import Derived.Deep.QuietTactic
import Derived.BigQuiet
/- The contracts of the document's own Text and Rising. -/
namespace Go.Proofs.YtapmbankpbiglaaGreatDoor
open Go Go.RowKit

theorem lies_row (w : World) (ty : TypeId) (m : Nat × Nat) (l : List UInt8) (cs : Array Value) (hcs : ∀ i, i < l.length → cs[i]? = some (.int .u8 ((l.getD i 0).toNat : Int))) : Lies (w.alloc (.cells cs ty m)) (some ⟨w.heap.size, 0, none⟩) l := by
  intro _
  refine ⟨w.heap.size, 0, rfl, fun i hi => ?_⟩
  rw [Nat.zero_add, cell_of_row (w.alloc _) w.heap.size i _ ty m (heap_alloc_new w _)]
  exact hcs i hi

end Go.Proofs.YtapmbankpbiglaaGreatDoor
