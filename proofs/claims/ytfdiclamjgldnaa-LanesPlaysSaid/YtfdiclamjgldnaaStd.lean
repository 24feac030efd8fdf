/- Contracts of bytes.Clone and bytes.Equal over this program, by the bytes that lie there. -/
import Derived.Test.YtfdiclamjgldnaaProg
import Derived.Test.YtfdiclamjgldnaaMem
namespace Go.Proofs.Ytfdiclamjgldnaa
open Go Go.RowKit

theorem infoU8 : (Try.prog.info? 5).map (fun i => (i.zero, i.size, i.bytes)) = some (some (.int .u8 0), 1, 1) := by kernel_rfl

theorem isU8 : U8 Try.prog 30 5 := ⟨Try.underlying30, infoU8⟩

set_option maxHeartbeats 1000000 in
/-- bytes.Equal -/
theorem equal_any (p1 p2 : Option Addr) (n1 n2 c1 c2 : Nat) (l1 l2 : List UInt8) (w : World) (h1 : Lies w p1 l1) (h2 : Lies w p2 l2) (e1 : n1 = l1.length) (e2 : n2 = l2.length) :
    Calls Try.prog 21 #[.slice p1 n1 c1, .slice p2 n2 c2] w fun e w' => e = .returned (.bool (l1 == l2)) ∧ w = w' := by
  have k1 := h1.convert (P := Try.prog) n1 e1 c1 30 5 9 Try.underlying30 Try.underlying5 Try.underlying9
  have k2 := h2.convert (P := Try.prog) n2 e2 c2 30 5 9 Try.underlying30 Try.underlying5 Try.underlying9
  clear h1 h2 e1 e2
  go_enter Try.func21, Try.ntmps21
  go_wp2
  go_ret
  exact ⟨rfl, rfl⟩
end Go.Proofs.Ytfdiclamjgldnaa
