/- The walk of PagesNobody: a device that no call made. -/
import Derived.Test.YtfgjcgonlpbdbaaPgAwake
import Derived.Test.YtfgjcgonlpbdbaaPgNobody
namespace Go.Proofs.Ytfgjcgonlpbdbaa
open Go Go.RowKit

theorem pagesNobody_walk (i n : Int) (bp : Option Addr) (bc : Nat) (b : List UInt8) (kp : Option Addr) (kc : Nat) (k : List Int) (W : World) (hi : (Lit.int .i64 i).wf = true) (hn : (Lit.int .i64 n).wf = true) (hb : Came W bp bc b) (hk : CameI W kp kc k) :
    Calls Try.prog 6 #[.int .i64 i, .int .i64 n, .slice bp b.length bc, .slice kp k.length kc] W (Yes W) :=
  pagesNobody_of awake10 i n bp kp b.length bc k.length kc W
end Go.Proofs.Ytfgjcgonlpbdbaa
