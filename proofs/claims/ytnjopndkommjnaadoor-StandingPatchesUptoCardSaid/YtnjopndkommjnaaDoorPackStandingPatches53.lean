/- The statement StandingPatches, proved for every input that its row reads: part 53 of 54. -/
import Derived.Test.YtnjopndkommjnaaDoorRows
import Derived.Test.YtnjopndkommjnaaDoorMemRows
import Derived.Test.YtnjopndkommjnaaDoorPackStandingPatches28
import Derived.ProofKit
import Derived.Lib.LaidTab
import Derived.Deep.DeepHandedRow
/- The three tables out of what the rows list; a world that holds them. -/
namespace Go.Proofs.YtnjopndkommjnaaDoor
open Go Go.ChangeShapes Go.WideShapes Go.ChangeAt Go.RowKit

/-- what a table's cells are -/
def litV : DataW Unit → Value
  | .lit z => z.value
  | _ => undef
def tabV : DataW Unit → Array Value
  | .agg l => (l.map litV).toArray
  | _ => #[]
noncomputable def withTab (W : World) (g : Nat) (cs : Array Value) : World :=
  { W with heap := W.heap.modify g fun
      | .cells _ t frozen => .cells cs t frozen
      | o => o }
theorem gPow : Tryd.prog.globalNamed "internal/strconv.uint64pow10" = some 0 := by kernel_rfl
theorem gPowType : (Tryd.prog.globals[0]?).map (·.type) = some 102 := by kernel_rfl
theorem powData : (Rows.laid_internal_strconv_uint64pow10 : DataW Unit) = Lib.tabData .u64 Lib.pow10Tab := rfl
theorem pow_of {W : World} {l : List (String × DataW Unit)} (h : laidMet Tryd.prog l W) (hm : ("internal/strconv.uint64pow10", Rows.laid_internal_strconv_uint64pow10) ∈ l) : Pow W := by
  obtain ⟨ps, hv, _⟩ := h
  obtain ⟨g, t, cs, fuel, p, h1, h2, h3, h4⟩ := laid_mem hv hm
  obtain rfl := Option.some.inj (gPow.symm.trans h1)
  obtain rfl := Option.some.inj (gPowType.symm.trans h2)
  rw [powData] at h4
  unfold Pow Lib.TabIs
  have e := Lib.cells_of_tab Tryd.underlying102 Tryd.underlying89 (by kernel_rfl) (by kernel_rfl) h4
  rw [h3, ← e]
theorem laid_of {W : World} (h : laidMetH Tryd.prog [("math/bits.deBruijn32tab", Rows.laid_math_bits_deBruijn32tab), ("math/bits.deBruijn64tab", Rows.laid_math_bits_deBruijn64tab), ("internal/strconv.uint64pow10", Rows.laid_internal_strconv_uint64pow10)] W) : Pow W := pow_of h (by simp)
noncomputable def laidWorld (os : Os) : World :=
  withTab (withTab (withTab (World.holding Tryd.prog os ⟨#[], #[], []⟩) 0 (tabV Rows.laid_internal_strconv_uint64pow10)) 1 (tabV Rows.laid_math_bits_deBruijn32tab)) 2 (tabV Rows.laid_math_bits_deBruijn64tab)
theorem laid_met (os : Os) (args : Array Value) : laidMet Tryd.prog [("math/bits.deBruijn32tab", Rows.laid_math_bits_deBruijn32tab), ("math/bits.deBruijn64tab", Rows.laid_math_bits_deBruijn64tab), ("internal/strconv.uint64pow10", Rows.laid_internal_strconv_uint64pow10)] ((laidWorld os).forCall (fun _ _ => 0) ⟨#[], args, []⟩).memory :=
  laidMet_of_run' 8 (by kernel_rfl) (by kernel_rfl)
end Go.Proofs.YtnjopndkommjnaaDoor
