/- The contracts of coder's rise and Rising. -/
import Derived.Test.YteaghcgekaoimaaCoderRef2
import Derived.Test.YteaghcgekaoimaaMemInts
namespace Go.Proofs.Yteaghcgekaoimaa
open Go Go.RowKit

/-- what the next number must not be below -/
def leastOf (l : List Int) (k : Nat) : Int := Cod.lastOf l k + 1
theorem leastOf_zero (l : List Int) : leastOf l 0 = 0 := rfl
theorem leastOf_succ (l : List Int) (k : Nat) : leastOf l (k + 1) = l.getD k 0 + 1 := by simp [leastOf, Cod.lastOf]

end Go.Proofs.Yteaghcgekaoimaa
