/- How two dots stand. -/
import Derived.Test.YtimfcedkmdbnfaaVecIn
import Derived.Test.YtimfcedkmdbnfaaGen
namespace Go.Proofs.Ytimfcedkmdbnfaa
open Go Go.RowKit
set_option linter.unusedVariables false

/-- -1, 0, 1 -/
def cmpI (x y : Int) : Int := if x < y then -1 else if x > y then 1 else 0
/-- the first one that is not nought -/
def orI (x y : Int) : Int := if x = 0 then y else x
/-- how two dots stand -/
def cmpD (r n r' n' : Int) : Int := orI (cmpI r r') (cmpI n n')
def lessD (r n r' n' : Int) : Bool := decide (r < r') || (decide (r = r') && decide (n < n'))
theorem cmpD_lt (r n r' n' : Int) : decide (cmpD r n r' n' < 0) = lessD r n r' n' := by
  unfold cmpD lessD orI cmpI
  by_cases h1 : r < r'
  · simp [h1]
  · by_cases h2 : r' < r
    · have : r ≠ r' := by omega
      simp [h1, h2, this]
    · have : r = r' := by omega
      subst this
      by_cases h3 : n < n'
      · simp [h3]
      · by_cases h4 : n' < n <;> simp [h3, h4]
theorem cmpD_gt (r n r' n' : Int) : decide (cmpD r n r' n' > 0) = lessD r' n' r n := by
  unfold cmpD lessD orI cmpI
  by_cases h1 : r < r'
  · have : ¬ r' < r := by omega
    have h5 : r' ≠ r := by omega
    simp [h1, this, h5]
  · by_cases h2 : r' < r
    · simp [h1, h2]
    · have : r = r' := by omega
      subst this
      by_cases h3 : n < n'
      · have : ¬ n' < n := by omega
        simp [h3, this]
      · by_cases h4 : n' < n <;> simp [h3, h4]
end Go.Proofs.Ytimfcedkmdbnfaa
