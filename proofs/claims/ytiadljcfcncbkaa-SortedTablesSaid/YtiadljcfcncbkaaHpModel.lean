/- sorted's Merge, plain: its state, round by round; the example. -/
import Derived.Test.YtiadljcfcncbkaaHpNew
namespace Go.Proofs.Ytiadljcfcncbkaa
open Hp
set_option linter.unusedVariables false

/-- how many of each list are merged; the heap of those that are not at their end; the next turn; what has come -/
structure MS where
  at_ : List Nat
  l : List E
  turn : Nat
  out : List Int
section
variable (lt : Int → Int → Bool) (LL : List (List Int))
def hdOf (at_ : List Nat) (i : Int) : Int := (LL.getD i.toNat []).getD (at_.getD i.toNat 0) 0
/-- the order that the heap goes by -/
def mlt (at_ : List Nat) : E → E → Bool := Hp.steady fun i j => Hp.steady lt (hdOf LL at_ i, i) (hdOf LL at_ j, j)
def MS.push (s : MS) (i : Nat) : MS := { s with l := Hp.rise (mlt lt LL s.at_) (s.l ++ [((i : Int), (s.turn : Int))]), turn := s.turn + 1 }
/-- behind the first k lists -/
def MS.start : Nat → MS
  | 0 => ⟨List.replicate LL.length 0, [], 0, []⟩
  | k + 1 => if 0 < (LL.getD k []).length then (MS.start k).push lt LL k else MS.start k
/-- the list that the next one comes from -/
def MS.who (s : MS) : Nat := (s.l.getD 0 d).1.toNat
/-- one has been popped, and told -/
def MS.told (s : MS) : MS := { s with at_ := s.at_.set s.who (s.at_.getD s.who 0 + 1), l := Hp.left (mlt lt LL s.at_) s.l, out := s.out ++ [hdOf LL s.at_ (s.who : Int)] }
def MS.step (s : MS) : MS := if (s.told lt LL).at_.getD s.who 0 < (LL.getD s.who []).length then (s.told lt LL).push lt LL s.who else s.told lt LL
/-- behind k rounds -/
def MS.run : Nat → MS
  | 0 => MS.start lt LL LL.length
  | k + 1 => (MS.run k).step lt LL
def mergeL : List Int := (MS.run lt LL (LL.map (·.length)).sum).out
end
def lessKey (a b : Int) : Bool := decide (key10 a < key10 b)
theorem awake_model : mergeL lessKey [[1, 4], [2, 4], [0]] = [0, 1, 2, 4, 4] := by decide +kernel
theorem awake_ends : (MS.run lessKey [[1, 4], [2, 4], [0]] 5).l = [] := by decide +kernel
end Go.Proofs.Ytiadljcfcncbkaa
