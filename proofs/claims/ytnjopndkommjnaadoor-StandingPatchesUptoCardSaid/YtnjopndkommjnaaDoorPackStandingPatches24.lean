/- The statement StandingPatches, proved for every input that its row reads: part 24 of 54. -/
import Derived.Test.YtnjopndkommjnaaDoorPackStandingPatches9
import Derived.Lib.ItoaNum
/- standing, plain: changes as lines. -/
namespace Go.Proofs.YtnjopndkommjnaaDoor
open Go
set_option linter.unusedVariables false

def markB (k : Int) : ByteArray := if k = 1 then ⟨#[43]⟩ else if k = 2 then ⟨#[45]⟩ else if k = 3 then ⟨#[126]⟩ else ⟨#[]⟩
def numB (n : Int) : ByteArray := ⟨(Lib.itoa n).toArray⟩
def lineB (c : Chg) : ByteArray := markB c.kind ++ c.hit.id ++ ⟨#[32]⟩ ++ numB c.hit.score ++ ⟨#[10]⟩
def lineL (c : Chg) : List UInt8 := if markB c.kind = ⟨#[]⟩ then [] else (lineB c).data.toList
def textL (l : List Chg) : List UInt8 := l.flatMap lineL
theorem textL_snoc (l : List Chg) (c : Chg) : textL (l ++ [c]) = textL l ++ lineL c := by simp [textL]
theorem ba_size (a b : ByteArray) : (a ++ b).size = a.size + b.size := ByteArray.size_append
theorem lineB_size (c : Chg) : (lineB c).size = (markB c.kind).size + c.hit.id.size + 1 + (numB c.hit.score).size + 1 := by
  unfold lineB
  rw [ba_size, ba_size, ba_size, ba_size]
  rfl
theorem textL_upto (l : List Chg) (j : Nat) (h : j < l.length) (hm : markB l[j].kind ≠ ⟨#[]⟩) : (textL (l.take j)).length + (lineB l[j]).size ≤ (textL l).length := by
  have e1 : l = l.take j ++ l[j] :: l.drop (j + 1) := by rw [← List.drop_eq_getElem_cons h, List.take_append_drop]
  have e2 : textL l = textL (l.take j) ++ (lineL l[j] ++ textL (l.drop (j + 1))) := by
    rw [show textL l = textL (l.take j ++ l[j] :: l.drop (j + 1)) from congrArg textL e1]
    unfold textL
    rw [List.flatMap_append, List.flatMap_cons]
  have e3 : (lineL l[j]).length = (lineB l[j]).size := by
    unfold lineL; rw [if_neg hm, Array.length_toList]; rfl
  rw [e2, List.length_append, List.length_append, e3]
  omega
theorem mark_other {k : Int} (h1 : k ≠ 1) (h2 : k ≠ 2) (h3 : k ≠ 3) : markB k = ⟨#[]⟩ := by unfold markB; rw [if_neg h1, if_neg h2, if_neg h3]
theorem mark_some {k : Int} (h : k = 1 ∨ k = 2 ∨ k = 3) : markB k ≠ ⟨#[]⟩ ∧ (markB k).size = 1 := by
  rcases h with rfl | rfl | rfl <;> exact ⟨by decide, rfl⟩
end Go.Proofs.YtnjopndkommjnaaDoor
