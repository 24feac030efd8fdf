/- Dictionaries, plain: which words may be one, and its bytes. No number of a program stands here. -/
import Derived.Test.YtnmigbbokmibnaaDoorCoderPlain
import Derived.Test.YtnmigbbokmibnaaDoorOpenS
import Derived.Sort.Walk0
namespace Go.Proofs.YtnmigbbokmibnaaDoor
open Go
set_option linter.unusedVariables false

abbrev noW : ByteArray := ByteArray.empty
/-- is a text another one, or below it? -/
def leB (a b : ByteArray) : Bool := Op.bytesLess a.toList b.toList || a.toList == b.toList
/-- the word ahead of the i-th -/
def aheadOf (l : List ByteArray) (i : Nat) : ByteArray := if i = 0 then noW else l.getD (i - 1) noW
/-- may a word stand behind another one? -/
def goes (w a : ByteArray) : Bool := !leB w a && decide (w.size ≤ 64)
def okAt (l : List ByteArray) (i : Nat) : Bool := goes (l.getD i noW) (aheadOf l i)
def Proper (l : List ByteArray) : Prop := ∀ i, i < l.length → okAt l i = true
def verdict (l : List ByteArray) : Int := if 16384 < l.length then 5 else if (List.range l.length).all (okAt l) then 0 else 1
theorem verdict_long {l : List ByteArray} (h : 16384 < l.length) : verdict l = 5 := if_pos h
theorem verdict_ok {l : List ByteArray} (h : l.length ≤ 16384) (hp : Proper l) : verdict l = 0 := by
  unfold verdict
  rw [if_neg (by omega), if_pos]
  exact List.all_eq_true.2 fun i hi => hp i (by simpa using hi)
theorem verdict_bad {l : List ByteArray} (h : l.length ≤ 16384) {j : Nat} (hj : j < l.length) (hb : okAt l j = false) : verdict l = 1 := by
  unfold verdict
  rw [if_neg (by omega), if_neg]
  intro hp
  have := List.all_eq_true.1 hp j (by simpa using hj)
  rw [hb] at this; cases this
theorem verdict_cases (l : List ByteArray) : (verdict l = 5 ∧ 16384 < l.length) ∨ (verdict l = 0 ∧ l.length ≤ 16384 ∧ Proper l) ∨ (verdict l = 1 ∧ l.length ≤ 16384 ∧ ¬ Proper l) := by
  by_cases h : 16384 < l.length
  · exact .inl ⟨verdict_long h, h⟩
  · by_cases hp : Proper l
    · exact .inr (.inl ⟨verdict_ok (by omega) hp, by omega, hp⟩)
    · refine .inr (.inr ⟨?_, by omega, hp⟩)
      unfold verdict
      rw [if_neg h, if_neg]
      intro h2
      exact hp fun i hi => List.all_eq_true.1 h2 i (by simpa using hi)
theorem toList_nil {w : ByteArray} : w.toList = [] ↔ w = noW := by
  rw [Lib.toList_data]
  constructor
  · intro h; exact ByteArray.ext (Array.toList_inj.1 (by rw [h]; rfl))
  · rintro rfl; rfl
/-- the empty text is below all -/
theorem leB_none (a : ByteArray) : leB noW a = true := by
  have e : noW.toList = [] := toList_nil.2 rfl
  unfold leB
  rw [e]
  cases a.toList with
  | nil => rfl
  | cons x y => rfl
theorem leB_to_none (w : ByteArray) : leB w noW = decide (w = noW) := by
  have e : noW.toList = [] := toList_nil.2 rfl
  unfold leB
  rw [e]
  cases h : w.toList with
  | nil =>
    rw [decide_eq_true (toList_nil.1 h)]
    simp [Op.bytesLess]
  | cons x y =>
    have : w ≠ noW := fun hw => by rw [toList_nil.2 hw] at h; cases h
    rw [decide_eq_false this]
    simp [Op.bytesLess]

/-- with how many bytes two texts begin alike -/
def alikeL : List UInt8 → List UInt8 → Nat
  | a :: x, b :: y => if a = b then alikeL x y + 1 else 0
  | _, _ => 0
def alikeB (a b : ByteArray) : Nat := alikeL a.data.toList b.data.toList
theorem alikeL_le : ∀ (x y : List UInt8), alikeL x y ≤ x.length ∧ alikeL x y ≤ y.length
  | [], _ => by simp [alikeL]
  | _ :: _, [] => by simp [alikeL]
  | a :: x, b :: y => by
    have := alikeL_le x y
    unfold alikeL
    split <;> simp <;> omega
theorem alikeB_le (a b : ByteArray) : alikeB a b ≤ a.size ∧ alikeB a b ≤ b.size := by
  have h := alikeL_le a.data.toList b.data.toList
  rw [Array.length_toList, Array.length_toList] at h
  exact h
theorem alike_more {x y : List UInt8} {n : Nat} (h1 : n < x.length) (h2 : n < y.length) (h : x.getD n 0 = y.getD n 0) : alikeL (x.drop n) (y.drop n) = alikeL (x.drop (n + 1)) (y.drop (n + 1)) + 1 := by
  rw [List.drop_eq_getElem_cons h1, List.drop_eq_getElem_cons h2]
  have : x[n] = y[n] := by simpa [List.getD, List.getElem?_eq_getElem h1, List.getElem?_eq_getElem h2] using h
  simp [alikeL, this]
theorem alike_stop {x y : List UInt8} {n : Nat} (h : x.length ≤ n ∨ y.length ≤ n ∨ (n < x.length ∧ n < y.length ∧ x.getD n 0 ≠ y.getD n 0)) : alikeL (x.drop n) (y.drop n) = 0 := by
  rcases h with h | h | ⟨h1, h2, h⟩
  · rw [List.drop_eq_nil_of_le h]; simp [alikeL]
  · rw [List.drop_eq_nil_of_le h]; cases x.drop n <;> simp [alikeL]
  · rw [List.drop_eq_getElem_cons h1, List.drop_eq_getElem_cons h2]
    have : ¬ x[n] = y[n] := by simpa [List.getD, List.getElem?_eq_getElem h1, List.getElem?_eq_getElem h2] using h
    simp [alikeL, this]

/-- a word's bytes: with how many the one ahead begins alike, and the others -/
def restOf (a w : ByteArray) : ByteArray := w.extract (alikeB a w) w.size
def chunkOf (a w : ByteArray) : List UInt8 := Cod.enc (alikeB a w) ++ Cod.enc (restOf a w).size ++ (restOf a w).data.toList
def dictUpto (l : List ByteArray) : Nat → List UInt8
  | 0 => Cod.enc l.length
  | k + 1 => dictUpto l k ++ chunkOf (aheadOf l k) (l.getD k noW)
theorem restOf_size (a w : ByteArray) : (restOf a w).size ≤ w.size := by
  unfold restOf
  rw [ByteArray.size_extract]; omega
theorem encD_len (x : Nat) : (Cod.enc x).length ≤ 9 := by rw [Cod.enc_length]; have := Cod.bh_le x; omega
theorem chunk_len (a w : ByteArray) : (chunkOf a w).length ≤ 18 + w.size := by
  have h1 := encD_len (alikeB a w); have h2 := encD_len (restOf a w).size; have h3 := restOf_size a w
  have h4 : (restOf a w).data.toList.length = (restOf a w).size := Array.length_toList
  simp only [chunkOf, List.length_append]; omega
theorem upto_len (l : List ByteArray) (hp : Proper l) : ∀ k, k ≤ l.length → (dictUpto l k).length ≤ 9 + 82 * k
  | 0, _ => by have := encD_len l.length; simp only [dictUpto]; omega
  | k + 1, h => by
    have h1 := upto_len l hp k (by omega)
    have h2 := chunk_len (aheadOf l k) (l.getD k noW)
    have h3 := hp k (by omega)
    simp only [okAt, goes, Bool.and_eq_true, decide_eq_true_eq] at h3
    simp only [dictUpto, List.length_append]; omega
theorem aheadOf_succ (l : List ByteArray) (k : Nat) : aheadOf l (k + 1) = l.getD k noW := by simp [aheadOf]
end Go.Proofs.YtnmigbbokmibnaaDoor
