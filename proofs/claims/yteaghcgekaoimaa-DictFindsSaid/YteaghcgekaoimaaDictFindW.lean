/- Dictionaries: Seek, the document's Below and Begins, HasPrefix, sort.Search. -/
import Derived.Test.YteaghcgekaoimaaDictFindP
import Derived.Test.YteaghcgekaoimaaDictLaysI
import Derived.Test.YteaghcgekaoimaaDictBytes
import Derived.Shelf.Spec.SearchS
namespace Go.Proofs.Yteaghcgekaoimaa
open Go Go.RowKit
set_option linter.unusedVariables false

theorem startsWalk_no {y p : ByteArray} (h : ¬ p.size ≤ y.size) : starts y p = false := by simp [starts, h]
theorem startsWalk_yes {y p : ByteArray} (h : p.size ≤ y.size) : starts y p = ((y.extract 0 p.size).toList == p.toList) := by simp [starts, h]
theorem liteP_is (y p : ByteArray) (w : World) : Calls Try.prog 39 #[.string y, .string p] w fun e w' => e = .returned (.bool (starts y p)) ∧ w = w' := by
  by_cases h : p.size ≤ y.size
  · have h' : (y.size : Int) ≥ p.size := by omega
    rw [startsWalk_yes h]
    go_enter Try.func39, Try.ntmps39
    go_wp2
    go_ret
    exact ⟨rfl, rfl⟩
  · have h' : ¬ (y.size : Int) ≥ p.size := by omega
    rw [startsWalk_no h]
    go_enter Try.func39, Try.ntmps39
    go_wp2
    go_ret
    exact ⟨rfl, rfl⟩
theorem hasP_is (y p : ByteArray) (w : World) : Calls Try.prog 29 #[.string y, .string p] w fun e w' => e = .returned (.bool (starts y p)) ∧ w = w' := by
  have L := Lib.hid (liteP_is y p w)
  go_enter Try.func29, Try.ntmps29
  go_wp2_with fail
  refine L.out.mono ?_
  rintro e w' ⟨rfl, rfl⟩
  go_wp2
  go_ret
  exact ⟨rfl, rfl⟩
theorem begins_is (y p : ByteArray) (w : World) : Calls Try.prog 17 #[.string y, .string p] w fun e w' => e = .returned (.bool (starts y p)) ∧ w = w' := by
  by_cases h : p.size ≤ y.size
  · have h' : (y.size : Int) ≥ p.size := by omega
    rw [startsWalk_yes h]
    go_enter Try.func17, Try.ntmps17
    go_wp2
    go_ret
    exact ⟨rfl, rfl⟩
  · have h' : ¬ (y.size : Int) ≥ p.size := by omega
    rw [startsWalk_no h]
    go_enter Try.func17, Try.ntmps17
    go_wp2
    go_ret
    exact ⟨rfl, rfl⟩
/-- is a word among these? -/
def among (l : List ByteArray) (j : Nat) (x : ByteArray) : Bool := (List.range j).any fun t => decide (l.getD t noW = x)
theorem among_succ (l : List ByteArray) (j : Nat) (x : ByteArray) : among l (j + 1) x = (among l j x || decide (l.getD j noW = x)) := by
  simp [among, List.range_succ]
set_option maxHeartbeats 2000000 in
theorem refBelow_is (p : Option Addr) (c : Nat) (l : List ByteArray) (x : ByteArray) (A : Nat) (w : World) (h : LiesS w p l) (hA : Cut l x A) (hl : l.length ≤ 1000000) :
    Calls Try.prog 15 #[.slice p l.length c, .string x] w fun e w' => e = .returned (.tuple #[.int .i64 (A : Nat), .bool (among l l.length x)]) ∧ w = w' := by
  have H := Lib.hid h; have HA := Lib.hid hA
  clear h hA
  go_enter Try.func15, Try.ntmps15
  go_wp2
  go_loopw [6, 7, 12] (fun n b i wr => ∃ (j : Nat), j ≤ l.length ∧ n = .int .i64 (min j A : Nat) ∧ b = .bool (among l j x) ∧ i = .int .i64 j ∧ w = wr) (fun _ _ i _ => l.length - (intOf i).toNat)
  case atStart => exact ⟨0, Nat.zero_le _, by simp, rfl, rfl, rfl⟩
  case round =>
    obtain ⟨j, hj, rfl, rfl, rfl, rfl⟩ := hrel
    by_cases hjl : j < l.length
    · have hjl' : (j : Int) < l.length := by omega
      obtain ⟨b, o, rfl, _, hc⟩ := H.out.at (by omega)
      have hcj := hc j hjl
      have UP := Lib.hid (HA.out.upto hjl)
      have AM := Lib.hid (among_succ l j x)
      clear hc
      generalize l.getD j noW = y at hcj UP AM
      unfold ltB at UP
      obtain ⟨m, hm⟩ : ∃ m, min j A = m := ⟨_, rfl⟩
      have hmb : m ≤ 1000000 := by omega
      rw [hm] at UP ⊢
      generalize among l j x = am at AM ⊢
      clear hm
      have hyx : (y.toList == x.toList) = decide (y = x) := by
        by_cases h : y = x
        · subst h; simp
        · rw [decide_eq_false h, beq_eq_false_iff_ne]
          intro h2; apply h
          rw [Lib.toList_data, Lib.toList_data] at h2
          exact ByteArray.ext (Array.toList_inj.1 h2)
      rw [← hyx] at AM
      clear hyx
      cases h1 : Op.bytesLess y.toList x.toList <;> cases h2 : (y.toList == x.toList) <;> cases am
      all_goals
        rw [h1] at UP
        rw [h2] at AM
        go_wp2
        go_roundw
        case rel => exact ⟨j + 1, by omega, by rw [UP.out]; first | go_num | simp, by rw [AM.out]; rfl, by go_num, by simp⟩
        case measure => simp [intOf]; omega
    · obtain rfl : j = l.length := by omega
      have hjl' : ¬ ((l.length : Nat) : Int) < l.length := by omega
      have hm : min l.length A = A := by have := HA.out.le; omega
      rw [hm]
      go_wp2
      go_ret2
      exact ⟨rfl, rfl⟩
end Go.Proofs.Yteaghcgekaoimaa
