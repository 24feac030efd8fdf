/- The document's Sort and Keys: numbers by their order; what the order goes by. -/
import Derived.Test.YtiadljcfcncbkaaHpNew
import Derived.Test.YtiadljcfcncbkaaMemIntsOwn
namespace Go.Proofs.Ytiadljcfcncbkaa
open Go Go.RowKit
set_option linter.unusedVariables false

/-- those of a key -/
def ofKey (l : List Int) (j : Nat) : List Int := l.filter fun x => decide (key10 x = (j : Int))
/-- those below a key, in order -/
def sortTo (l : List Int) : Nat → List Int
  | 0 => []
  | k + 1 => sortTo l k ++ ofKey l k
def sortK (l : List Int) : List Int := sortTo l 10
theorem ofKey_len (l : List Int) (j : Nat) : (ofKey l j).length ≤ l.length := List.length_filter_le _ _
theorem sortTo_len (l : List Int) : ∀ k, (sortTo l k).length ≤ k * l.length
  | 0 => by simp [sortTo]
  | k + 1 => by
    have h := sortTo_len l k
    have h2 := ofKey_len l k
    rw [sortTo, List.length_append, Nat.add_mul]
    omega
theorem ofKey_take_yes (l : List Int) (j i : Nat) (hi : i < l.length) (h : key10 (l.getD i 0) = (j : Int)) : ofKey (l.take (i + 1)) j = ofKey (l.take i) j ++ [l.getD i 0] := by
  have e : l.take (i + 1) = l.take i ++ [l.getD i 0] := by rw [List.take_add_one, List.getElem?_eq_getElem hi]; simp [List.getD, List.getElem?_eq_getElem hi]
  rw [e]; unfold ofKey
  rw [List.filter_append, List.filter_cons, if_pos (by simpa using h)]; rfl
theorem ofKey_take_no (l : List Int) (j i : Nat) (hi : i < l.length) (h : key10 (l.getD i 0) ≠ (j : Int)) : ofKey (l.take (i + 1)) j = ofKey (l.take i) j := by
  have e : l.take (i + 1) = l.take i ++ [l.getD i 0] := by rw [List.take_add_one, List.getElem?_eq_getElem hi]; simp [List.getD, List.getElem?_eq_getElem hi]
  rw [e]; unfold ofKey
  rw [List.filter_append, List.filter_cons, if_neg (by simpa using h)]; simp
set_option maxHeartbeats 4000000 in
set_option maxRecDepth 100000 in
theorem refSort_is (p : Option Addr) (c : Nat) (l : List Int) (w : World) (hl : LiesI w p l) (hn : l.length ≤ 10000) :
    Calls Try.prog 30 #[.slice p l.length c] w (RetInts w 3 (sortK l)) := by
  have L := Lib.hid hl
  clear hl
  go_enter Try.func30, Try.ntmps30
  go_wp2
  go_loopw [3, 7] (fun v i wr => ∃ k : Nat, k ≤ 10 ∧ i = .int .i64 k ∧ wr.ownsRow w.heap.size 3 1 v (sortTo l k).length (ints (sortTo l k)) ∧ Below w.heap.size w wr) (fun _ i _ => 10 - (intOf i).toNat)
  case atStart => exact ⟨0, Nat.zero_le _, rfl, ⟨rfl, .inl ⟨rfl, rfl⟩⟩, Below.refl _ _⟩
  case round =>
    obtain ⟨k, hk, rfl, hown, hb⟩ := hrel
    have O := Lib.hid hown; have BB := Lib.hid hb
    clear hown hb
    by_cases hlt : k < 10
    · have hlt' : (k : Int) < 10 := by omega
      have hnk : (sortTo l k).length ≤ 100000 := Nat.le_trans (sortTo_len l k) (Nat.le_trans (Nat.mul_le_mul (show k ≤ 10 by omega) hn) (by omega))
      have W0 := wr
      go_wp2
      go_loopw [3, 12] (fun v i wi => ∃ j : Nat, j ≤ l.length ∧ i = .int .i64 j ∧ wi.ownsRow w.heap.size 3 1 v (sortTo l k ++ ofKey (l.take j) k).length (ints (sortTo l k ++ ofKey (l.take j) k)) ∧ Below w.heap.size w wi) (fun _ i _ => l.length - (intOf i).toNat)
      case atStart => exact ⟨0, Nat.zero_le _, rfl, by simp only [List.take_zero, ofKey, List.filter_nil, List.append_nil]; exact O.out, BB.out⟩
      case round =>
        clear O BB
        obtain ⟨j, hj, rfl, hown, hb⟩ := hrel
        have hz := hb.size
        have O := Lib.hid hown; have BB := Lib.hid hb
        clear hown hb
        have hnj := ofKey_len (l.take j) k
        rw [List.length_take] at hnj
        by_cases hjl : j < l.length
        · obtain ⟨b1, o1, rfl, _, q1⟩ := (L.out.below BB.out).at (by omega)
          have r1 := q1 j hjl
          have hjl' : (j : Int) < l.length := by omega
          have TY := Lib.hid (ofKey_take_yes l k j hjl); have TN := Lib.hid (ofKey_take_no l k j hjl)
          clear q1
          generalize l.getD j 0 = x at r1 TY TN
          have KX := Lib.hid (refKey_is x)
          generalize key10 x = y at KX TY TN
          go_wp2_with fail
          refine (KX.out wr).mono ?_
          rintro e wr ⟨rfl, rfl⟩
          by_cases hyk : y = (k : Int)
          · subst hyk
            go_wp2_with (at_builtin; refine wpList_int isI64 _ rfl _ _ rfl w.heap.size (sortTo l k ++ ofKey (l.take j) k).length (sortTo l k ++ ofKey (l.take j) k) _ rfl O.out _ rfl (by rw [List.length_append]; omega) hz ?_)
            intro v4 w4 hown4 hb4
            have O4 := Lib.hid hown4
            have B4 := Lib.hid (BB.out.trans hb4)
            clear hown4 hb4 r1 KX TN O BB
            go_wp2
            go_roundw
            case rel => exact ⟨j + 1, by omega, by go_num, by rw [TY.out trivial]; simpa only [List.append_assoc, List.length_append, List.length_singleton, Nat.add_assoc] using O4.out, B4.out⟩
            case measure => simp [intOf]; omega
          · go_wp2
            go_roundw
            case rel => exact ⟨j + 1, by omega, by go_num, by rw [TN.out hyk]; exact O.out, BB.out⟩
            case measure => simp [intOf]; omega
        · obtain rfl : j = l.length := by omega
          have hjl' : ¬ ((l.length : Nat) : Int) < l.length := by omega
          rw [List.take_length] at O
          go_wp2
          go_roundw
          case rel => exact ⟨k + 1, by omega, by go_num, by rw [show sortTo l (k + 1) = sortTo l k ++ ofKey l k from rfl]; exact O.out, BB.out⟩
          case measure => simp [intOf]; omega
    · obtain rfl : k = 10 := by omega
      go_wp2
      go_ret
      exact RetInts.of_own O.out rfl BB.out
def keysOf (l : List Int) : List Int := l.map key10
set_option maxHeartbeats 4000000 in
set_option maxRecDepth 100000 in
theorem refKeys_is (p : Option Addr) (c : Nat) (l : List Int) (w : World) (hl : LiesI w p l) (hn : l.length ≤ 10000) :
    Calls Try.prog 33 #[.slice p l.length c] w (RetInts w 3 (keysOf l)) := by
  have L := Lib.hid hl
  clear hl
  go_enter Try.func33, Try.ntmps33
  go_wp2
  go_loopw [3, 8] (fun v i wi => ∃ j : Nat, j ≤ l.length ∧ i = .int .i64 j ∧ wi.ownsRow w.heap.size 3 1 v (keysOf (l.take j)).length (ints (keysOf (l.take j))) ∧ Below w.heap.size w wi) (fun _ i _ => l.length - (intOf i).toNat)
  case atStart => exact ⟨0, Nat.zero_le _, rfl, ⟨rfl, .inl ⟨rfl, rfl⟩⟩, Below.refl _ _⟩
  case round =>
    obtain ⟨j, hj, rfl, hown, hb⟩ := hrel
    have hz := hb.size
    have O := Lib.hid hown; have BB := Lib.hid hb
    clear hown hb
    by_cases hjl : j < l.length
    · obtain ⟨b1, o1, rfl, _, q1⟩ := (L.out.below BB.out).at (by omega)
      have r1 := q1 j hjl
      have hjl' : (j : Int) < l.length := by omega
      have hkl : (keysOf (l.take j)).length = j := by simp [keysOf]; omega
      have TK := Lib.hid (show keysOf (l.take (j + 1)) = keysOf (l.take j) ++ [key10 (l.getD j 0)] by
        have e : l.take (j + 1) = l.take j ++ [l.getD j 0] := by rw [List.take_add_one, List.getElem?_eq_getElem hjl]; simp [List.getD, List.getElem?_eq_getElem hjl]
        rw [e]; simp [keysOf])
      clear q1
      generalize l.getD j 0 = x at r1 TK
      have KX := Lib.hid (refKey_is x)
      generalize key10 x = y at KX TK
      go_wp2_with fail
      refine (KX.out wr).mono ?_
      rintro e wr ⟨rfl, rfl⟩
      go_wp2_with (at_builtin; refine wpList_int isI64 _ rfl _ _ rfl w.heap.size (keysOf (l.take j)).length (keysOf (l.take j)) _ rfl O.out _ rfl (by omega) hz ?_)
      intro v4 w4 hown4 hb4
      have O4 := Lib.hid hown4
      have B4 := Lib.hid (BB.out.trans hb4)
      clear hown4 hb4 r1 KX O BB
      go_wp2
      go_roundw
      case rel => exact ⟨j + 1, by omega, by go_num, by rw [TK.out, List.length_append, hkl]; exact O4.out, B4.out⟩
      case measure => simp [intOf]; omega
    · obtain rfl : j = l.length := by omega
      have hjl' : ¬ ((l.length : Nat) : Int) < l.length := by omega
      rw [List.take_length] at O
      go_wp2
      go_ret
      exact RetInts.of_own O.out rfl BB.out
end Go.Proofs.Ytiadljcfcncbkaa
