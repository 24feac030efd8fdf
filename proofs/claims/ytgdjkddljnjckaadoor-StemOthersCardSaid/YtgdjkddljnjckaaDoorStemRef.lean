/- Contracts of the document's own answers of layer 16: ends, less, one, plain. -/
import Derived.Test.YtgdjkddljnjckaaDoorProg
import Derived.Test.YtgdjkddljnjckaaDoorMem
import Derived.Test.YtgdjkddljnjckaaDoorStemPlain
import Derived.Lib.Walk
namespace Go.Proofs.YtgdjkddljnjckaaDoor
open Go Go.RowKit
set_option linter.unusedVariables false

theorem size_toList (s : ByteArray) : s.data.toList.length = s.size := Array.length_toList
theorem toList_ext {s t : ByteArray} (h : s.data.toList = t.data.toList) : s = t := ByteArray.ext (Array.toList_inj.1 h)
theorem gd (s : ByteArray) (i : Nat) (h : i < s.size) : s.data.toList.getD i 0 = s.get i h := by
  rw [List.getD, List.getElem?_eq_getElem (by rw [size_toList]; exact h)]; rfl

set_option maxHeartbeats 1000000 in
theorem ends_is (s e : ByteArray) (w : World) (hs : s.size ≤ 140737488351232) : Calls Tryd.prog 22 #[.string s, .string e] w fun x w' => x = .returned (.bool (Stm.ends s.data.toList e.data.toList)) ∧ w = w' := by
  have key : Hid ((decide (e.size ≤ s.size) && ((s.extract (s.size - e.size) s.size).toList == e.toList)) = Stm.ends s.data.toList e.data.toList) := Lib.hasSuffix_raw s e
  by_cases h : e.size ≤ s.size
  · have h' : (s.size : Int) ≥ e.size := by omega
    rw [decide_eq_true h, Bool.true_and] at key
    go_enter Tryd.func22, Tryd.ntmps22
    go_wp2
    go_ret
    exact ⟨ret_bool (by rw [← key.out]), rfl⟩
  · have h' : ¬ (s.size : Int) ≥ e.size := by omega
    rw [decide_eq_false h, Bool.false_and] at key
    go_enter Tryd.func22, Tryd.ntmps22
    go_wp2
    go_ret
    exact ⟨ret_bool (by rw [← key.out]), rfl⟩

def Txt (w : World) (l : List UInt8) (e : Ending) (w' : World) : Prop := ∃ t : ByteArray, e = .returned (.string t) ∧ t.data.toList = l ∧ Below w.heap.size w w'
set_option maxHeartbeats 1000000 in
theorem less_is (s : ByteArray) (n : Nat) (w : World) (hn : n ≤ s.size) (hs : s.size ≤ 140737488351232) : Calls Tryd.prog 23 #[.string s, .int .i64 n] w fun e w' => ∃ t : ByteArray, e = .returned (.string t) ∧ t.data.toList = Stm.less s.data.toList n ∧ w = w' := by
  have hw : wrap64 ((s.size : Int) - n) = ((s.size - n : Nat) : Int) := by rw [IntWalk.wrap64_in _ ⟨by omega, by omega⟩]; omega
  go_enter Tryd.func23, Tryd.ntmps23
  go_wp2
  go_ret
  exact ⟨_, rfl, by rw [Lib.extract_data]; simp [Stm.less, size_toList], rfl⟩

theorem tk (e : ByteArray) (p : Nat) (h : p < e.size) : e.data.toList.take (p + 1) = e.data.toList.take p ++ [e[p]] := by
  rw [List.take_add_one, List.getElem?_eq_getElem (by rw [size_toList]; exact h)]; rfl
set_option maxHeartbeats 1000000 in
theorem one_is (c : UInt8) (e : ByteArray) (w : World) (hs : e.size ≤ 140737488351232) : Calls Tryd.prog 25 #[.int .u8 (c.toNat : Int), .string e] w fun x w' => x = .returned (.bool (e.data.toList.contains c)) ∧ w = w' := by
  obtain ⟨b, hb⟩ : ∃ b, b = e.data.toList.contains c := ⟨_, rfl⟩
  rw [← hb]
  have HB := Lib.hid hb
  clear hb
  go_enter Tryd.func25, Tryd.ntmps25
  go_wp2
  go_loop [8] (fun i => ∃ p : Nat, p ≤ e.size ∧ i = .int .i64 p ∧ (e.data.toList.take p).contains c = false) (fun i => e.size - (intOf i).toNat)
  case atStart => exact ⟨0, Nat.zero_le _, rfl, rfl⟩
  case round =>
    obtain ⟨p, hp, rfl, hc⟩ := hrel
    have HC := Lib.hid hc
    clear hc
    by_cases hps : p < e.size
    · have hp' : (p : Int) < e.size := by omega
      have HT := Lib.hid (tk e p hps)
      by_cases hx : e[p] = c
      · have hx' : ((e[p].toNat : Int) == (c.toNat : Int)) = true := by rw [hx]; exact beq_self_eq_true _
        have HX := Lib.hid hx
        clear hx
        go_wp2
        go_ret
        refine ⟨ret_bool ?_, rfl⟩
        rw [HB.out]
        symm
        rw [List.contains_iff_mem]
        have : c ∈ e.data.toList.take (p + 1) := by rw [HT.out, HX.out]; simp
        exact List.mem_of_mem_take this
      · have hx' : ((e[p].toNat : Int) == (c.toNat : Int)) = false := by
          rw [beq_eq_false_iff_ne]; intro h; exact hx (UInt8.toNat_inj.1 (by omega))
        have HX := Lib.hid hx
        clear hx
        go_wp2
        go_round
        case rel =>
          refine ⟨p + 1, by omega, by go_num, ?_⟩
          rw [HT.out, ← Bool.not_eq_true, List.contains_iff_mem, List.mem_append, List.mem_singleton]
          rintro (h | h)
          · have := HC.out
            rw [← Bool.not_eq_true, List.contains_iff_mem] at this
            exact this h
          · exact HX.out h.symm
        case measure => simp [intOf]; omega
    · have hp' : ¬ (p : Int) < e.size := by omega
      go_wp2
      go_ret
      refine ⟨ret_bool ?_, rfl⟩
      rw [HB.out]
      have := HC.out
      rw [List.take_of_length_le (by rw [size_toList]; omega)] at this
      rw [this]

theorem letter_no (c : UInt8) (h : c.toNat < 97 ∨ 122 < c.toNat) : Stm.letter c = false := by unfold Stm.letter; rcases h with h | h <;> simp <;> omega
theorem letter_yes (c : UInt8) (h : 97 ≤ c.toNat) (h2 : c.toNat ≤ 122) : Stm.letter c = true := by unfold Stm.letter; simp; omega
theorem plain_no (e : ByteArray) (p : Nat) (h : p < e.size) (hc : e[p].toNat < 97 ∨ 122 < e[p].toNat) : Stm.plain e.data.toList = false := by
  unfold Stm.plain
  rw [show e.data.toList.all Stm.letter = false from by
    rw [← Bool.not_eq_true, List.all_eq_true]
    intro hh
    have hm : e[p] ∈ e.data.toList.take (p + 1) := by rw [tk e p h]; simp
    have := hh _ (List.mem_of_mem_take hm)
    rw [letter_no _ hc] at this
    cases this]
  rfl
theorem plain_end (e : ByteArray) (h : e.data.toList.all Stm.letter = true) : Stm.plain e.data.toList = decide (4 ≤ e.size) := by
  unfold Stm.plain; rw [h, Bool.true_and, size_toList]
theorem all_take (e : ByteArray) (p : Nat) (h : p < e.size) (h1 : (e.data.toList.take p).all Stm.letter = true) (h2 : 97 ≤ e[p].toNat) (h3 : e[p].toNat ≤ 122) : (e.data.toList.take (p + 1)).all Stm.letter = true := by
  rw [tk e p h, List.all_append, h1, Bool.true_and, List.all_cons, letter_yes _ h2 h3]; rfl

set_option maxHeartbeats 1000000 in
theorem plain_is (e : ByteArray) (w : World) (hs : e.size ≤ 140737488351232) : Calls Tryd.prog 14 #[.string e] w fun x w' => x = .returned (.bool (Stm.plain e.data.toList)) ∧ w = w' := by
  obtain ⟨b, hb⟩ : ∃ b, b = Stm.plain e.data.toList := ⟨_, rfl⟩
  rw [← hb]
  have HB := Lib.hid hb
  clear hb
  go_enter Tryd.func14, Tryd.ntmps14
  go_wp2
  go_loop [6] (fun i => ∃ p : Nat, p ≤ e.size ∧ i = .int .i64 p ∧ (e.data.toList.take p).all Stm.letter = true) (fun i => e.size - (intOf i).toNat)
  case atStart => exact ⟨0, Nat.zero_le _, rfl, rfl⟩
  case round =>
    obtain ⟨p, hp, rfl, hc⟩ := hrel
    have HC := Lib.hid hc
    clear hc
    by_cases hps : p < e.size
    · have hp' : (p : Int) < e.size := by omega
      have HT := Lib.hid (all_take e p hps HC.out)
      have HN := Lib.hid (plain_no e p hps)
      rcases (show e[p].toNat < 97 ∨ (97 ≤ e[p].toNat ∧ 122 < e[p].toNat) ∨ (97 ≤ e[p].toNat ∧ e[p].toNat ≤ 122) by omega) with hx | ⟨hx, hy⟩ | ⟨hx, hy⟩
      · go_wp2
        go_ret
        exact ⟨ret_bool (by rw [HB.out, HN.out (.inl hx)]), rfl⟩
      · go_wp2
        go_ret
        exact ⟨ret_bool (by rw [HB.out, HN.out (.inr hy)]), rfl⟩
      · go_wp2
        go_round
        case rel => exact ⟨p + 1, by omega, by go_num, HT.out hx hy⟩
        case measure => simp [intOf]; omega
    · have hp' : ¬ (p : Int) < e.size := by omega
      have HE := HC.out
      rw [List.take_of_length_le (by rw [size_toList]; omega)] at HE
      have HE := Lib.hid (plain_end e HE)
      go_wp2
      go_ret
      refine ⟨ret_bool ?_, rfl⟩
      rw [HB.out, HE.out]
      first | rfl | (apply decide_eq_decide.2; omega)

set_option maxHeartbeats 1000000 in
theorem hasStem_is (e : ByteArray) (w : World) (hs : e.size ≤ 140737488351232) : Calls Tryd.prog 11 #[.string e] w fun x w' => x = .returned (.bool (Stm.plain e.data.toList)) ∧ w = w' := by
  obtain ⟨b, hb⟩ : ∃ b, b = Stm.plain e.data.toList := ⟨_, rfl⟩
  rw [← hb]
  have HB := Lib.hid hb
  clear hb
  go_enter Tryd.func11, Tryd.ntmps11
  go_wp2
  go_loop [6] (fun i => ∃ p : Nat, p ≤ e.size ∧ i = .int .i64 p ∧ (e.data.toList.take p).all Stm.letter = true) (fun i => e.size - (intOf i).toNat)
  case atStart => exact ⟨0, Nat.zero_le _, rfl, rfl⟩
  case round =>
    obtain ⟨p, hp, rfl, hc⟩ := hrel
    have HC := Lib.hid hc
    clear hc
    by_cases hps : p < e.size
    · have hp' : (p : Int) < e.size := by omega
      have HT := Lib.hid (all_take e p hps HC.out)
      have HN := Lib.hid (plain_no e p hps)
      rcases (show e[p].toNat < 97 ∨ (97 ≤ e[p].toNat ∧ 122 < e[p].toNat) ∨ (97 ≤ e[p].toNat ∧ e[p].toNat ≤ 122) by omega) with hx | ⟨hx, hy⟩ | ⟨hx, hy⟩
      · go_wp2
        go_ret
        exact ⟨ret_bool (by rw [HB.out, HN.out (.inl hx)]), rfl⟩
      · go_wp2
        go_ret
        exact ⟨ret_bool (by rw [HB.out, HN.out (.inr hy)]), rfl⟩
      · go_wp2
        go_round
        case rel => exact ⟨p + 1, by omega, by go_num, HT.out hx hy⟩
        case measure => simp [intOf]; omega
    · have hp' : ¬ (p : Int) < e.size := by omega
      have HE := HC.out
      rw [List.take_of_length_le (by rw [size_toList]; omega)] at HE
      have HE := Lib.hid (plain_end e HE)
      go_wp2
      go_ret
      refine ⟨ret_bool ?_, rfl⟩
      rw [HB.out, HE.out]
      first | rfl | (apply decide_eq_decide.2; omega)
end Go.Proofs.YtgdjkddljnjckaaDoor
