/- The statement DocsReads, proved for every input that its row reads: part 18 of 54. -/
import Derived.Test.YtijmijokgenflaaGreatDoorPackDocsReads17
import Derived.Lib.Hide
import Derived.Lib.Strings
/- The contract of utf's Valid (UtfValid without layer 3's example). -/
namespace Go.Proofs.YtijmijokgenflaaGreatDoor
open Go Go.RowKit

/-- may a byte stand in a name? -/
def inN (c : Nat) : Bool := decide ((97 ≤ c ∧ c ≤ 122) ∨ (48 ≤ c ∧ c ≤ 57) ∨ c = 45)
theorem inName_is (c : Nat) (w : World) : Calls Tryz.prog 98 #[.int .u8 (c : Int)] w fun e w' => e = .returned (.bool (inN c)) ∧ w = w' := by
  obtain ⟨b, hb⟩ : ∃ b, b = inN c := ⟨_, rfl⟩
  rw [← hb]
  have key : ((c : Int) < 45 ∧ b = false) ∨ ((c : Int) = 45 ∧ b = true) ∨ ((45 < (c : Int) ∧ (c : Int) < 48) ∧ b = false) ∨ ((48 ≤ (c : Int) ∧ (c : Int) ≤ 57) ∧ b = true) ∨ ((57 < (c : Int) ∧ (c : Int) < 97) ∧ b = false) ∨ ((97 ≤ (c : Int) ∧ (c : Int) ≤ 122) ∧ b = true) ∨ (122 < (c : Int) ∧ b = false) := by
    rw [hb]; unfold inN
    simp only [decide_eq_true_eq, decide_eq_false_iff_not]
    omega
  clear hb
  rcases key with ⟨h1, rfl⟩ | ⟨h1, rfl⟩ | ⟨⟨h1, h2⟩, rfl⟩ | ⟨⟨h1, h2⟩, rfl⟩ | ⟨⟨h1, h2⟩, rfl⟩ | ⟨⟨h1, h2⟩, rfl⟩ | ⟨h1, rfl⟩
  all_goals
    go_enter Tryz.func98, Tryz.ntmps98
    go_wp2
    go_ret
    exact ⟨ret_bool (by first | rfl | (simp; omega)), rfl⟩

/-- may it be a document's name? -/
def nameB (s : ByteArray) : Bool := decide (1 ≤ s.size ∧ s.size ≤ 12 ∧ ∀ i, i < s.size → inN (Utf.gt s i) = true)
theorem name_no {s : ByteArray} {i : Nat} (hi : i < s.size) (h : inN (Utf.gt s i) = false) : nameB s = false := by
  unfold nameB
  simp only [decide_eq_false_iff_not]
  intro h2
  rw [h2.2.2 i hi] at h; cases h
theorem name_len {s : ByteArray} (h : s.size < 1 ∨ 12 < s.size) : nameB s = false := by
  unfold nameB
  simp only [decide_eq_false_iff_not]
  intro h2; omega
theorem name_yes {s : ByteArray} (h1 : 1 ≤ s.size) (h2 : s.size ≤ 12) (h : ∀ i, i < s.size → inN (Utf.gt s i) = true) : nameB s = true := by
  unfold nameB
  simp only [decide_eq_true_eq]
  exact ⟨h1, h2, h⟩
set_option maxHeartbeats 1000000 in
theorem docName_is (s : ByteArray) (w : World) : Calls Tryz.prog 68 #[.string s] w fun e w' => e = .returned (.bool (nameB s)) ∧ w = w' := by
  obtain ⟨b, hb⟩ : ∃ b, b = nameB s := ⟨_, rfl⟩
  rw [← hb]
  have HB := Lib.hid hb
  clear hb
  by_cases h1 : s.size < 1
  · have h1' : (s.size : Int) < 1 := by omega
    go_enter Tryz.func68, Tryz.ntmps68
    go_wp2
    go_ret
    exact ⟨ret_bool (by rw [HB.out, name_len (.inl h1)]), rfl⟩
  · have h1' : ¬ (s.size : Int) < 1 := by omega
    by_cases h2 : 12 < s.size
    · have h2' : (s.size : Int) > 12 := by omega
      go_enter Tryz.func68, Tryz.ntmps68
      go_wp2
      go_ret
      exact ⟨ret_bool (by rw [HB.out, name_len (.inr h2)]), rfl⟩
    · have h2' : ¬ (s.size : Int) > 12 := by omega
      go_enter Tryz.func68, Tryz.ntmps68
      go_wp2
      go_loop [14] (fun i => ∃ k : Nat, k ≤ s.size ∧ i = .int .i64 k ∧ ∀ i, i < k → inN (Utf.gt s i) = true) (fun i => s.size - (intOf i).toNat)
      case atStart => exact ⟨0, Nat.zero_le _, rfl, fun i hi => by omega⟩
      case round =>
        obtain ⟨k, hk, rfl, hall⟩ := hrel
        have HA := Lib.hid hall
        clear hall
        by_cases hks : k < s.size
        · have hks' : (k : Int) < s.size := by omega
          have hg := Utf.gt_at s k hks
          have IN := Lib.hid (inName_is (Utf.gt s k))
          have HI : Hid (∀ i, i < k + 1 → inN (Utf.gt s k) = true → inN (Utf.gt s i) = true) := Lib.hid fun i hi h => by
            rcases Nat.lt_or_ge i k with h3 | h3
            · exact HA.out i h3
            · obtain rfl : i = k := by omega
              exact h
          have NO : Hid (inN (Utf.gt s k) = false → nameB s = false) := Lib.hid fun h => name_no hks h
          generalize Utf.gt s k = c at hg IN HI NO
          generalize inN c = r at IN HI NO
          go_wp2_with fail
          refine (IN.out _).mono ?_
          rintro e w' ⟨rfl, rfl⟩
          cases r with
          | true =>
            go_wp2
            go_round
            case rel => exact ⟨k + 1, by omega, by go_num, fun i hi => HI.out i hi (by first | exact rfl | trivial)⟩
            case measure => simp [intOf]; omega
          | false =>
            go_wp2
            go_ret
            exact ⟨ret_bool (by first | exact (HB.out.trans (NO.out (by first | exact rfl | trivial))) | exact (HB.out.trans (NO.out (by first | exact rfl | trivial))).symm), rfl⟩
        · have hks' : ¬ (k : Int) < s.size := by omega
          go_wp2
          go_ret
          exact ⟨ret_bool (by rw [HB.out, name_yes (by omega) (by omega) (fun i hi => HA.out i (by omega))]), rfl⟩

/-- may a text stand in a field? -/
def txtE (f : Int) (s : ByteArray) : Int := if f < 0 ∨ 4 < f ∨ (f = 0 ∧ s.size ≠ 0) then 1 else if 160 < s.size then 5 else if Utf.valid s then 0 else 7
theorem toList_size (s : ByteArray) : s.toList.length = s.size := by rw [Lib.toList_data]; rfl
set_option maxHeartbeats 1000000 in
theorem docText_is (f : Int) (s : ByteArray) (w : World) (hT : Shapes w) : Calls Tryz.prog 70 #[.int .i64 f, .string s] w fun e w' => e = .returned (.int .i64 (txtE f s)) ∧ w = w' := by
  obtain ⟨x, hx⟩ : ∃ x, x = txtE f s := ⟨_, rfl⟩
  rw [← hx]
  have UVH := Lib.hid (fun hs : s.size ≤ 160 => utfValid_is s w (by omega) hT)
  have key : (f < 0 ∧ x = 1) ∨ ((¬ f < 0 ∧ f > 4) ∧ x = 1) ∨ (f = 0 ∧ s.size ≠ 0 ∧ x = 1) ∨ ((¬ f < 0 ∧ ¬ f > 4) ∧ (f ≠ 0 ∨ s.size = 0) ∧ ((160 < s.size ∧ x = 5) ∨ (¬ 160 < s.size ∧ Utf.valid s = true ∧ x = 0) ∨ (¬ 160 < s.size ∧ Utf.valid s = false ∧ x = 7))) := by
    rw [hx]; unfold txtE
    by_cases c1 : f < 0
    · exact .inl ⟨c1, by rw [if_pos (.inl c1)]⟩
    by_cases c2 : f > 4
    · exact .inr (.inl ⟨⟨c1, c2⟩, by rw [if_pos (.inr (.inl (by omega)))]⟩)
    by_cases c3 : f = 0 ∧ s.size ≠ 0
    · exact .inr (.inr (.inl ⟨c3.1, c3.2, by rw [if_pos (.inr (.inr c3))]⟩))
    · refine .inr (.inr (.inr ⟨⟨c1, c2⟩, by omega, ?_⟩))
      rw [if_neg (by omega)]
      by_cases c4 : 160 < s.size
      · exact .inl ⟨c4, by rw [if_pos c4]⟩
      · rw [if_neg c4]
        cases e : Utf.valid s
        · exact .inr (.inr ⟨c4, rfl, rfl⟩)
        · exact .inr (.inl ⟨c4, rfl, rfl⟩)
  clear hx hT
  have TS := toList_size s
  have full : s.size ≠ 0 → s.toList ≠ [] := fun h e => by rw [e] at TS; exact h TS.symm
  have full2 : s.size ≠ 0 → s.toList.isEmpty = false := fun h => by simpa using full h
  have emp : s.size = 0 → s.toList = [] := fun h => List.eq_nil_of_length_eq_zero (by rw [TS, h])
  have FU := Lib.hid full; have FU2 := Lib.hid full2; have EM := Lib.hid emp
  clear full full2 emp TS
  rcases key with ⟨h1, rfl⟩ | ⟨⟨h1, h2⟩, rfl⟩ | ⟨rfl, h1, rfl⟩ | ⟨⟨h1, h2⟩, h3, h4⟩
  · go_enter Tryz.func70, Tryz.ntmps70
    go_wp2
    go_ret
    exact ⟨rfl, rfl⟩
  · go_enter Tryz.func70, Tryz.ntmps70
    go_wp2
    go_ret
    exact ⟨rfl, rfl⟩
  · have f1 := FU.out h1; have f2 := FU2.out h1
    go_enter Tryz.func70, Tryz.ntmps70
    go_wp2
    go_ret
    exact ⟨rfl, rfl⟩
  · have f0 : f ≠ 0 ∨ (f = 0 ∧ s.toList = []) := by
      rcases h3 with h3 | h3
      · exact .inl h3
      · by_cases h0 : f = 0
        · exact .inr ⟨h0, EM.out h3⟩
        · exact .inl h0
    clear h3
    rcases f0 with f0 | ⟨rfl, f0⟩
    all_goals
      rcases h4 with ⟨c1, rfl⟩ | ⟨c1, c2, rfl⟩ | ⟨c1, c2, rfl⟩
      · have c1' : (s.size : Int) > 160 := by omega
        go_enter Tryz.func70, Tryz.ntmps70
        go_wp2
        go_ret
        exact ⟨rfl, rfl⟩
      all_goals
        have c1' : ¬ (s.size : Int) > 160 := by omega
        have UV := Lib.hid (UVH.out (by omega))
        rw [c2] at UV
        go_enter Tryz.func70, Tryz.ntmps70
        go_wp2_with fail
        refine UV.out.mono ?_
        rintro e w' ⟨rfl, rfl⟩
        go_wp2
        go_ret
        exact ⟨rfl, rfl⟩
end Go.Proofs.YtijmijokgenflaaGreatDoor
