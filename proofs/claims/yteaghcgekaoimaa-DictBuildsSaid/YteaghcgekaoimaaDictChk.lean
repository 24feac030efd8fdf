/- Dictionaries: what the document's Check comes to. -/
import Derived.Test.YteaghcgekaoimaaDictW
namespace Go.Proofs.Yteaghcgekaoimaa
open Go Go.RowKit
set_option linter.unusedVariables false

theorem goes_none (a : ByteArray) : goes noW a = false := by simp [goes, leB_none]
set_option maxHeartbeats 4000000 in
theorem check_is (p : Option Addr) (c : Nat) (l : List ByteArray) (w : World) (h : LiesS w p l) :
    Calls Try.prog 9 #[.slice p l.length c] w fun e w' => e = .returned (.int .i64 (verdict l)) ∧ w = w' := by
  have H := Lib.hid h
  clear h
  by_cases hlong : 16384 < l.length
  · have hlong' : (l.length : Int) > 16384 := by omega
    have V := Lib.hid (verdict_long hlong)
    rw [V.out]
    go_enter Try.func9, Try.ntmps9
    go_wp2
    go_ret
    exact ⟨rfl, rfl⟩
  · have hlong' : ¬ (l.length : Int) > 16384 := by omega
    have hl6 : l.length ≤ 16384 := by omega
    obtain ⟨vd, hvd⟩ : ∃ vd, verdict l = vd := ⟨_, rfl⟩
    rw [hvd]
    have VD := Lib.hid hvd
    clear hvd
    go_enter Try.func9, Try.ntmps9
    go_wp2
    go_loopw [10] (fun i wr => ∃ (j : Nat), j ≤ l.length ∧ i = .int .i64 j ∧ (∀ i, i < j → okAt l i = true) ∧ w = wr) (fun i _ => l.length - (intOf i).toNat)
    case atStart => exact ⟨0, Nat.zero_le _, rfl, fun i hi => by omega, rfl⟩
    case round =>
      obtain ⟨j, hj, rfl, hall, rfl⟩ := hrel
      have HA := Lib.hid hall
      clear hall
      by_cases hjl : j < l.length
      · have hjl' : (j : Int) < l.length := by omega
        obtain ⟨b, o, rfl, _, hc⟩ := H.out.at (by omega)
        have hcj := hc j hjl
        have NX : Hid (okAt l j = true → ∀ i, i < j + 1 → okAt l i = true) := fun hk i hi => by
          rcases Nat.lt_or_ge i j with h | h
          · exact HA.out i h
          · obtain rfl : i = j := by omega
            exact hk
        have BAD : Hid (okAt l j = false → vd = 1) := fun hk => by rw [← VD.out]; exact verdict_bad hl6 hjl hk
        have OK : Hid (okAt l j = goes (l.getD j noW) (aheadOf l j)) := rfl
        generalize l.getD j noW = x at hcj OK
        by_cases hx : x.size ≤ 64
        · have hx' : ¬ (x.size : Int) > 64 := by omega
          by_cases he : x = noW
          · subst he
            have hb := BAD.out (by rw [OK.out]; exact goes_none _)
            subst hb
            clear hc BAD NX OK
            go_wp2
            go_ret
            exact ⟨rfl, rfl⟩
          · have he1 : ¬ x.toList = [] := fun h => he (toList_nil.1 h)
            have he2 : x.toList.isEmpty = false := by cases h : x.toList with | nil => exact absurd h he1 | cons => rfl
            by_cases hj0 : j = 0
            · subst hj0
              rw [Nat.add_zero] at hcj
              have hn := NX.out (by
                rw [OK.out]
                show goes x (aheadOf l 0) = true
                simp [goes, aheadOf, leB_to_none, he, hx])
              have HN := Lib.hid hn
              clear hc BAD NX OK hn he
              go_wp2
              go_roundw
              case rel => exact ⟨1, by omega, rfl, HN.out, by simp⟩
              case measure => simp [intOf]; omega
            · obtain ⟨m, rfl⟩ : ∃ m, j = m + 1 := ⟨j - 1, by omega⟩
              have hcm := hc m (by omega)
              rw [aheadOf_succ] at OK
              generalize l.getD m noW = a at hcm OK
              have hpos : (m : Int) + 1 > 0 := by omega
              have hml : (m : Int) < l.length := by omega
              clear hc
              unfold goes leB at OK
              rw [decide_eq_true hx] at OK
              cases h1 : Op.bytesLess x.toList a.toList <;> cases h2 : (x.toList == a.toList)
              all_goals
                rw [h1, h2] at OK
              · have HN := Lib.hid (NX.out OK.out)
                clear NX BAD he
                go_wp2
                go_roundw
                case rel => exact ⟨m + 1 + 1, by omega, by go_num, HN.out, by simp⟩
                case measure => simp [intOf]; omega
              all_goals
                have hb := BAD.out OK.out
                subst hb
                clear NX BAD he
                go_wp2
                go_ret
                exact ⟨rfl, rfl⟩
        · have hx' : (x.size : Int) > 64 := by omega
          have hb := BAD.out (by rw [OK.out]; simp [goes, hx])
          subst hb
          clear hc BAD NX OK
          go_wp2
          go_ret
          exact ⟨rfl, rfl⟩
      · obtain rfl : j = l.length := by omega
        have hjl' : ¬ ((l.length : Nat) : Int) < l.length := by omega
        have hv := verdict_ok hl6 HA.out
        rw [VD.out] at hv
        subst hv
        go_wp2
        go_ret
        exact ⟨rfl, rfl⟩
end Go.Proofs.Yteaghcgekaoimaa
