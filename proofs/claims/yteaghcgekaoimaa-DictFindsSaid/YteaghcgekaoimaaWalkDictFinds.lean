/- The walk of DictFinds. -/
import Derived.Test.YteaghcgekaoimaaDictAwake
import Derived.Test.YteaghcgekaoimaaDictRange
namespace Go.Proofs.Yteaghcgekaoimaa
open Go Go.RowKit
set_option linter.unusedVariables false

set_option maxHeartbeats 8000000 in
set_option maxRecDepth 100000 in
theorem dictFinds_walk (p : Option Addr) (c : Nat) (l : List ByteArray) (x : ByteArray) (W : World) (h : CameS W p c l) :
    Calls Try.prog 4 #[.slice p l.length c, .string x] W (Yes W) := by
  have LS := Lib.hid h.lies
  have BU := Lib.hid (build_is p c l W h.lies (fun e => (h.none e).1) h.le)
  clear h
  go_enter Try.func4, Try.ntmps4
  go_wp2_with fail
  refine BU.out.mono ?_
  rintro e w1 ⟨hb1, hcase⟩
  have B1 := Lib.hid hb1
  have L1 := Lib.hid (LS.out.below hb1)
  have FW := Lib.hid (few_any p c l w1 L1.out)
  clear BU hb1
  rcases hcase with ⟨hv0, D, rfl, hd⟩ | ⟨hvn, rfl⟩
  · have hnf := not_five hv0
    have HD := Lib.hid hd
    have HP := Lib.hid hnf.2
    have hl6 := hnf.1
    clear hnf hv0 hd
    go_wp2_with fail
    refine FW.out.mono ?_
    rintro e w' ⟨fw, rfl, rfl⟩
    clear FW
    cases fw with
    | false =>
      go_wp2_with fail
      refine (awake18 w1).mono ?_
      rintro e w9 ⟨rfl, hb9⟩
      have B9 := Lib.hid (thenBelow B1.out hb9)
      clear hb9
      go_wp2
      go_ret
      exact ⟨rfl, B9.out⟩
    | true =>
      obtain ⟨A, hA⟩ := cut_of HP.out x
      obtain ⟨M, hM⟩ := starts_of HP.out hA
      have HA := Lib.hid hA; have HM := Lib.hid hM
      have hle := hM.le
      have SK := Lib.hid (dictSeek_is D l x A w1 HD.out hA HP.out (by omega))
      have AM : Hid (among l l.length x = among l l.length x) := rfl
      clear hA hM
      generalize hg : among l l.length x = am at SK
      have HG := Lib.hid hg
      clear AM hg
      go_wp2_with fail
      refine SK.out.mono ?_
      rintro e w2 ⟨rfl, hb2⟩
      have B2 := Lib.hid (thenBelow B1.out hb2)
      have L2 := Lib.hid (L1.out.below hb2)
      have D2 := Lib.hid (HD.out.below hb2)
      have RB := Lib.hid (refBelow_is p c l x A w2 L2.out HA.out (by omega))
      rw [HG.out] at RB
      clear hb2 SK B1 L1 HD
      go_wp2_with fail
      refine RB.out.mono ?_
      rintro e w' ⟨rfl, rfl⟩
      clear RB
      have RG := Lib.hid (range_is D l x A M w2 D2.out HA.out HM.out HP.out (by omega))
      obtain ⟨T, hT⟩ : ∃ T, A + M = T := ⟨_, rfl⟩
      rw [hT] at RG
      have HTT := Lib.hid hT
      clear hT
      go_wp2_with fail
      refine RG.out.mono ?_
      rintro e w3 ⟨rfl, hb3⟩
      have B3 := Lib.hid (thenBelow B2.out hb3)
      have L3 := Lib.hid (L2.out.below hb3)
      clear hb3 RG B2 L2 D2
      go_wp2_with fail
      go_loopw [13, 49] (fun n i wr => ∃ (j : Nat), j ≤ l.length ∧ n = .int .i64 (min (j - A) M : Nat) ∧ i = .int .i64 j ∧ w3 = wr) (fun _ i _ => l.length - (intOf i).toNat)
      case atStart => exact ⟨0, Nat.zero_le _, by simp, rfl, rfl⟩
      case round =>
        obtain ⟨j, hj, rfl, rfl, rfl⟩ := hrel
        by_cases hjl : j < l.length
        · have hjl' : (j : Int) < l.length := by omega
          obtain ⟨b, o, rfl, _, hc⟩ := L3.out.at (by omega)
          have hcj := hc j hjl
          have UP := Lib.hid (HM.out.upto HA.out hjl)
          have BG := Lib.hid (begins_is (l.getD j noW) x w3)
          clear hc
          generalize l.getD j noW = y at hcj UP BG
          generalize starts y x = s at UP BG
          obtain ⟨m, hm⟩ : ∃ m, min (j - A) M = m := ⟨_, rfl⟩
          have hmb : m ≤ 1000000 := by omega
          rw [hm] at UP ⊢
          clear hm
          cases s with
          | true =>
            go_wp2_with fail
            refine BG.out.mono ?_
            rintro e w' ⟨rfl, rfl⟩
            go_wp2
            go_roundw
            case rel => exact ⟨j + 1, by omega, by rw [UP.out]; go_num, by go_num, by simp⟩
            case measure => simp [intOf]; omega
          | false =>
            go_wp2_with fail
            refine BG.out.mono ?_
            rintro e w' ⟨rfl, rfl⟩
            go_wp2
            go_roundw
            case rel => exact ⟨j + 1, by omega, by rw [UP.out]; simp, by go_num, by simp⟩
            case measure => simp [intOf]; omega
        · obtain rfl : j = l.length := by omega
          have hjl' : ¬ ((l.length : Nat) : Int) < l.length := by omega
          have hm : min (l.length - A) M = M := by omega
          have wa : IntKind.i64.wrap (((A : Nat) : Int) + ((M : Nat) : Int)) = ((T : Nat) : Int) := by have := HTT.out; rw [IntWalk.i64_in _ ⟨by omega, by omega⟩]; omega
          rw [hm]
          clear hm hle
          go_wp2_with fail
          refine (awake18 w3).mono ?_
          rintro e w9 ⟨rfl, hb9⟩
          have B9 := Lib.hid (thenBelow B3.out hb9)
          clear hb9
          go_wp2
          go_ret
          exact ⟨by simp, B9.out⟩
  · have hvb : (verdict l != 0) = true := by simp [hvn]
    generalize verdict l = vd at hvb hvn
    go_wp2_with fail
    refine FW.out.mono ?_
    rintro e w' ⟨fw, rfl, rfl⟩
    clear FW
    cases fw with
    | false =>
      go_wp2_with fail
      refine (awake18 w1).mono ?_
      rintro e w9 ⟨rfl, hb9⟩
      have B9 := Lib.hid (thenBelow B1.out hb9)
      clear hb9
      go_wp2
      go_ret
      exact ⟨rfl, B9.out⟩
    | true =>
      go_wp2_with fail
      refine (awake18 w1).mono ?_
      rintro e w9 ⟨rfl, hb9⟩
      have B9 := Lib.hid (thenBelow B1.out hb9)
      clear hb9
      go_wp2
      go_ret
      exact ⟨rfl, B9.out⟩
end Go.Proofs.Yteaghcgekaoimaa
