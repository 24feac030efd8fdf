/- The walk of DictBuilds. -/
import Derived.Test.YteaghcgekaoimaaDictAwake
import Derived.Test.YteaghcgekaoimaaDictChk
namespace Go.Proofs.Yteaghcgekaoimaa
open Go Go.RowKit
set_option linter.unusedVariables false

theorem int_rangeD {n : Int} (h : (Lit.int .i64 n).wf = true) : -9223372036854775808 ≤ n ∧ n ≤ 9223372036854775807 := (lit_wf n).1 h
theorem beqStr (x : ByteArray) : (x.toList == x.toList) = true := by simp
set_option maxHeartbeats 8000000 in
set_option maxRecDepth 100000 in
theorem dictBuilds_walk (p : Option Addr) (c : Nat) (l : List ByteArray) (i : Int) (W : World) (h : CameS W p c l) (hi : (Lit.int .i64 i).wf = true) :
    Calls Try.prog 3 #[.slice p l.length c, .int .i64 i] W (Yes W) := by
  obtain ⟨i1, i2⟩ := int_rangeD hi
  have LS := Lib.hid h.lies
  have FW := Lib.hid (few_any p c l W h.lies)
  have BU := Lib.hid (build_is p c l W h.lies (fun e => (h.none e).1) h.le)
  clear h hi
  go_enter Try.func3, Try.ntmps3
  go_wp2_with fail
  refine FW.out.mono ?_
  rintro e w' ⟨fw, rfl, rfl⟩
  clear FW
  cases fw with
  | false =>
    go_wp2_with fail
    refine (awake18 W).mono ?_
    rintro e w9 ⟨rfl, hb9⟩
    have B9 := Lib.hid hb9
    clear hb9
    go_wp2
    go_ret
    exact ⟨rfl, B9.out⟩
  | true =>
    go_wp2_with fail
    refine BU.out.mono ?_
    rintro e w1 ⟨hb1, hcase⟩
    have B1 := Lib.hid hb1
    have L1 := Lib.hid (LS.out.below hb1)
    have CK := Lib.hid (check_is p c l w1 L1.out)
    clear BU hb1
    rcases hcase with ⟨hv0, D, rfl, hd⟩ | ⟨hvn, rfl⟩
    · have hnf := not_five hv0
      have HD := Lib.hid hd
      rw [hv0] at CK
      have hl6 := hnf.1
      clear hnf hv0 hd
      go_wp2_with fail
      refine CK.out.mono ?_
      rintro e w' ⟨rfl, rfl⟩
      clear CK
      by_cases hin : 0 ≤ i ∧ i < l.length
      · obtain ⟨n, rfl⟩ := Int.eq_ofNat_of_zero_le hin.1
        have hn : n < l.length := by omega
        have hn' : (n : Int) < l.length := by omega
        have hn0 : (n : Int) ≥ 0 := by omega
        have AT := Lib.hid (dictAt_is D l n w1 HD.out hn)
        obtain ⟨b, o, rfl, _, hc⟩ := L1.out.at (by omega)
        have hcn := hc n hn
        have HC := Lib.hid hcn
        clear hin hc hcn
        generalize hx : l.getD n noW = x at AT HC
        clear hx
        go_wp2_with fail
        refine AT.out.mono ?_
        rintro e w' ⟨rfl, rfl⟩
        clear AT
        have LN := Lib.hid (dictLen_is D l w1 HD.out)
        have WD := Lib.hid (dictWords_is D l w1 HD.out (by omega))
        go_wp2_with fail
        refine LN.out.mono ?_
        rintro e w' ⟨rfl, rfl⟩
        clear LN
        go_wp2_with fail
        refine WD.out.mono ?_
        rintro e w2 ⟨q, cq, rfl, hq, hb2⟩
        have B2 := Lib.hid (thenBelow B1.out hb2)
        have EQ := Lib.hid (equalS_same q _ cq c l w2 hq (L1.out.below hb2) (by omega))
        have C2 := Lib.hid ((hb2.cell (p := ⟨b, o + n, none⟩) (World.block_lt_of_cell? w1 _ HC.out)).trans HC.out)
        clear hq hb2 WD B1
        go_wp2_with fail
        refine EQ.out.mono ?_
        rintro e w3 ⟨rfl, hb3⟩
        have B3 := Lib.hid (thenBelow B2.out hb3)
        have c3 := (hb3.cell (p := ⟨b, o + n, none⟩) (World.block_lt_of_cell? w2 _ C2.out)).trans C2.out
        clear hb3 EQ B2 C2
        go_wp2_with fail
        refine (awake18 w3).mono ?_
        rintro e w9 ⟨rfl, hb9⟩
        have B9 := Lib.hid (thenBelow B3.out hb9)
        clear hb9
        go_wp2
        go_ret
        exact ⟨by simp, B9.out⟩
      · have AT := Lib.hid (dictAt_none D l i w1 HD.out hin)
        have key : i < 0 ∨ (0 ≤ i ∧ ¬ i < (l.length : Int)) := by omega
        clear hin
        go_wp2_with fail
        refine AT.out.mono ?_
        rintro e w' ⟨rfl, rfl⟩
        clear AT
        have LN := Lib.hid (dictLen_is D l w1 HD.out)
        have WD := Lib.hid (dictWords_is D l w1 HD.out (by omega))
        rcases key with k1 | ⟨k1, k2⟩
        all_goals
          go_wp2_with fail
          refine LN.out.mono ?_
          rintro e w' ⟨rfl, rfl⟩
          clear LN
          go_wp2_with fail
          refine WD.out.mono ?_
          rintro e w2 ⟨q, cq, rfl, hq, hb2⟩
          have B2 := Lib.hid (thenBelow B1.out hb2)
          have EQ := Lib.hid (equalS_same q p cq c l w2 hq (L1.out.below hb2) (by omega))
          clear hq hb2 WD B1
          go_wp2_with fail
          refine EQ.out.mono ?_
          rintro e w3 ⟨rfl, hb3⟩
          have B3 := Lib.hid (thenBelow B2.out hb3)
          clear hb3 EQ B2
          go_wp2_with fail
          refine (awake18 w3).mono ?_
          rintro e w9 ⟨rfl, hb9⟩
          have B9 := Lib.hid (thenBelow B3.out hb9)
          clear hb9
          go_wp2
          go_ret
          exact ⟨by simp, B9.out⟩
    · rcases verdict_cases l with ⟨hv, _⟩ | ⟨hv, _⟩ | ⟨hv, _⟩
      · rw [hv] at CK ⊢
        clear hv hvn
        go_wp2_with fail
        refine CK.out.mono ?_
        rintro e w' ⟨rfl, rfl⟩
        clear CK
        go_wp2_with fail
        refine (awake18 w1).mono ?_
        rintro e w9 ⟨rfl, hb9⟩
        have B9 := Lib.hid (thenBelow B1.out hb9)
        clear hb9
        go_wp2
        go_ret
        exact ⟨by simp, B9.out⟩
      · exact absurd hv hvn
      · rw [hv] at CK ⊢
        clear hv hvn
        go_wp2_with fail
        refine CK.out.mono ?_
        rintro e w' ⟨rfl, rfl⟩
        clear CK
        go_wp2_with fail
        refine (awake18 w1).mono ?_
        rintro e w9 ⟨rfl, hb9⟩
        have B9 := Lib.hid (thenBelow B1.out hb9)
        clear hb9
        go_wp2
        go_ret
        exact ⟨by simp, B9.out⟩
end Go.Proofs.Yteaghcgekaoimaa
