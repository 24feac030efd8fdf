/- The walk of DictBack. -/
import Derived.Test.YteaghcgekaoimaaDictAwake
import Derived.Test.YteaghcgekaoimaaDictRead
namespace Go.Proofs.Yteaghcgekaoimaa
open Go Go.RowKit
set_option linter.unusedVariables false

theorem Bes1.into {T B : Nat} {a w W : World} (h : Bes1 T B a w) (hW : Below W.heap.size W a) (hB : W.heap.size ≤ B) (hT : W.heap.size ≤ T) : Below W.heap.size W w :=
  ⟨h.os.trans hW.os, h.tape.trans hW.tape, h.output.trans hW.output, Nat.le_trans hW.size h.size, fun k hk => (h.block k (by omega) (by omega)).trans (hW.block k hk)⟩
set_option maxHeartbeats 8000000 in
set_option maxRecDepth 100000 in
theorem dictBack_walk (p : Option Addr) (c : Nat) (l : List ByteArray) (q : Option Addr) (d : Nat) (m : List UInt8) (W : World) (h : CameS W p c l) (hm : Came W q d m) :
    Calls Try.prog 5 #[.slice p l.length c, .slice q m.length d] W (Yes W) := by
  have LS := Lib.hid h.lies
  have LB := Lib.hid hm.lies
  have NB := Lib.hid hm.none
  have hmr := hm.reach
  have hmle := hm.le
  have BU := Lib.hid (build_is p c l W h.lies (fun e => (h.none e).1) h.le)
  clear h hm
  go_enter Try.func5, Try.ntmps5
  go_wp2_with fail
  refine BU.out.mono ?_
  rintro e w1 ⟨hb1, hcase⟩
  have B1 := Lib.hid hb1
  have L1 := Lib.hid (LS.out.below hb1)
  have FW := Lib.hid (few_any p c l w1 L1.out)
  clear BU hb1
  rcases hcase with ⟨hv0, D, rfl, hd⟩ | ⟨hvn, rfl⟩
  · have hnf := not_five hv0
    have HD := Lib.hid hd
    have HP := Lib.hid hnf.2
    have hl6 := hnf.1
    clear hnf hv0 hd
    go_wp2_with fail
    refine FW.out.mono ?_
    rintro e w' ⟨fw, rfl, rfl⟩
    clear FW
    cases fw with
    | false =>
      go_wp2_with fail
      refine (awake18 w1).mono ?_
      rintro e w9 ⟨rfl, hb9⟩
      have B9 := Lib.hid (thenBelow B1.out hb9)
      clear hb9
      go_wp2
      go_ret
      exact ⟨rfl, B9.out⟩
    | true =>
      have BY := Lib.hid (dictBytes_is D l w1 HD.out HP.out hl6)
      have hul := upto_len l HP.out l.length (Nat.le_refl _)
      have hz1 := B1.out.size
      go_wp2_with fail
      refine BY.out.mono ?_
      intro e w2 h2
      obtain ⟨v2, rfl, ho2, hb2⟩ := h2
      have B2 := Lib.hid (thenBelow B1.out hb2)
      have L2 := Lib.hid (LB.out.below B2.out)
      have O2 := Lib.hid ho2
      have hz2 := hb2.size
      have HN0 : Hid (0 < (dictUpto l l.length ++ m).length) := by
        have := upto_tail l l.length 0
        rw [Nat.zero_add] at this
        show 0 < (dictUpto l l.length ++ m).length
        rw [this]
        have h9 := Cod.enc_length l.length
        simp only [dictUpto, List.length_append]; omega
      clear ho2 hb2 BY L1 HD B1
      obtain ⟨U, hU⟩ : ∃ U, dictUpto l l.length = U := ⟨_, rfl⟩
      rw [hU] at O2 HN0 hul
      have HU := Lib.hid hU
      clear hU
      go_wp2_with (at_builtin; refine wpList_bytesW isU8 w2 rfl _ _ rfl w1.heap.size U.length U v2 rfl O2.out q m.length d m rfl L2.out rfl (fun e => ⟨by rw [(NB.out e).1]; rfl, (NB.out e).2⟩) (by omega) hz2 ?_)
      intro v3 w3 ho3 hb3
      have B3 := Lib.hid (B2.out.trans (hb3.mono hz1))
      obtain ⟨_, p3, c3, rfl, g1, g2, g3, g4⟩ := own_lies (l := U ++ m) ho3
      have GV : Hid (Given w3 p3 c3 (U ++ m)) := ⟨g3, g1, g4⟩
      have RD := Lib.hid (read_any p3 c3 (U ++ m) w3 GV.out HN0.out (by rw [List.length_append]; omega))
      clear ho3 hb3 g1 g2 g3 g4 O2 L2 B2
      obtain ⟨NN, hNN⟩ : ∃ NN, (U ++ m).length = NN := ⟨_, rfl⟩
      rw [hNN] at RD ⊢
      clear hNN
      go_wp2_with fail
      refine RD.out.mono ?_
      rintro e w4 ⟨B, rfl, hBz, hr4, hb4⟩
      have hBW : W.heap.size ≤ B := Nat.le_trans B3.out.size hBz
      have B4 := Lib.hid (thenBelow B3.out hb4)
      have R4 := Lib.hid hr4
      rw [← HU.out] at R4
      have DR := Lib.hid (dictRead_is B l m w4 R4.out HP.out hl6 (by omega))
      have hz4 : W.heap.size ≤ w4.heap.size := B4.out.size
      clear hr4 hb4 RD GV HN0 HU B3 R4
      go_wp2_with fail
      refine DR.out.mono ?_
      rintro e w5 ⟨D2, rfl, hd5, hr5, hs5⟩
      have B5 := Lib.hid (hs5.into B4.out hBW hz4)
      have R5 := Lib.hid hr5
      have WD := Lib.hid (dictWords_is D2 l w5 hd5 (by omega))
      clear hd5 hr5 hs5 DR B4
      go_wp2_with fail
      refine WD.out.mono ?_
      rintro e w6 ⟨q6, c6, rfl, hq6, hb6⟩
      have B6 := Lib.hid (thenBelow B5.out hb6)
      have R6 := Lib.hid (R5.out.below hb6)
      have EQ := Lib.hid (equalS_same q6 p c6 c l w6 hq6 (LS.out.below B6.out) (by omega))
      clear hq6 hb6 WD B5 R5
      go_wp2_with fail
      refine EQ.out.mono ?_
      rintro e w7 ⟨rfl, hb7⟩
      have B7 := Lib.hid (thenBelow B6.out hb7)
      have R7 := Lib.hid (R6.out.below hb7)
      have ER := Lib.hid (err_live B m w7 R7.out)
      have LF := Lib.hid (left_live B m w7 R7.out)
      clear hb7 EQ B6 R6
      go_wp2_with fail
      refine ER.out.mono ?_
      rintro e w' ⟨rfl, rfl⟩
      clear ER
      go_wp2_with fail
      refine LF.out.mono ?_
      rintro e w' ⟨rfl, rfl⟩
      clear LF
      go_wp2_with fail
      refine (awake18 w7).mono ?_
      rintro e w9 ⟨rfl, hb9⟩
      have B9 := Lib.hid (thenBelow B7.out hb9)
      clear hb9
      go_wp2
      go_ret
      exact ⟨by simp, B9.out⟩
  · have hvb : (verdict l != 0) = true := by simp [hvn]
    generalize verdict l = vd at hvb hvn
    go_wp2_with fail
    refine FW.out.mono ?_
    rintro e w' ⟨fw, rfl, rfl⟩
    clear FW
    cases fw with
    | false =>
      go_wp2_with fail
      refine (awake18 w1).mono ?_
      rintro e w9 ⟨rfl, hb9⟩
      have B9 := Lib.hid (thenBelow B1.out hb9)
      clear hb9
      go_wp2
      go_ret
      exact ⟨rfl, B9.out⟩
    | true =>
      go_wp2_with fail
      refine (awake18 w1).mono ?_
      rintro e w9 ⟨rfl, hb9⟩
      have B9 := Lib.hid (thenBelow B1.out hb9)
      clear hb9
      go_wp2
      go_ret
      exact ⟨rfl, B9.out⟩
end Go.Proofs.Yteaghcgekaoimaa
