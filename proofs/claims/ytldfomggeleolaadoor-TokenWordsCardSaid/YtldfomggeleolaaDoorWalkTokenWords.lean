/- The walk of TokenWords. -/
import Derived.Test.YtldfomggeleolaaDoorTokAwake
import Derived.Test.YtldfomggeleolaaDoorTokCount
namespace Go.Proofs.YtldfomggeleolaaDoor
open Go Go.RowKit
set_option linter.unusedVariables false

set_option maxHeartbeats 4000000 in
set_option maxRecDepth 100000 in
theorem tokenWords_walk (s : ByteArray) (W : World) (hs : s.size ≤ 140737488351232) (hT : Tables W) :
    Calls Tryd.prog 3 #[.string s] W (Yes W) := by
  have HT := Lib.hid hT
  by_cases hbig : s.size ≤ 2048
  · have hbig' : ¬ (s.size : Int) > 2048 := by omega
    have hs5 : s.size ≤ 100000 := by omega
    have L1 : (Tok.toks s).length ≤ 100000 := Nat.le_trans (Nat.le_trans (toks_len s) (Tok.sp_in s).1) hs5
    have L2 : (Tok.spans s).length ≤ 100000 := Nat.le_trans (Tok.sp_in s).1 hs5
    have H1 := Lib.hid (fun w h => tokWords_is s w hs5 h)
    have H2 := Lib.hid (fun w => refWords15_is s w hs5)
    have H3 := Lib.hid (fun w h => tokSpans_is s w hs5 h)
    have H4 := Lib.hid (fun w => refSpans15_is s w hs5)
    have H5 := Lib.hid (fun w h => tokCount_is s w hs5 h)
    have H6 := Lib.hid (fun w => refCount15_is s w hs5)
    have H7 := Lib.hid (fun w h => tokSingle_is s w hs5 h)
    have H8 := Lib.hid (fun w => refSingle15_is s w hs5)
    generalize Tok.toks s = T at L1 H1 H2
    generalize Tok.spans s = P at L2 H3 H4 H5 H6
    generalize Tok.single s = b at H7 H8
    clear hT
    go_enter Tryd.func3, Tryd.ntmps3
    go_wp2_with fail
    refine (H1.out W HT.out).mono ?_
    rintro e w1 ⟨v, rfl, hown, hb⟩
    obtain ⟨p1, c1, rfl, _, hrow⟩ := own_row2 hown
    rw [tkl_len]
    have R1 := Lib.hid hrow; have B1 := Lib.hid hb
    clear hown hb hrow H1
    go_wp2_with fail
    refine (H2.out w1).mono ?_
    rintro e w2 ⟨v, rfl, hown, hb⟩
    obtain ⟨p2, c2, rfl, _, hrow⟩ := own_row2 hown
    rw [tkl_len]
    have R2 := Lib.hid hrow; have B2 := Lib.hid (thenBelow B1.out hb); have R1' := Lib.hid (R1.out.below hb)
    clear hown hb hrow H2 R1 B1
    go_wp2_with fail
    refine (equalTok_same T p1 p2 c1 c2 w2 L1 R1'.out R2.out).mono ?_
    rintro e w3 ⟨rfl, hb⟩
    have B3 := Lib.hid (thenBelow B2.out hb)
    clear hb R1' R2 B2
    go_wp2_with fail
    refine (H3.out w3 (HT.out.below B3.out)).mono ?_
    rintro e w4 ⟨v, rfl, hown, hb⟩
    obtain ⟨p3, c3, rfl, _, hrow⟩ := own_row2 hown
    rw [spl_len]
    have R3 := Lib.hid hrow; have B4 := Lib.hid (thenBelow B3.out hb)
    clear hown hb hrow H3 B3
    go_wp2_with fail
    refine (H4.out w4).mono ?_
    rintro e w5 ⟨v, rfl, hown, hb⟩
    obtain ⟨p4, c4, rfl, _, hrow⟩ := own_row2 hown
    rw [spl_len]
    have R4 := Lib.hid hrow; have B5 := Lib.hid (thenBelow B4.out hb); have R3' := Lib.hid (R3.out.below hb)
    clear hown hb hrow H4 R3 B4
    go_wp2_with fail
    refine (equalSpan_same P p3 p4 c3 c4 w5 L2 R3'.out R4.out).mono ?_
    rintro e w6 ⟨rfl, hb⟩
    have B6 := Lib.hid (thenBelow B5.out hb)
    clear hb R3' R4 B5
    go_wp2_with fail
    refine (H5.out w6 (HT.out.below B6.out)).mono ?_
    rintro e w7 ⟨rfl, hb⟩
    have B7 := Lib.hid (thenBelow B6.out hb)
    clear hb H5 B6
    go_wp2_with fail
    refine (H6.out w7).mono ?_
    rintro e w8 ⟨rfl, hb⟩
    have B8 := Lib.hid (thenBelow B7.out hb)
    clear hb H6 B7
    go_wp2_with fail
    refine (H7.out w8 (HT.out.below B8.out)).mono ?_
    rintro e w9 ⟨rfl, hb⟩
    have B9 := Lib.hid (thenBelow B8.out hb)
    clear hb H7 B8
    go_wp2_with fail
    refine (H8.out w9).mono ?_
    rintro e wa ⟨rfl, hb⟩
    have BA := Lib.hid (thenBelow B9.out hb)
    clear hb H8 B9
    go_wp2_with fail
    refine (awake15 wa (HT.out.below BA.out)).mono ?_
    rintro e wb ⟨rfl, hb⟩
    have BB := Lib.hid (thenBelow BA.out hb)
    clear hb BA
    go_wp2_with fail
    go_ret
    exact ⟨ret_bool (by first | rfl | (simp; done)), BB.out⟩
  · have hbig' : (s.size : Int) > 2048 := by omega
    have AW := Lib.hid (awake15 W hT)
    clear hT
    go_enter Tryd.func3, Tryd.ntmps3
    go_wp2_with fail
    refine AW.out.mono ?_
    rintro e w3 ⟨rfl, hb3⟩
    have B3 := Lib.hid hb3
    clear AW hb3
    go_wp2_with fail
    go_ret
    exact ⟨ret_bool (by first | rfl | (simp; done)), B3.out⟩
end Go.Proofs.YtldfomggeleolaaDoor
