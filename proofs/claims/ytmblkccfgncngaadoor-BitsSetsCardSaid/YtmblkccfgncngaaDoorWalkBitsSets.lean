/- The walk of BitsSets. -/
import Derived.Test.YtmblkccfgncngaaDoorBitsSame
import Derived.Test.YtmblkccfgncngaaDoorBitsNext2
namespace Go.Proofs.YtmblkccfgncngaaDoor
open Go Go.RowKit

theorem int_range5 {n : Int} (h : (Lit.int .i64 n).wf = true) : -9223372036854775808 ≤ n ∧ n ≤ 9223372036854775807 := by
  simp [Lit.wf, IntKind.min, IntKind.max, IntKind.bits, IntKind.signed] at h; omega

set_option maxHeartbeats 4000000 in
set_option maxRecDepth 100000 in
theorem bitsSets_walk (x : Int) (p : Option Addr) (c : Nat) (l : List (Int × Int)) (i : Int) (W : World) (hx : (Lit.int .i64 x).wf = true) (h : CameD W p c l) (hi : (Lit.int .i64 i).wf = true) (hT : DeB W) :
    Calls Tryd.prog 3 #[.int .i64 x, .slice p l.length c, .int .i64 i] W (Yes W) := by
  obtain ⟨x1, x2⟩ := int_range5 hx
  obtain ⟨i1, i2⟩ := int_range5 hi
  obtain ⟨n, hn⟩ : ∃ n : Nat, (n : Int) = min (max x 0) 2000 := ⟨(min (max x 0) 2000).toNat, by omega⟩
  have hre := h.reach
  have M := Lib.hid (made_is x n p c l W x1 x2 hn h.lies h.le (by omega))
  have HT := Lib.hid hT
  have hn6 : n ≤ 2000 := by omega
  clear hx h hT hn x1 x2 hi
  go_enter Tryd.func3, Tryd.ntmps3
  go_wp2_with fail
  refine M.out.mono ?_
  rintro e w1 ⟨a, G, a2, G2, f, rfl, hG, hG2, hst, hrs, hb⟩
  have B1 := Lib.hid hb; have S1 := Lib.hid hst; have R1 := Lib.hid hrs
  have SM := Lib.hid (same_is a G a2 G2 n f w1 hst hrs (HT.out.below hb))
  clear hst hb hrs M
  go_wp2_with fail
  refine SM.out.mono ?_
  rintro e w2 ⟨rfl, hb2⟩
  have B2 := Lib.hid (thenBelow B1.out hb2); have S2 := Lib.hid (S1.out.below hb2); have R2 := Lib.hid (R1.out.below hb2)
  have H1 := Lib.hid (has_any a G n f i w2 S2.out)
  have H2 := Lib.hid (refHas_any a2 G2 n f i w2 R2.out)
  have K1 := Lib.hid (rank_all a G n f i w2 S2.out i1 i2)
  generalize inF f n i = v at H1 H2
  clear SM hb2
  go_wp2_with fail
  refine H1.out.mono ?_
  rintro e w' ⟨rfl, rfl⟩
  clear H1
  go_wp2_with fail
  refine H2.out.mono ?_
  rintro e w' ⟨rfl, rfl⟩
  clear H2
  go_wp2_with fail
  refine K1.out.mono ?_
  rintro e w3 ⟨rfl, hb3⟩
  have B3 := Lib.hid (thenBelow B2.out hb3); have S3 := Lib.hid (S2.out.below hb3); have R3 := Lib.hid (R2.out.below hb3)
  have K2 := Lib.hid (refRank_any a2 G2 n f i w3 R3.out)
  have N1 := Lib.hid (next_all a G n f i w3 S3.out (HT.out.below B3.out))
  generalize Bit.cnt f (upto n i) = q at K2 ⊢
  clear K1 hb3
  go_wp2_with fail
  refine K2.out.mono ?_
  rintro e w' ⟨rfl, rfl⟩
  clear K2
  go_wp2_with fail
  refine N1.out.mono ?_
  rintro e w4 ⟨r, rfl, hr, hb4⟩
  have B4 := Lib.hid (thenBelow B3.out hb4); have R4 := Lib.hid (R3.out.below hb4)
  have HR := Lib.hid hr
  have N2 := Lib.hid (refNext_any a2 G2 n f i w4 R4.out)
  have AW := Lib.hid (awake5 w4 (HT.out.below B4.out))
  clear N1 hb4 hr
  go_wp2_with fail
  refine N2.out.mono ?_
  rintro e w' ⟨⟨r2, rfl, hr2⟩, hw⟩
  obtain rfl : r2 = r := hr2.unique HR.out
  subst hw
  clear N2 hr2
  go_wp2_with fail
  refine AW.out.mono ?_
  rintro e w5 ⟨rfl, hb5⟩
  have B5 := Lib.hid (thenBelow B4.out hb5)
  go_wp2
  go_ret
  exact ⟨ret_bool (by first | rfl | (simp; done)), B5.out⟩
end Go.Proofs.YtmblkccfgncngaaDoor
