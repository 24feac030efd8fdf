/- The walk of BitsBoth. -/
import Derived.Test.YtmblkccfgncngaaDoorBitsClone
namespace Go.Proofs.YtmblkccfgncngaaDoor
open Go Go.RowKit
set_option linter.unusedVariables false

theorem int_range5 {n : Int} (h : (Lit.int .i64 n).wf = true) : -9223372036854775808 ≤ n ∧ n ≤ 9223372036854775807 := by
  simp [Lit.wf, IntKind.min, IntKind.max, IntKind.bits, IntKind.signed] at h; omega

set_option maxHeartbeats 8000000 in
set_option maxRecDepth 100000 in
theorem bitsBoth_walk (x y : Int) (p1 : Option Addr) (c1 : Nat) (l1 : List (Int × Int)) (p2 : Option Addr) (c2 : Nat) (l2 : List (Int × Int)) (W : World) (hx : (Lit.int .i64 x).wf = true) (hy : (Lit.int .i64 y).wf = true) (h1 : CameD W p1 c1 l1) (h2 : CameD W p2 c2 l2) (hT : DeB W) :
    Calls Tryd.prog 5 #[.int .i64 x, .int .i64 y, .slice p1 l1.length c1, .slice p2 l2.length c2] W (Yes W) := by
  obtain ⟨x1, x2⟩ := int_range5 hx
  obtain ⟨y1, y2⟩ := int_range5 hy
  obtain ⟨n, hn⟩ : ∃ n : Nat, (n : Int) = min (max x 0) 2000 := ⟨(min (max x 0) 2000).toNat, by omega⟩
  obtain ⟨m, hm⟩ : ∃ m : Nat, (m : Int) = min (max y 0) 2000 := ⟨(min (max y 0) 2000).toNat, by omega⟩
  have hr1 := h1.reach; have hr2 := h2.reach
  have L2 := Lib.hid h2.lies; have E2 := Lib.hid h2.le
  have M := Lib.hid (made_is x n p1 c1 l1 W x1 x2 hn h1.lies h1.le (by omega))
  have M2 : Hid (∀ w, Below W.heap.size W w → Calls Tryd.prog 10 #[.int .i64 y, .slice p2 l2.length c2] w (MadeTo w m)) := fun w hw => made_is y m p2 c2 l2 w y1 y2 hm (L2.out.below hw) E2.out (by omega)
  have HT := Lib.hid hT
  have hn6 : n ≤ 2000 := by omega
  have hm6 : m ≤ 2000 := by omega
  clear hx hy h1 h2 hT hn hm x1 x2 y1 y2 L2 E2 hr1 hr2
  go_enter Tryd.func5, Tryd.ntmps5
  go_wp2_with fail
  refine M.out.mono ?_
  rintro e w1 ⟨a, G, a2, G2, f, rfl, hG, hG2, hst, hrs, hb⟩
  have B1 := Lib.hid hb; have S1 := Lib.hid hst; have R1 := Lib.hid hrs
  have M3 := Lib.hid (M2.out w1 hb)
  clear hst hb hrs M M2
  go_wp2_with fail
  refine M3.out.mono ?_
  rintro e w2 ⟨b, H, b2, H2, g, rfl, hH, hH2, hst, hrs, hb⟩
  have BW := Lib.hid (thenBelow B1.out hb); have SA := Lib.hid (S1.out.below hb); have RA := Lib.hid (R1.out.below hb); have SB := Lib.hid hst; have RB := Lib.hid hrs
  clear hst hb hrs M3 S1 R1 B1 hG hG2 hH hH2
  -- And
  have C1 := Lib.hid (and_is a G n b H m f g w2 SA.out SB.out)
  go_wp2_with fail
  refine C1.out.mono ?_
  rintro e w3 ⟨s, Gs, rfl, hs, hGs, hss, hb3⟩
  have S3 := Lib.hid hss; have B3 := Lib.hid hb3
  have C2 := Lib.hid (bothAnd_is a2 G2 n b2 H2 m f g w3 (RA.out.below hb3) (RB.out.below hb3))
  clear C1 hss hb3 hs hGs
  go_wp2_with fail
  refine C2.out.mono ?_
  rintro e w4 ⟨s2, Gs2, rfl, hs2, hGs2, hrr, hb4⟩
  have B4 := Lib.hid (thenBelow B3.out hb4)
  have C3 := Lib.hid (same_is s Gs s2 Gs2 _ _ w4 (S3.out.below hb4) hrr (HT.out.below (thenBelow BW.out B4.out)))
  clear C2 hrr hb4 hs2 hGs2 S3 B3
  go_wp2_with fail
  refine C3.out.mono ?_
  rintro e v1 ⟨rfl, hb5⟩
  have B5 := Lib.hid (thenBelow B4.out hb5)
  have SA_1 := Lib.hid (SA.out.below B5.out); have RA_1 := Lib.hid (RA.out.below B5.out); have SB_1 := Lib.hid (SB.out.below B5.out); have RB_1 := Lib.hid (RB.out.below B5.out); have BW_1 := Lib.hid (thenBelow BW.out B5.out)
  clear C3 hb5 B4 B5 SA RA SB RB BW
  -- Or
  have C1 := Lib.hid (or_is a G n b H m f g v1 SA_1.out SB_1.out)
  go_wp2_with fail
  refine C1.out.mono ?_
  rintro e w3 ⟨s, Gs, rfl, hs, hGs, hss, hb3⟩
  have S3 := Lib.hid hss; have B3 := Lib.hid hb3
  have C2 := Lib.hid (bothOr_is a2 G2 n b2 H2 m f g w3 (RA_1.out.below hb3) (RB_1.out.below hb3))
  clear C1 hss hb3 hs hGs
  go_wp2_with fail
  refine C2.out.mono ?_
  rintro e w4 ⟨s2, Gs2, rfl, hs2, hGs2, hrr, hb4⟩
  have B4 := Lib.hid (thenBelow B3.out hb4)
  have C3 := Lib.hid (same_is s Gs s2 Gs2 _ _ w4 (S3.out.below hb4) hrr (HT.out.below (thenBelow BW_1.out B4.out)))
  clear C2 hrr hb4 hs2 hGs2 S3 B3
  go_wp2_with fail
  refine C3.out.mono ?_
  rintro e v2 ⟨rfl, hb5⟩
  have B5 := Lib.hid (thenBelow B4.out hb5)
  have SA_2 := Lib.hid (SA_1.out.below B5.out); have RA_2 := Lib.hid (RA_1.out.below B5.out); have SB_2 := Lib.hid (SB_1.out.below B5.out); have RB_2 := Lib.hid (RB_1.out.below B5.out); have BW_2 := Lib.hid (thenBelow BW_1.out B5.out)
  clear C3 hb5 B4 B5 SA_1 RA_1 SB_1 RB_1 BW_1
  -- Less
  have C1 := Lib.hid (less_is a G n b H m f g v2 SA_2.out SB_2.out)
  go_wp2_with fail
  refine C1.out.mono ?_
  rintro e w3 ⟨s, Gs, rfl, hs, hGs, hss, hb3⟩
  have S3 := Lib.hid hss; have B3 := Lib.hid hb3
  have C2 := Lib.hid (bothLess_is a2 G2 n b2 H2 m f g w3 (RA_2.out.below hb3) (RB_2.out.below hb3))
  clear C1 hss hb3 hs hGs
  go_wp2_with fail
  refine C2.out.mono ?_
  rintro e w4 ⟨s2, Gs2, rfl, hs2, hGs2, hrr, hb4⟩
  have B4 := Lib.hid (thenBelow B3.out hb4)
  have C3 := Lib.hid (same_is s Gs s2 Gs2 _ _ w4 (S3.out.below hb4) hrr (HT.out.below (thenBelow BW_2.out B4.out)))
  clear C2 hrr hb4 hs2 hGs2 S3 B3
  go_wp2_with fail
  refine C3.out.mono ?_
  rintro e v3 ⟨rfl, hb5⟩
  have B5 := Lib.hid (thenBelow B4.out hb5)
  have SA_3 := Lib.hid (SA_2.out.below B5.out); have RA_3 := Lib.hid (RA_2.out.below B5.out); have SB_3 := Lib.hid (SB_2.out.below B5.out); have RB_3 := Lib.hid (RB_2.out.below B5.out); have BW_3 := Lib.hid (thenBelow BW_2.out B5.out)
  clear C3 hb5 B4 B5 SA_2 RA_2 SB_2 RB_2 BW_2
  have C1 := Lib.hid (clone_is a G n f v3 SA_3.out)
  go_wp2_with fail
  refine C1.out.mono ?_
  rintro e w3 ⟨s, Gs, rfl, hs, hGs, hss, hb3⟩
  have S3 := Lib.hid hss; have B3 := Lib.hid hb3
  have C3 := Lib.hid (same_is s Gs a2 G2 _ _ w3 hss (RA_3.out.below hb3) (HT.out.below (thenBelow BW_3.out hb3)))
  clear C1 hss hb3 hs
  go_wp2_with fail
  refine C3.out.mono ?_
  rintro e w4 ⟨rfl, hb4⟩
  have B4 := Lib.hid (thenBelow B3.out hb4)
  have P1 := Lib.hid (put_any s Gs n f 0 w4 (S3.out.below hb4))
  clear C3 hb4 S3 B3
  go_wp2_with fail
  refine P1.out.mono ?_
  rintro e w5 ⟨rfl, hs5, hg5⟩
  have B5 := Lib.hid (B4.out.grown hg5 B4.out.size (fun k hk => by have := Option.some.inj hk; omega))
  have P2 := Lib.hid (cut_any s Gs n _ 1 w5 hs5)
  clear P1 hs5 hg5 B4
  go_wp2_with fail
  refine P2.out.mono ?_
  rintro e w6 ⟨rfl, hs6, hg6⟩
  have B6 := Lib.hid (B5.out.grown hg6 B5.out.size (fun k hk => by have := Option.some.inj hk; omega))
  have C4 := Lib.hid (same_is a G a2 G2 n f w6 (SA_3.out.below B6.out) (RA_3.out.below B6.out) (HT.out.below (thenBelow BW_3.out B6.out)))
  clear P2 hs6 hg6 B5
  go_wp2_with fail
  refine C4.out.mono ?_
  rintro e w7 ⟨rfl, hb7⟩
  have B7 := Lib.hid (thenBelow B6.out hb7)
  have C5 := Lib.hid (same_is b H b2 H2 m g w7 (SB_3.out.below B7.out) (RB_3.out.below B7.out) (HT.out.below (thenBelow BW_3.out B7.out)))
  clear C4 hb7 B6
  go_wp2_with fail
  refine C5.out.mono ?_
  rintro e w8 ⟨rfl, hb8⟩
  have B8 := Lib.hid (thenBelow B7.out hb8)
  have AW := Lib.hid (awake5 w8 (HT.out.below (thenBelow BW_3.out B8.out)))
  clear C5 hb8 B7
  go_wp2_with fail
  refine AW.out.mono ?_
  rintro e w9 ⟨rfl, hb9⟩
  have B9 := Lib.hid (thenBelow BW_3.out (thenBelow B8.out hb9))
  go_wp2
  go_ret
  exact ⟨ret_bool (by first | rfl | (simp; done)), B9.out⟩
end Go.Proofs.YtmblkccfgncngaaDoor
