/- The walk of BitsBack. -/
import Derived.Test.YtmblkccfgncngaaDoorBitsCoder
namespace Go.Proofs.YtmblkccfgncngaaDoor
open Go Go.RowKit
set_option linter.unusedVariables false

theorem int_range5 {n : Int} (h : (Lit.int .i64 n).wf = true) : -9223372036854775808 ≤ n ∧ n ≤ 9223372036854775807 := by
  simp [Lit.wf, IntKind.min, IntKind.max, IntKind.bits, IntKind.signed] at h; omega

set_option maxHeartbeats 4000000 in
set_option maxRecDepth 100000 in
theorem bitsBack_walk (x : Int) (p : Option Addr) (c : Nat) (l : List (Int × Int)) (W : World) (hx : (Lit.int .i64 x).wf = true) (h : CameD W p c l) (hT : DeB W) :
    Calls Tryd.prog 7 #[.int .i64 x, .slice p l.length c] W (Yes W) := by
  obtain ⟨x1, x2⟩ := int_range5 hx
  obtain ⟨n, hn⟩ : ∃ n : Nat, (n : Int) = min (max x 0) 2000 := ⟨(min (max x 0) 2000).toNat, by omega⟩
  have hre := h.reach
  have M := Lib.hid (made_is x n p c l W x1 x2 hn h.lies h.le (by omega))
  have HT := Lib.hid hT
  have hn6 : n ≤ 2000 := by omega
  clear hx h hT hn x1 x2
  go_enter Tryd.func7, Tryd.ntmps7
  go_wp2_with fail
  refine M.out.mono ?_
  rintro e w1 ⟨a, G, a2, G2, f, rfl, hG, hG2, hst, hrs, hb⟩
  have B1 := Lib.hid hb; have S1 := Lib.hid hst
  have BY := Lib.hid (bytes_is a G n f w1 hst (HT.out.below hb))
  have PA := Lib.hid hst.past
  clear hst hb hrs M
  go_wp2_with fail
  refine BY.out.mono ?_
  intro e w2 hr2
  obtain ⟨q, d, rfl, hg2, hb2⟩ := hr2.given
  have B2 := Lib.hid (thenBelow B1.out hb2); have S2 := Lib.hid (S1.out.below hb2)
  have hsl := setBytes_len n f (by omega)
  have RD := Lib.hid (read_any q d (setBytes n f) w2 hg2 hsl.1 (by omega))
  clear hr2 hg2 hb2 BY S1 B1 hsl
  go_wp2_with fail
  refine RD.out.mono ?_
  rintro e w3 ⟨B, rfl, hB, hrd, hb3⟩
  have B3 := Lib.hid (thenBelow B2.out hb3); have S3 := Lib.hid (S2.out.below hb3)
  have RS := Lib.hid (readSet_is B n f [] w3 (by rw [List.append_nil]; exact hrd) (by omega) PA.out (by simp))
  have hz2 := B2.out.size
  have hB2 : w2.heap.size ≤ B := hB
  have B32 := Lib.hid hb3
  clear hrd hb3 RD S3
  go_wp2_with fail
  refine RS.out.mono ?_
  rintro e w4 ⟨t, H, rfl, ht, hH, hst4, hrd4, hg4⟩
  have B42 := Lib.hid (B32.out.grown hg4 B32.out.size (fun k hk => by have := Option.some.inj hk; omega))
  have B4 := Lib.hid (thenBelow B2.out B42.out)
  have S4 := Lib.hid (S2.out.below B42.out); have T4 := Lib.hid hst4
  have EN := Lib.hid (end_live B w4 hrd4)
  have Z1 := Lib.hid hst4.sized.calls; have Z2 := Lib.hid S4.out.sized.calls
  have L1 := Lib.hid (list_is t H n f w4 hst4 (HT.out.below B4.out))
  clear hst4 hrd4 hg4 RS B32
  go_wp2_with fail
  refine EN.out.mono ?_
  rintro e w' ⟨rfl, rfl⟩
  go_wp2_with fail
  refine Z1.out.mono ?_
  rintro e w' ⟨rfl, rfl⟩
  go_wp2_with fail
  refine Z2.out.mono ?_
  rintro e w' ⟨rfl, rfl⟩
  clear EN Z1 Z2
  go_wp2_with fail
  refine L1.out.mono ?_
  rintro e w5 ⟨v5, rfl, ho5, hb5⟩
  obtain ⟨_, p5, c5, rfl, _, hl5, _⟩ := own_liesI ho5
  have B5 := Lib.hid (thenBelow B4.out hb5); have LL := Lib.hid hl5
  have L2 := Lib.hid (list_is a G n f w5 (S4.out.below hb5) (HT.out.below B5.out))
  clear ho5 hb5 hl5 L1
  go_wp2_with fail
  refine L2.out.mono ?_
  rintro e w6 ⟨v6, rfl, ho6, hb6⟩
  obtain ⟨_, p6, c6, rfl, _, hl6, _⟩ := own_liesI ho6
  have B6 := Lib.hid (thenBelow B5.out hb6)
  have hcl := Bit.cnt_le f n
  have EQ := Lib.hid (equalI_any p5 p6 c5 c6 _ w6 (LL.out.below hb6) hl6 (by rw [castsN_len, Bit.nums_len]; omega))
  clear ho6 hb6 hl6 L2
  go_wp2_with fail
  refine EQ.out.mono ?_
  rintro e w7 ⟨rfl, hb7⟩
  have B7 := Lib.hid (thenBelow B6.out hb7)
  have AW := Lib.hid (awake5 w7 (HT.out.below B7.out))
  clear hb7 EQ
  go_wp2_with fail
  refine AW.out.mono ?_
  rintro e w8 ⟨rfl, hb8⟩
  have B8 := Lib.hid (thenBelow B7.out hb8)
  go_wp2
  go_ret
  exact ⟨ret_bool (by first | rfl | (simp; done)), B8.out⟩
end Go.Proofs.YtmblkccfgncngaaDoor
