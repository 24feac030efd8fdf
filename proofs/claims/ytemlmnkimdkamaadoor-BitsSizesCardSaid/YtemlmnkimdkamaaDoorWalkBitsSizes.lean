/- The walk of BitsSizes. -/
import Derived.Test.YtemlmnkimdkamaaDoorBitsAwake
namespace Go.Proofs.YtemlmnkimdkamaaDoor
open Go Go.RowKit

theorem int_range5 {n : Int} (h : (Lit.int .i64 n).wf = true) : -9223372036854775808 ≤ n ∧ n ≤ 9223372036854775807 := by
  simp [Lit.wf, IntKind.min, IntKind.max, IntKind.bits, IntKind.signed] at h; omega

set_option maxHeartbeats 4000000 in
set_option maxRecDepth 100000 in
theorem bitsSizes_walk (x : Int) (W : World) (hx : (Lit.int .i64 x).wf = true) (hT : DeB W) :
    Calls Tryd.prog 4 #[.int .i64 x] W (Yes W) := by
  obtain ⟨x1, x2⟩ := int_range5 hx
  obtain ⟨n, hn⟩ : ∃ n : Nat, (n : Int) = min (max x 0) 65536 := ⟨(min (max x 0) 65536).toNat, by omega⟩
  have N := Lib.hid (newSet x n W x1 x2 hn)
  have HT := Lib.hid hT
  have hn6 : n ≤ 65536 := by omega
  have ZERO : Hid (Bit.cnt (fun _ => false) n = 0) := Bit.cnt_none fun _ _ => rfl
  clear hx hT
  have key : (x < 0 ∧ n = 0) ∨ (x = 0 ∧ n = 0) ∨ ((0 < x ∧ x ≤ 65536) ∧ x = n) ∨ (65536 < x ∧ n = 65536) := by omega
  clear hn
  rcases key with ⟨k1, rfl⟩ | ⟨rfl, rfl⟩ | ⟨⟨k1, k2⟩, rfl⟩ | ⟨k1, rfl⟩
  · go_enter Tryd.func4, Tryd.ntmps4
    go_wp2_with fail
    refine N.out.mono ?_
    rintro e w1 ⟨a, G, rfl, ha, hG, hst, hb⟩
    have B1 := Lib.hid hb; have S1 := Lib.hid hst
    have SZ := Lib.hid (hst.sized.calls)
    have CT := Lib.hid (count_is a G 0 _ w1 hst)
    rw [ZERO.out] at CT
    clear hst hb N
    go_wp2_with fail
    refine SZ.out.mono ?_
    rintro e w' ⟨rfl, rfl⟩
    go_wp2_with fail
    refine CT.out.mono ?_
    rintro e w2 ⟨rfl, hb2⟩
    have B2 := Lib.hid (B1.out.trans (hb2.mono B1.out.size)); have S2 := Lib.hid (S1.out.below hb2)
    have NX := Lib.hid (next_out (some ⟨a, 0, none⟩) 0 0 w2 S2.out.sized (by omega) (by omega))
    have P1 := Lib.hid (put_out (some ⟨a, 0, none⟩) 0 (-1) w2 S2.out.sized (by omega))
    have P2 := Lib.hid (put_out (some ⟨a, 0, none⟩) 0 0 w2 S2.out.sized (by omega))
    have AW := Lib.hid (awake5 w2 (HT.out.below B2.out))
    clear CT SZ hb2
    go_wp2_with fail
    refine NX.out.mono ?_
    rintro e w' ⟨rfl, rfl⟩
    go_wp2_with fail
    refine P1.out.mono ?_
    rintro e w' ⟨rfl, rfl⟩
    go_wp2_with fail
    refine P2.out.mono ?_
    rintro e w' ⟨rfl, rfl⟩
    go_wp2_with fail
    refine AW.out.mono ?_
    rintro e w5 ⟨rfl, hb5⟩
    have B5 := Lib.hid (B2.out.trans (hb5.mono B2.out.size))
    go_wp2
    go_ret
    exact ⟨ret_bool (by first | rfl | (simp; done) | (simp; omega)), B5.out⟩
  · go_enter Tryd.func4, Tryd.ntmps4
    go_wp2_with fail
    refine N.out.mono ?_
    rintro e w1 ⟨a, G, rfl, ha, hG, hst, hb⟩
    have B1 := Lib.hid hb; have S1 := Lib.hid hst
    have SZ := Lib.hid (hst.sized.calls)
    have CT := Lib.hid (count_is a G 0 _ w1 hst)
    rw [ZERO.out] at CT
    clear hst hb N
    go_wp2_with fail
    refine SZ.out.mono ?_
    rintro e w' ⟨rfl, rfl⟩
    go_wp2_with fail
    refine CT.out.mono ?_
    rintro e w2 ⟨rfl, hb2⟩
    have B2 := Lib.hid (B1.out.trans (hb2.mono B1.out.size)); have S2 := Lib.hid (S1.out.below hb2)
    have NX := Lib.hid (next_out (some ⟨a, 0, none⟩) 0 0 w2 S2.out.sized (by omega) (by omega))
    have P1 := Lib.hid (put_out (some ⟨a, 0, none⟩) 0 (-1) w2 S2.out.sized (by omega))
    have P2 := Lib.hid (put_out (some ⟨a, 0, none⟩) 0 0 w2 S2.out.sized (by omega))
    have AW := Lib.hid (awake5 w2 (HT.out.below B2.out))
    clear CT SZ hb2
    go_wp2_with fail
    refine NX.out.mono ?_
    rintro e w' ⟨rfl, rfl⟩
    go_wp2_with fail
    refine P1.out.mono ?_
    rintro e w' ⟨rfl, rfl⟩
    go_wp2_with fail
    refine P2.out.mono ?_
    rintro e w' ⟨rfl, rfl⟩
    go_wp2_with fail
    refine AW.out.mono ?_
    rintro e w5 ⟨rfl, hb5⟩
    have B5 := Lib.hid (B2.out.trans (hb5.mono B2.out.size))
    go_wp2
    go_ret
    exact ⟨ret_bool (by first | rfl | (simp; done) | (simp; omega)), B5.out⟩
  · go_enter Tryd.func4, Tryd.ntmps4
    go_wp2_with fail
    refine N.out.mono ?_
    rintro e w1 ⟨a, G, rfl, ha, hG, hst, hb⟩
    have B1 := Lib.hid hb; have S1 := Lib.hid hst
    have SZ := Lib.hid (hst.sized.calls)
    have CT := Lib.hid (count_is a G n _ w1 hst)
    rw [ZERO.out] at CT
    clear hst hb N
    go_wp2_with fail
    refine SZ.out.mono ?_
    rintro e w' ⟨rfl, rfl⟩
    go_wp2_with fail
    refine CT.out.mono ?_
    rintro e w2 ⟨rfl, hb2⟩
    have B2 := Lib.hid (B1.out.trans (hb2.mono B1.out.size)); have S2 := Lib.hid (S1.out.below hb2)
    have NX := Lib.hid (next_nat a G n _ 0 w2 S2.out (HT.out.below B2.out) (by omega))
    clear CT SZ hb2
    go_wp2_with fail
    refine NX.out.mono ?_
    rintro e w3 ⟨r, rfl, hr, hb3⟩
    obtain rfl : r = -1 := hr.unique (.inr ⟨rfl, fun _ _ _ => rfl⟩)
    have B3 := Lib.hid (B2.out.trans (hb3.mono B2.out.size)); have S3 := Lib.hid (S2.out.below hb3)
    have PI := Lib.hid (put_in a G n _ (n - 1) w3 S3.out (by omega))
    have hn1 : ((n - 1 : Nat) : Int) = (n : Int) - 1 := by omega
    rw [hn1] at PI
    clear hb3 hr NX hn1
    go_wp2_with fail
    refine PI.out.mono ?_
    intro e w4 ht4
    have B4 := Lib.hid (B3.out.trans (turned_below ht4 hG B3.out.size))
    obtain ⟨rfl, hst4, _⟩ := ht4
    have PO := Lib.hid (put_out (some ⟨a, 0, none⟩) n n w4 hst4.sized (by omega))
    have AW := Lib.hid (awake5 w4 (HT.out.below B4.out))
    clear hst4 PI
    go_wp2_with fail
    refine PO.out.mono ?_
    rintro e w' ⟨rfl, rfl⟩
    go_wp2_with fail
    refine AW.out.mono ?_
    rintro e w5 ⟨rfl, hb5⟩
    have B5 := Lib.hid (B4.out.trans (hb5.mono B4.out.size))
    go_wp2
    go_ret
    exact ⟨ret_bool (by first | rfl | (simp; done) | (simp; omega)), B5.out⟩
  · go_enter Tryd.func4, Tryd.ntmps4
    go_wp2_with fail
    refine N.out.mono ?_
    rintro e w1 ⟨a, G, rfl, ha, hG, hst, hb⟩
    have B1 := Lib.hid hb; have S1 := Lib.hid hst
    have SZ := Lib.hid (hst.sized.calls)
    have CT := Lib.hid (count_is a G 65536 _ w1 hst)
    rw [ZERO.out] at CT
    clear hst hb N
    go_wp2_with fail
    refine SZ.out.mono ?_
    rintro e w' ⟨rfl, rfl⟩
    go_wp2_with fail
    refine CT.out.mono ?_
    rintro e w2 ⟨rfl, hb2⟩
    have B2 := Lib.hid (B1.out.trans (hb2.mono B1.out.size)); have S2 := Lib.hid (S1.out.below hb2)
    have NX := Lib.hid (next_nat a G 65536 _ 0 w2 S2.out (HT.out.below B2.out) (by omega))
    clear CT SZ hb2
    go_wp2_with fail
    refine NX.out.mono ?_
    rintro e w3 ⟨r, rfl, hr, hb3⟩
    obtain rfl : r = -1 := hr.unique (.inr ⟨rfl, fun _ _ _ => rfl⟩)
    have B3 := Lib.hid (B2.out.trans (hb3.mono B2.out.size)); have S3 := Lib.hid (S2.out.below hb3)
    have PI := Lib.hid (put_in a G 65536 _ 65535 w3 S3.out (by omega))
    clear hb3 hr NX
    go_wp2_with fail
    refine PI.out.mono ?_
    intro e w4 ht4
    have B4 := Lib.hid (B3.out.trans (turned_below ht4 hG B3.out.size))
    obtain ⟨rfl, hst4, _⟩ := ht4
    have PO := Lib.hid (put_out (some ⟨a, 0, none⟩) 65536 65536 w4 hst4.sized (by omega))
    have AW := Lib.hid (awake5 w4 (HT.out.below B4.out))
    clear hst4 PI
    go_wp2_with fail
    refine PO.out.mono ?_
    rintro e w' ⟨rfl, rfl⟩
    go_wp2_with fail
    refine AW.out.mono ?_
    rintro e w5 ⟨rfl, hb5⟩
    have B5 := Lib.hid (B4.out.trans (hb5.mono B4.out.size))
    go_wp2
    go_ret
    exact ⟨ret_bool (by first | rfl | (simp; done) | (simp; omega)), B5.out⟩
end Go.Proofs.YtemlmnkimdkamaaDoor
