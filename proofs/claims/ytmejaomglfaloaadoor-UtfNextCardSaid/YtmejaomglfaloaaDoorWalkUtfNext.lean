/- The walk of UtfNext. -/
import Derived.Test.YtmejaomglfaloaaDoorUtfRefNext2
import Derived.Test.YtmejaomglfaloaaDoorWalkUtfBack
namespace Go.Proofs.YtmejaomglfaloaaDoor
open Go Go.RowKit

namespace Utf
/-- the sign at any place -/
def nxA (s : ByteArray) (at_ : Int) : Int × Nat := if 0 ≤ at_ ∧ at_ < s.size then nx s at_.toNat else (-1, 0)
end Utf
theorem nextA (s : ByteArray) (at_ : Int) (w : World) (hs : s.size ≤ 140737488351232) (hT : Shapes w) :
    Calls Tryd.prog 12 #[.string s, .int .i64 at_] w fun e w' => e = .returned (.tuple #[.int .i64 (Utf.nxA s at_).1, .int .i64 ((Utf.nxA s at_).2 : Nat)]) ∧ w = w' := by
  unfold Utf.nxA
  split
  · rename_i h
    obtain ⟨n, rfl⟩ := Int.eq_ofNat_of_zero_le h.1
    exact next_in s n w (by omega) hs hT
  · exact next_out s at_ w (by omega)
theorem refNextA (s : ByteArray) (at_ : Int) (w : World) (hs : s.size ≤ 140737488351232) :
    Calls Tryd.prog 13 #[.string s, .int .i64 at_] w (RetN w (Utf.nxA s at_)) := by
  unfold Utf.nxA
  split
  · rename_i h
    obtain ⟨n, rfl⟩ := Int.eq_ofNat_of_zero_le h.1
    exact refNext_in s n w (by omega) hs
  · exact (refNext_out s at_ w (by omega)).mono fun e w' ⟨h1, h2⟩ => ⟨h1, by subst h2; exact Below.refl _ _⟩

set_option maxHeartbeats 2000000 in
set_option maxRecDepth 100000 in
theorem utfNext_walk (s : ByteArray) (at_ r : Int) (p : Option Addr) (c : Nat) (l : List UInt8) (W : World) (hs : s.size ≤ 140737488351232) (hat : (Lit.int .i64 at_).wf = true) (hr : (Lit.int .i64 r).wf = true) (h : Came W p c l) (hT : Shapes W) :
    Calls Tryd.prog 3 #[.string s, .int .i64 at_, .int .i64 r, .slice p l.length c] W (Yes W) := by
  have hle := h.le
  have hreach := h.reach
  have NX := Lib.hid (nextA s at_ W hs hT)
  have RX := Lib.hid (refNextA s at_ W hs)
  have LI := Lib.hid h.lies; have NO := Lib.hid h.none; have HT := Lib.hid hT
  obtain ⟨X, N⟩ := Utf.nxA s at_
  clear h hr hT hat
  go_enter Tryd.func3, Tryd.ntmps3
  go_wp2_with fail
  refine NX.out.mono ?_
  rintro e w' ⟨rfl, rfl⟩
  go_wp2_with fail
  refine RX.out.mono ?_
  rintro e w1 ⟨rfl, hb1⟩
  have B1 := Lib.hid hb1
  have CL := Lib.hid (clone_any p c l w1 (LI.out.below hb1) (fun e => (NO.out e).1) (by omega))
  clear NX RX hb1
  go_wp2_with fail
  refine CL.out.mono ?_
  rintro e w2 ⟨q, d, rfl, hd1, hd2, hq, hlq, hb2⟩
  have B2 := Lib.hid (thenBelow B1.out hb2)
  have LQ := Lib.hid hlq; have NQ := Lib.hid hq
  have SG := Lib.hid (sign_is r w2); have RG := Lib.hid (refSign_is r w2)
  have PUT := Lib.hid (put_is p c l r w2 (LI.out.below B2.out) NO.out (by omega) (HT.out.below B2.out))
  clear CL hb2 hlq hq hd1 hd2
  generalize Utf.sg r = sb at SG RG
  go_wp2_with fail
  refine SG.out.mono ?_
  rintro e w' ⟨rfl, rfl⟩
  go_wp2_with fail
  refine RG.out.mono ?_
  rintro e w' ⟨rfl, rfl⟩
  clear SG RG
  go_wp2_with fail
  refine PUT.out.mono ?_
  rintro e w3 ⟨v3, rfl, hown3, hb3⟩
  obtain ⟨L, hL⟩ : ∃ L, L = l ++ Utf.enc r := ⟨_, rfl⟩
  have RP := Lib.hid (refPut3 q d l r w3 (LQ.out.below hb3) NQ.out (by omega))
  rw [← hL] at hown3 
  rw [← hL] at RP
  obtain ⟨_, p3, c3, rfl, _, _, lies3, _⟩ := own_lies hown3
  have L3 := Lib.hid lies3; have B3 := Lib.hid (thenBelow B2.out hb3)
  have LQ3 := Lib.hid (LQ.out.below hb3)
  clear PUT hown3 lies3 hb3 hL
  go_wp2_with fail
  refine RP.out.mono ?_
  rintro e w4 ⟨v4, rfl, hown4, hb4⟩
  obtain ⟨_, p4, c4, rfl, _, _, lies4, _⟩ := own_lies hown4
  have B4 := Lib.hid (thenBelow B3.out hb4)
  have E1 := Lib.hid (equal_any p3 p4 L.length L.length c3 c4 L L w4 (L3.out.below hb4) lies4 rfl rfl)
  have E2 := Lib.hid (equal_any p q l.length l.length c d l l w4 (LI.out.below B4.out) (LQ3.out.below hb4) rfl rfl)
  have AW := Lib.hid (awake3 w4 (HT.out.below B4.out))
  simp only [beq_self_eq_true] at E1 E2
  clear RP hown4 lies4 hb4
  go_wp2_with fail
  refine E1.out.mono ?_
  rintro e w' ⟨rfl, rfl⟩
  go_wp2_with fail
  refine E2.out.mono ?_
  rintro e w' ⟨rfl, rfl⟩
  go_wp2_with fail
  refine AW.out.mono ?_
  rintro e w' ⟨rfl, rfl⟩
  go_wp2_with fail
  go_ret
  exact ⟨ret_bool (by first | rfl | (simp; done)), B4.out⟩
end Go.Proofs.YtmejaomglfaloaaDoor
