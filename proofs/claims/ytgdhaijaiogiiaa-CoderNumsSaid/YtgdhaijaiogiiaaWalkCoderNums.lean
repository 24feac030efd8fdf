/- The walk of CoderNums. -/
import Derived.Test.YtgdhaijaiogiiaaCoderAwake
namespace Go.Proofs.Ytgdhaijaiogiiaa
open Go Go.RowKit

theorem Came.given {w : World} {p : Option Addr} {c : Nat} {l : List UInt8} (h : Came w p c l) : Given w p c l := ⟨h.lies, h.le, h.none⟩

set_option maxHeartbeats 2000000 in
theorem coderNums_walk (p : Option Addr) (c : Nat) (l : List UInt8) (n : Int) (W : World) (h : Came W p c l) (hn : (Lit.int .i64 n).wf = true) :
    Calls Try.prog 3 #[.slice p l.length c, .int .i64 n] W (Yes W) := by
  have hr := h.reach
  have hle := h.le
  have G := Lib.hid h.given
  have WF := Lib.hid hn
  clear h hn
  go_enter Try.func3, Try.ntmps3
  go_wp2_with fail
  refine (clone_any p c l W G.out.lies (fun e => (G.out.none e).1) (by omega)).mono ?_
  rintro e w1 ⟨p1, c1, rfl, le1, m1, n1, lies1, b1⟩
  have G1 : Hid (Given w1 p1 c1 l) := ⟨lies1, le1, n1⟩
  have B1 := Lib.hid b1; clear lies1 n1 b1
  have g1 := Lib.hid (G.out.below B1.out)
  go_wp2_with fail
  refine (num_any p c l n w1 g1.out.lies (fun e => (g1.out.none e).1) hle WF.out (by omega)).mono ?_
  intro e w2 hr2
  obtain ⟨p2, c2, rfl, g2, b2⟩ := hr2.given
  have G2 := Lib.hid g2; have B2 := Lib.hid b2; clear hr2 g2 b2
  go_wp2_with fail
  refine (refNum_any p1 c1 l n w2 (G1.out.below B2.out) WF.out (by omega)).mono ?_
  intro e w3 hr3
  obtain ⟨p3, c3, rfl, g3, b3⟩ := hr3.given
  have G3 := Lib.hid g3; have B3 := Lib.hid b3; clear hr3 g3 b3
  go_wp2_with fail
  refine (equal_any p2 p3 _ _ c2 c3 (l ++ Cod.enc n.toNat) (l ++ Cod.enc n.toNat) w3 (G2.out.lies.below B3.out) G3.out.lies (by simp) (by simp)).mono ?_
  rintro e w' ⟨rfl, rfl⟩
  have B13 := Lib.hid (thenBelow (thenBelow B1.out B2.out) B3.out)
  have g3 := Lib.hid (G.out.below B13.out)
  go_wp2_with fail
  refine (sign_any p c l n w3 g3.out.lies (fun e => (g3.out.none e).1) hle WF.out (by omega)).mono ?_
  intro e w4 hr4
  obtain ⟨p4, c4, rfl, g4, b4⟩ := hr4.given
  have G4 := Lib.hid g4; have B4 := Lib.hid b4; clear hr4 g4 b4
  go_wp2_with fail
  refine (refSign_any p1 c1 l n w4 (G1.out.below (thenBelow (thenBelow B2.out B3.out) B4.out)) WF.out (by omega)).mono ?_
  intro e w5 hr5
  obtain ⟨p5, c5, rfl, g5, b5⟩ := hr5.given
  have G5 := Lib.hid g5; have B5 := Lib.hid b5; clear hr5 g5 b5
  go_wp2_with fail
  refine (equal_any p4 p5 _ _ c4 c5 (l ++ Cod.enc (zz n)) (l ++ Cod.enc (zz n)) w5 (G4.out.lies.below B5.out) G5.out.lies (by simp) (by simp)).mono ?_
  rintro e w' ⟨rfl, rfl⟩
  have B15 := Lib.hid (thenBelow (thenBelow B13.out B4.out) B5.out)
  go_wp2_with fail
  refine (equal_any p p1 _ _ c c1 l l w5 (G.out.lies.below B15.out) (G1.out.lies.below (thenBelow (thenBelow (thenBelow B2.out B3.out) B4.out) B5.out)) rfl rfl).mono ?_
  rintro e w' ⟨rfl, rfl⟩
  go_wp2_with fail
  refine (awake_any w5).mono ?_
  rintro e w6 ⟨rfl, b6⟩
  have B6 := Lib.hid b6
  go_wp2_with fail
  go_ret
  exact ⟨rfl, thenBelow B15.out B6.out⟩
end Go.Proofs.Ytgdhaijaiogiiaa
