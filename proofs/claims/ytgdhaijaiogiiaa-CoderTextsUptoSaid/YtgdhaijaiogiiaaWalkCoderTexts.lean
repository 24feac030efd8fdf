/- The walk of CoderTexts, where what it reads is not great. -/
import Derived.Test.YtgdhaijaiogiiaaCoderAwake
import Derived.Test.YtgdhaijaiogiiaaCoderRef3
namespace Go.Proofs.Ytgdhaijaiogiiaa
open Go Go.RowKit

set_option maxHeartbeats 2000000 in
set_option maxRecDepth 100000 in
theorem coderTexts_walk (p : Option Addr) (c : Nat) (l : List UInt8) (s : ByteArray) (q : Option Addr) (d : Nat) (m : List Int) (W : World) (h : Came W p c l) (hm : CameI W q d m)
    (bl : l.length ≤ 1048576) (bs : s.size ≤ 1048576) (bm : m.length ≤ 1048576) :
    Calls Try.prog 4 #[.slice p l.length c, .string s, .slice q m.length d] W (Yes W) := by
  have hle := h.le
  have hlem := hm.le
  have G : Hid (Given W p c l) := ⟨h.lies, h.le, h.none⟩
  have ML := Lib.hid hm.lies; have MW := Lib.hid hm.wf
  have tl : s.data.toList.length = s.size := Array.length_toList
  have hel := enc_len s.size
  obtain ⟨L1, hL1⟩ : ∃ L, L = l ++ Cod.enc s.size ++ s.data.toList := ⟨_, rfl⟩
  obtain ⟨L2, hL2⟩ : ∃ L, L = l ++ Cod.rising m := ⟨_, rfl⟩
  have HL1 := Lib.hid hL1; have HL2 := Lib.hid hL2
  clear h hm hL1 hL2 tl
  go_enter Try.func4, Try.ntmps4
  go_wp2_with fail
  refine (clone_any p c l W G.out.lies (fun e => (G.out.none e).1) (by omega)).mono ?_
  rintro e w1 ⟨p1, c1, rfl, le1, m1, n1, lies1, b1⟩
  have G1 : Hid (Given w1 p1 c1 l) := ⟨lies1, le1, n1⟩
  have B1 := Lib.hid b1; clear lies1 n1 b1
  go_wp2_with fail
  refine (text_any p c l s w1 (G.out.below B1.out) (by omega)).mono ?_
  intro e w2 hr2
  rw [← HL1.out] at hr2
  obtain ⟨p2, c2, rfl, g2, b2⟩ := hr2.given
  have G2 := Lib.hid g2; have B2 := Lib.hid b2; clear hr2 g2 b2
  go_wp2_with fail
  refine (refText_any p1 c1 l s w2 (G1.out.below B2.out) (by omega)).mono ?_
  intro e w3 hr3
  rw [← HL1.out] at hr3
  obtain ⟨p3, c3, rfl, g3, b3⟩ := hr3.given
  have G3 := Lib.hid g3; have B3 := Lib.hid b3; clear hr3 g3 b3
  go_wp2_with fail
  refine (equal_any p2 p3 _ _ c2 c3 L1 L1 w3 (G2.out.lies.below B3.out) G3.out.lies rfl rfl).mono ?_
  rintro e w' ⟨rfl, rfl⟩
  have B13 := Lib.hid (thenBelow (thenBelow B1.out B2.out) B3.out)
  have g3 := Lib.hid (G.out.below B13.out)
  go_wp2_with fail
  refine (rising_any p q c d l m w3 g3.out (ML.out.below B13.out) MW.out (by omega)).mono ?_
  intro e w4 hr4
  rw [← HL2.out] at hr4
  obtain ⟨p4, c4, rfl, g4, b4⟩ := hr4.given
  have G4 := Lib.hid g4; have B4 := Lib.hid b4; clear hr4 g4 b4
  go_wp2_with fail
  refine (refRising_any p1 q c1 d l m w4 (G1.out.below (thenBelow (thenBelow B2.out B3.out) B4.out)) (ML.out.below (thenBelow B13.out B4.out)) MW.out (by omega)).mono ?_
  intro e w5 hr5
  rw [← HL2.out] at hr5
  obtain ⟨p5, c5, rfl, g5, b5⟩ := hr5.given
  have G5 := Lib.hid g5; have B5 := Lib.hid b5; clear hr5 g5 b5
  go_wp2_with fail
  refine (equal_any p4 p5 _ _ c4 c5 L2 L2 w5 (G4.out.lies.below B5.out) G5.out.lies rfl rfl).mono ?_
  rintro e w' ⟨rfl, rfl⟩
  have B15 := Lib.hid (thenBelow (thenBelow B13.out B4.out) B5.out)
  go_wp2_with fail
  refine (equal_any p p1 _ _ c c1 l l w5 (G.out.lies.below B15.out) (G1.out.lies.below (thenBelow (thenBelow (thenBelow B2.out B3.out) B4.out) B5.out)) rfl rfl).mono ?_
  rintro e w' ⟨rfl, rfl⟩
  go_wp2_with fail
  refine (awake_any w5).mono ?_
  rintro e w6 ⟨rfl, b6⟩
  have B6 := Lib.hid b6
  go_wp2_with fail
  go_ret
  exact ⟨rfl, thenBelow B15.out B6.out⟩
end Go.Proofs.Ytgdhaijaiogiiaa
