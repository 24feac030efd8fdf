/- The walk of TokenMarks. -/
import Derived.Test.YtldfomggeleolaaDoorTokAwake
import Derived.Test.YtldfomggeleolaaDoorTokMarkP
import Derived.Test.YtldfomggeleolaaDoorTokMarkR
namespace Go.Proofs.YtldfomggeleolaaDoor
open Go Go.RowKit
set_option linter.unusedVariables false

set_option maxHeartbeats 4000000 in
set_option maxRecDepth 100000 in
theorem tokenMarks_walk (s : ByteArray) (p : Option Addr) (c : Nat) (ws : List ByteArray) (Bf Bh : ByteArray) (W : World) (hs : s.size ≤ 140737488351232) (hw : CameS W p c ws) (hBf : Bf.size ≤ 140737488351232) (hBh : Bh.size ≤ 140737488351232) (hT : Tables W) :
    Calls Tryd.prog 4 #[.string s, .slice p ws.length c, .string Bf, .string Bh] W (Yes W) := by
  have HT := Lib.hid hT; have HW := Lib.hid hw
  have hle := hw.le; have hre := hw.reach
  clear hw
  by_cases h1 : s.size ≤ 2048
  · have h1' : ¬ (s.size : Int) > 2048 := by omega
    by_cases h2 : ws.length ≤ 20
    · have h2' : ¬ (ws.length : Int) > 20 := by omega
      by_cases h3 : Bf.size ≤ 20
      · have h3' : ¬ (Bf.size : Int) > 20 := by omega
        by_cases h4 : Bh.size ≤ 20
        · have h4' : ¬ (Bh.size : Int) > 20 := by omega
          have M1 := Lib.hid (fun w h1' h => tokMark_is s p c ws Bf Bh w (by omega) h1' h2 HW.out.each h3 h4 h)
          have M2 := Lib.hid (fun w h1' => refMark15_is s p c ws Bf Bh w (by omega) h1' h2 h3 h4)
          have M3 := Lib.hid (fun w h1' h => tokMark_is s p c ws ⟨#[]⟩ ⟨#[]⟩ w (by omega) h1' h2 HW.out.each (by decide) (by decide) h)
          have hbare : (⟨(Tok.marked s (isOne s ws) (⟨#[]⟩ : ByteArray).data.toList (⟨#[]⟩ : ByteArray).data.toList).toArray⟩ : ByteArray) = s := Tok.marked_bare s (isOne s ws)
          have hsame : (fun x => oneOf (Tok.term s x) ws) = isOne s ws := rfl
          rw [hsame] at M2
          rw [hbare] at M3
          clear hT hbare hsame
          generalize (⟨(Tok.marked s (isOne s ws) Bf.data.toList Bh.data.toList).toArray⟩ : ByteArray) = R at M1 M2
          go_enter Tryd.func4, Tryd.ntmps4
          go_wp2_with fail
          refine (M1.out W HW.out.lies HT.out).mono ?_
          rintro e w1 ⟨rfl, hb1⟩
          have B1 := Lib.hid hb1
          clear hb1 M1
          go_wp2_with fail
          refine (M2.out w1 (HW.out.lies.below B1.out)).mono ?_
          rintro e w2 ⟨rfl, hb1⟩
          have B2 := Lib.hid (thenBelow B1.out hb1)
          clear hb1 M2 B1
          go_wp2_with fail
          refine (M3.out w2 (HW.out.lies.below B2.out) (HT.out.below B2.out)).mono ?_
          rintro e w3 ⟨rfl, hb1⟩
          have B3 := Lib.hid (thenBelow B2.out hb1)
          clear hb1 M3 B2
          go_wp2_with fail
          refine (awake15 w3 (HT.out.below B3.out)).mono ?_
          rintro e w4 ⟨rfl, hb1⟩
          have B4 := Lib.hid (thenBelow B3.out hb1)
          clear hb1 B3
          go_wp2_with fail
          go_ret
          exact ⟨ret_bool (by first | rfl | (simp; done)), B4.out⟩
        · have h4' : (Bh.size : Int) > 20 := by omega
          have AW := Lib.hid (awake15 W hT)
          clear hT
          go_enter Tryd.func4, Tryd.ntmps4
          go_wp2_with fail
          refine AW.out.mono ?_
          rintro e w3 ⟨rfl, hb3⟩
          have B3 := Lib.hid hb3
          clear AW hb3
          go_wp2_with fail
          go_ret
          exact ⟨ret_bool (by first | rfl | (simp; done)), B3.out⟩
      · have h3' : (Bf.size : Int) > 20 := by omega
        have AW := Lib.hid (awake15 W hT)
        clear hT
        go_enter Tryd.func4, Tryd.ntmps4
        go_wp2_with fail
        refine AW.out.mono ?_
        rintro e w3 ⟨rfl, hb3⟩
        have B3 := Lib.hid hb3
        clear AW hb3
        go_wp2_with fail
        go_ret
        exact ⟨ret_bool (by first | rfl | (simp; done)), B3.out⟩
    · have h2' : (ws.length : Int) > 20 := by omega
      have AW := Lib.hid (awake15 W hT)
      clear hT
      go_enter Tryd.func4, Tryd.ntmps4
      go_wp2_with fail
      refine AW.out.mono ?_
      rintro e w3 ⟨rfl, hb3⟩
      have B3 := Lib.hid hb3
      clear AW hb3
      go_wp2_with fail
      go_ret
      exact ⟨ret_bool (by first | rfl | (simp; done)), B3.out⟩
  · have h1' : (s.size : Int) > 2048 := by omega
    have AW := Lib.hid (awake15 W hT)
    clear hT
    go_enter Tryd.func4, Tryd.ntmps4
    go_wp2_with fail
    refine AW.out.mono ?_
    rintro e w3 ⟨rfl, hb3⟩
    have B3 := Lib.hid hb3
    clear AW hb3
    go_wp2_with fail
    go_ret
    exact ⟨ret_bool (by first | rfl | (simp; done)), B3.out⟩
end Go.Proofs.YtldfomggeleolaaDoor
