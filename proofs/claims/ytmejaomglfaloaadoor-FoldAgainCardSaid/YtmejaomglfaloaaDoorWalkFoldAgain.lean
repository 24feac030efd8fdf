/- The walk of FoldAgain. -/
import Derived.Test.YtmejaomglfaloaaDoorFoldTexts
import Derived.Test.YtmejaomglfaloaaDoorFoldLaid
namespace Go.Proofs.YtmejaomglfaloaaDoor
open Go Go.RowKit

set_option maxHeartbeats 2000000 in
set_option maxRecDepth 100000 in
theorem foldAgain_walk (s : ByteArray) (W : World) (hs : s.size ≤ 140737488351232) (hT : Tables W) :
    Calls Tryd.prog 11 #[.string s] W (Yes W) := by
  have HT := Lib.hid hT
  by_cases hbig : s.size ≤ 4096
  · have hbig' : ¬ (s.size : Int) > 4096 := by omega
    have F1 := Lib.hid (foldText_is s W (by omega) hT.shapes hT.great)
    have V1 := Lib.hid (fun w h => valid_is s w (by omega) h)
    have C1 := Lib.hid (fun w h => count_is s w (by omega) h)
    obtain ⟨X, hX⟩ : ∃ X : ByteArray, X = ⟨(Utf.ft s s.size 0).toArray⟩ := ⟨_, rfl⟩
    have hXs : X.size ≤ 16384 := by
      have := Utf.ft_len s s.size 0 (Nat.zero_le _)
      rw [hX]
      show (Utf.ft s s.size 0).toArray.size ≤ _
      rw [List.size_toArray]; omega
    have AG : Hid (Utf.valid s = true → _) := fun h => Utf.again s h X hX
    rw [← hX] at F1
    have F2 := Lib.hid (fun w h k => foldText_is X w (by omega) h k)
    have V2 := Lib.hid (fun w h => valid_is X w (by omega) h)
    have C2 := Lib.hid (fun w h => count_is X w (by omega) h)
    clear hT hX
    generalize (⟨(Utf.ft X X.size 0).toArray⟩ : ByteArray) = Y at F2 AG
    generalize (Utf.ends X X.size 0).length = cX at C2 AG
    generalize (Utf.ends s s.size 0).length = cs at C1 AG
    generalize Utf.valid X = vX at V2 AG
    cases hv : Utf.valid s with
    | false =>
      rw [hv] at V1
      clear AG hv
      go_enter Tryd.func11, Tryd.ntmps11
      go_wp2_with fail
      refine F1.out.mono ?_
      rintro e w1 ⟨rfl, hb1⟩
      have B1 := Lib.hid hb1
      have T1 := Lib.hid (HT.out.below hb1)
      have AW := Lib.hid (awake4 w1 T1.out.shapes T1.out.great T1.out.letters)
      clear F1 hb1
      go_wp2_with fail
      refine (V1.out w1 T1.out.shapes).mono ?_
      rintro e w' ⟨rfl, rfl⟩
      go_wp2_with fail
      refine AW.out.mono ?_
      rintro e w3 ⟨rfl, hb3⟩
      have B3 := Lib.hid (thenBelow B1.out hb3)
      clear AW hb3
      go_wp2_with fail
      go_ret
      exact ⟨ret_bool (by first | rfl | (simp; done)), B3.out⟩
    | true =>
      obtain ⟨a1, a2, a3⟩ := AG.out hv
      subst a1; subst a2; subst a3
      rw [hv] at V1
      clear AG hv
      go_enter Tryd.func11, Tryd.ntmps11
      go_wp2_with fail
      refine F1.out.mono ?_
      rintro e w1 ⟨rfl, hb1⟩
      have B1 := Lib.hid hb1
      have T1 := Lib.hid (HT.out.below hb1)
      clear F1 hb1
      go_wp2_with fail
      refine (V1.out w1 T1.out.shapes).mono ?_
      rintro e w' ⟨rfl, rfl⟩
      go_wp2_with fail
      refine (F2.out w1 T1.out.shapes T1.out.great).mono ?_
      rintro e w2 ⟨rfl, hb2⟩
      have B2 := Lib.hid (thenBelow B1.out hb2)
      have T2 := Lib.hid (HT.out.below B2.out)
      have AW := Lib.hid (awake4 w2 T2.out.shapes T2.out.great T2.out.letters)
      clear F2 hb2
      go_wp2_with fail
      refine (V2.out w2 T2.out.shapes).mono ?_
      rintro e w' ⟨rfl, rfl⟩
      go_wp2_with fail
      refine (C2.out w2 T2.out.shapes).mono ?_
      rintro e w' ⟨rfl, rfl⟩
      go_wp2_with fail
      refine (C1.out w2 T2.out.shapes).mono ?_
      rintro e w' ⟨rfl, rfl⟩
      go_wp2_with fail
      refine AW.out.mono ?_
      rintro e w3 ⟨rfl, hb3⟩
      have B3 := Lib.hid (thenBelow B2.out hb3)
      clear AW hb3
      go_wp2_with fail
      go_ret
      exact ⟨ret_bool (by first | rfl | (simp; done)), B3.out⟩
  · have hbig' : (s.size : Int) > 4096 := by omega
    have AW := Lib.hid (awake4 W hT.shapes hT.great hT.letters)
    clear hT
    go_enter Tryd.func11, Tryd.ntmps11
    go_wp2_with fail
    refine AW.out.mono ?_
    rintro e w3 ⟨rfl, hb3⟩
    have B3 := Lib.hid hb3
    clear AW hb3
    go_wp2_with fail
    go_ret
    exact ⟨ret_bool (by first | rfl | (simp; done)), B3.out⟩
end Go.Proofs.YtmejaomglfaloaaDoor
