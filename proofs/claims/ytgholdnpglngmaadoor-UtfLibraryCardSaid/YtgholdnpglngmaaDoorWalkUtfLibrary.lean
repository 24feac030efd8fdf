/- The walk of UtfLibrary: a text is UTF-8 just if Go's library says so, and has as many signs as it says. -/
import Derived.Test.YtgholdnpglngmaaDoorUtfTexts
import Derived.Test.YtgholdnpglngmaaDoorUtfLib
import Derived.Test.YtgholdnpglngmaaDoorUtfLaidL

import Derived.Shelf.Unicode.ValidAny
import Derived.Shelf.Utf8.RuneCount
namespace Go.Proofs.YtgholdnpglngmaaDoor
open Go Go.RowKit
set_option linter.unusedVariables false

theorem below_iter (w : World) (s : ByteArray) (pos : Nat) : Below w.heap.size w (w.iter s pos) := (Below.refl _ _).alloc (Nat.le_refl _) _
set_option maxHeartbeats 2000000 in
set_option maxRecDepth 100000 in
theorem utfLibrary_walk (s : ByteArray) (W : World) (hs : s.size ≤ 140737488351232) (hT : LaidU W) :
    Calls Tryd.prog 3 #[.string s] W (Yes W) := by
  obtain ⟨hT, hU⟩ := hT
  have HT := Lib.hid hT
  have HU := Lib.hid hU
  by_cases hbig : s.size ≤ 4096
  · have hbig' : ¬ (s.size : Int) > 4096 := by omega
    have V1 := valid_is s W hs hT
    rw [Utf.valid_lib] at V1
    have V2 : Calls Tryd.prog 6 #[.string s] W _ := Any.utf8_ValidString Tryd.laysValid s W (by omega) hU
    have C1 := fun w h => count_is s w (by omega) h
    simp only [Utf.count_lib] at C1
    have C2 : ∀ w, Calls Tryd.prog 8 #[.string s] w _ := fun w => Any.utf8_RuneCountInString Tryd.lays195 s w (by omega)
    clear hT hU
    generalize Lib.validD s.data.toList = vv at V1 V2
    generalize Lib.runeCount s = cc at C1 C2
    have HV1 := Lib.hid V1; have HV2 := Lib.hid V2; have HC1 := Lib.hid C1; have HC2 := Lib.hid C2
    clear V1 V2 C1 C2
    go_enter Tryd.func3, Tryd.ntmps3
    go_wp2_with fail
    refine HV1.out.mono ?_
    rintro e w' ⟨rfl, rfl⟩
    clear HV1
    go_wp2_with fail
    refine HV2.out.mono ?_
    rintro e w1 ⟨rfl, hb1⟩
    have B1 := Lib.hid hb1
    have T1 := Lib.hid (HT.out.below hb1)
    clear HV2 hb1
    go_wp2_with fail
    refine (HC1.out w1 T1.out).mono ?_
    rintro e w' ⟨rfl, rfl⟩
    clear HC1
    go_wp2_with fail
    refine (HC2.out w1).mono ?_
    rintro e w2 ⟨rfl, pos, rfl⟩
    have bi : Below w1.heap.size w1 (w1.iter s pos) := below_iter w1 s pos
    have B2 := Lib.hid (thenBelow B1.out bi)
    have AW := Lib.hid (awake3 _ (HT.out.below B2.out))
    generalize w1.iter s pos = w2 at B2 AW ⊢
    clear HC2 bi
    go_wp2_with fail
    refine AW.out.mono ?_
    rintro e w' ⟨rfl, rfl⟩
    go_wp2
    go_ret
    exact ⟨rfl, B2.out⟩
  · have hbig' : (s.size : Int) > 4096 := by omega
    have AW := Lib.hid (awake3 W hT)
    clear hT hU
    go_enter Tryd.func3, Tryd.ntmps3
    go_wp2_with fail
    refine AW.out.mono ?_
    rintro e w' ⟨rfl, rfl⟩
    go_wp2
    go_ret
    exact ⟨rfl, Below.refl _ _⟩
end Go.Proofs.YtgholdnpglngmaaDoor
