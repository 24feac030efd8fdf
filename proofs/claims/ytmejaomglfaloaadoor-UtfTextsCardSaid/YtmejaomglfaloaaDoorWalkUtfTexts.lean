/- The walk of UtfTexts. -/
import Derived.Test.YtmejaomglfaloaaDoorUtfTexts
import Derived.Test.YtmejaomglfaloaaDoorWalkUtfBack
namespace Go.Proofs.YtmejaomglfaloaaDoor
open Go Go.RowKit

set_option maxHeartbeats 2000000 in
set_option maxRecDepth 100000 in
theorem utfTexts_walk (s : ByteArray) (n : Int) (W : World) (hs : s.size ≤ 140737488351232) (hn : (Lit.int .i64 n).wf = true) (hT : Shapes W) :
    Calls Tryd.prog 4 #[.string s, .int .i64 n] W (Yes W) := by
  have hnr := int_rangeB hn
  have HT := Lib.hid hT
  by_cases hbig : s.size ≤ 4096
  · have hbig' : ¬ (s.size : Int) > 4096 := by omega
    have V1 := Lib.hid (valid_is s W hs hT)
    have C1 := Lib.hid (fun w h => count_is s w (by omega) h)
    have K1 := Lib.hid (fun w h => cut_exact s n w (by omega) hnr h)
    have V2 := Lib.hid (refValid_is s W (by omega))
    have C2 := Lib.hid (fun w => refCount_is s w (by omega))
    have K2 := Lib.hid (fun w => refCut_is s n w (by omega))
    clear hT hn
    generalize Utf.valid s = vv at V1 V2
    generalize (Utf.ends s s.size 0).length = cc at C1 C2
    generalize s.extract 0 (Utf.cutF s n s.size 0) = kk at K1 K2
    go_enter Tryd.func4, Tryd.ntmps4
    go_wp2_with fail
    refine V1.out.mono ?_
    rintro e w' ⟨rfl, rfl⟩
    clear V1
    go_wp2_with fail
    refine V2.out.mono ?_
    rintro e w1 ⟨rfl, hb1⟩
    have B1 := Lib.hid hb1
    have T1 := Lib.hid (HT.out.below hb1)
    clear V2 hb1
    go_wp2_with fail
    refine (C1.out w1 T1.out).mono ?_
    rintro e w' ⟨rfl, rfl⟩
    clear C1
    go_wp2_with fail
    refine (C2.out w1).mono ?_
    rintro e w2 ⟨rfl, hb2⟩
    have B2 := Lib.hid (thenBelow B1.out hb2)
    have T2 := Lib.hid (HT.out.below B2.out)
    clear C2 hb2
    go_wp2_with fail
    refine (K1.out w2 T2.out).mono ?_
    rintro e w3 ⟨rfl, hb3⟩
    have B3 := Lib.hid (thenBelow B2.out hb3)
    clear K1 hb3
    go_wp2_with fail
    refine (K2.out w3).mono ?_
    rintro e w4 ⟨rfl, hb4⟩
    have B4 := Lib.hid (thenBelow B3.out hb4)
    have AW := Lib.hid (awake3 w4 (HT.out.below B4.out))
    clear K2 hb4
    go_wp2_with fail
    refine AW.out.mono ?_
    rintro e w' ⟨rfl, rfl⟩
    go_wp2_with fail
    go_ret
    exact ⟨ret_bool (by first | rfl | (simp; done)), B4.out⟩
  · have hbig' : (s.size : Int) > 4096 := by omega
    have AW := Lib.hid (awake3 W (HT.out))
    clear hT hn
    go_enter Tryd.func4, Tryd.ntmps4
    go_wp2_with fail
    refine AW.out.mono ?_
    rintro e w' ⟨rfl, rfl⟩
    go_wp2_with fail
    go_ret
    exact ⟨rfl, Below.refl _ _⟩
end Go.Proofs.YtmejaomglfaloaaDoor
