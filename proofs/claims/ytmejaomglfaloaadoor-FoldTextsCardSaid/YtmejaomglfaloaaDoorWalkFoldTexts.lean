/- The walk of FoldTexts. -/
import Derived.Test.YtmejaomglfaloaaDoorFoldTexts
import Derived.Test.YtmejaomglfaloaaDoorFoldLaid
namespace Go.Proofs.YtmejaomglfaloaaDoor
open Go Go.RowKit

set_option maxHeartbeats 2000000 in
set_option maxRecDepth 100000 in
theorem foldTexts_walk (s : ByteArray) (W : World) (hs : s.size ≤ 140737488351232) (hT : Tables W) :
    Calls Tryd.prog 9 #[.string s] W (Yes W) := by
  have HT := Lib.hid hT
  by_cases hbig : s.size ≤ 4096
  · have hbig' : ¬ (s.size : Int) > 4096 := by omega
    have F1 := Lib.hid (foldText_is s W (by omega) hT.shapes hT.great)
    have F2 := Lib.hid (fun w => refText_is s w (by omega))
    clear hT
    generalize (⟨(Utf.ft s s.size 0).toArray⟩ : ByteArray) = X at F1 F2
    go_enter Tryd.func9, Tryd.ntmps9
    go_wp2_with fail
    refine F1.out.mono ?_
    rintro e w1 ⟨rfl, hb1⟩
    have B1 := Lib.hid hb1
    clear F1 hb1
    go_wp2_with fail
    refine (F2.out w1).mono ?_
    rintro e w2 ⟨rfl, hb2⟩
    have B2 := Lib.hid (thenBelow B1.out hb2)
    have T2 := Lib.hid (HT.out.below B2.out)
    have AW := Lib.hid (awake4 w2 T2.out.shapes T2.out.great T2.out.letters)
    clear F2 hb2
    go_wp2_with fail
    refine AW.out.mono ?_
    rintro e w3 ⟨rfl, hb3⟩
    have B3 := Lib.hid (thenBelow B2.out hb3)
    clear AW hb3
    go_wp2_with fail
    go_ret
    exact ⟨ret_bool (by first | rfl | (simp; done)), B3.out⟩
  · have hbig' : (s.size : Int) > 4096 := by omega
    have AW := Lib.hid (awake4 W hT.shapes hT.great hT.letters)
    clear hT
    go_enter Tryd.func9, Tryd.ntmps9
    go_wp2_with fail
    refine AW.out.mono ?_
    rintro e w3 ⟨rfl, hb3⟩
    have B3 := Lib.hid hb3
    clear AW hb3
    go_wp2_with fail
    go_ret
    exact ⟨ret_bool (by first | rfl | (simp; done)), B3.out⟩
end Go.Proofs.YtmejaomglfaloaaDoor
