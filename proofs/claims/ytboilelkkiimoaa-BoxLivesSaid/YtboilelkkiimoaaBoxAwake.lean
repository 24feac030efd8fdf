/- The example that each law of layer 7 ends with. -/
import Derived.Test.YtboilelkkiimoaaBoxIsI
namespace Go.Proofs.Ytboilelkkiimoaa
open Go Go.RowKit Go.Conc

theorem PutI_ok (a C cap B : Nat) (gs : List Nat) (v : Int) (w : World) (h : Bx w a C cap gs) (hr : gs.length < cap) (hB : B ≤ C) (hw : B ≤ w.heap.size) : Calls Try.prog 8 #[.pointer (some ⟨a, 0, none⟩), .int .i64 v] w fun e w' => e = .returned (.bool true) ∧ (∃ g, w.heap.size ≤ g ∧ w'.cell? ⟨g, 0, none⟩ = some (.int .i64 v) ∧ Bx w' a C cap (gs ++ [g])) ∧ Below B w w' := by
  refine (PutI_yes a C cap gs v w h hr).mono ?_
  rintro e w' ⟨rfl, g, hg, hc, hb, hgr⟩
  exact ⟨rfl, ⟨g, hg, hc, hb⟩, h.under hgr hB hw⟩

set_option maxHeartbeats 1000000 in
theorem awake7 (w : World) : Calls Try.prog 17 #[] w (Yes w) := by
  have N := Lib.hid (newI 2 2 w (by omega) (by omega))
  go_enter Try.func17, Try.ntmps17
  go_wp2_with fail
  refine N.out.mono ?_
  rintro e w1 ⟨a, C, rfl, ha, hC, hb, hbel⟩
  have P1 := Lib.hid (PutI_ok a C 2 w.heap.size [] 1 w1 hb (by simp) hC hbel.size)
  have B1 := Lib.hid hbel
  clear hb hbel N
  go_wp2_with fail
  refine P1.out.mono ?_
  rintro e w2 ⟨rfl, ⟨g1, _, _, hb2⟩, hbel2⟩
  have B2 := Lib.hid (B1.out.trans hbel2)
  have P2 := Lib.hid (PutI_ok a C 2 w.heap.size _ 2 w2 hb2 (by simp) hC B2.out.size)
  clear hb2 hbel2 P1
  go_wp2_with fail
  refine P2.out.mono ?_
  rintro e w3 ⟨rfl, ⟨g2, _, _, hb3⟩, hbel3⟩
  have B3 := Lib.hid (B2.out.trans hbel3)
  have P3 := Lib.hid (PutI_no a C 2 _ 3 w3 hb3 (by simp))
  have HB3 := Lib.hid hb3
  clear hb3 hbel3 P2
  go_wp2_with fail
  refine P3.out.mono ?_
  rintro e w4 ⟨rfl, hbel4⟩
  have B4 := Lib.hid (B3.out.trans (hbel4.mono B3.out.size))
  have L := Lib.hid (lenI a C 2 _ w4 (HB3.out.below hbel4))
  have R := Lib.hid (roomI a C 2 _ w4 (HB3.out.below hbel4) (by omega))
  simp only [List.nil_append, List.cons_append, List.length_cons, List.length_nil, Nat.zero_add, Nat.reduceAdd, Nat.reduceSub] at L R
  clear hbel4 P3 HB3
  go_wp2_with fail
  refine L.out.mono ?_
  rintro e w' ⟨rfl, rfl⟩
  go_wp2_with fail
  refine R.out.mono ?_
  rintro e w' ⟨rfl, rfl⟩
  go_wp2
  go_ret
  exact ⟨rfl, B4.out⟩
end Go.Proofs.Ytboilelkkiimoaa
