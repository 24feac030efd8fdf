/- The example of layer 13. -/
import Derived.Test.YtffjbgbcaijlnaaDoorPastTrim2
namespace Go.Proofs.YtffjbgbcaijlnaaDoor
open Go Go.RowKit
set_option linter.unusedVariables false
set_option maxRecDepth 1000000

def ex1 : Ev := ⟨0, 1, 0, 1, ByteArray.empty, 0, ByteArray.empty, []⟩
def ex2' : Ev := ⟨0, 2, 0, 2, ByteArray.empty, 0, ByteArray.empty, []⟩
def ex3 : Ev := ⟨1, 1, 0, 1, ByteArray.empty, 0, ByteArray.empty, []⟩
def exL : List EvP := [⟨ex1, none, 0⟩, ⟨ex2', none, 0⟩, ⟨ex3, none, 0⟩]
theorem exL_at (w : World) : EvsAt (w.alloc (.cells (ecl exL).toArray 26)) (some ⟨w.heap.size, 0, none⟩) exL where
  row := fun _ => ⟨w.heap.size, 0, rfl, range_of_block (cs := (ecl exL).toArray) (heap_alloc_new w _)⟩
  ok := fun x hx => by
    simp only [exL, List.mem_cons, List.not_mem_nil, or_false] at hx
    rcases hx with rfl | rfl | rfl
    all_goals exact ⟨fun h => absurd rfl h, fun _ => rfl⟩
  none := fun e => by cases e
theorem exT_kept : (trimOf (evs exL) (fun _ => 0) 1).2.1 = [ex2', ex3] := by rfl
theorem exT_floor : (trimOf (evs exL) (fun _ => 0) 1).2.2 0 = 1 := by decide +kernel
theorem builtP0 (p : Option Addr) (n c : Nat) (w : World) : (Instr.build 76 #[(0, .slice p n c)]).run Tryd.prog w = .ok (.agg (pcs (.slice p n c) (fun _ => 0))) w := run_build w _ _ _ (by kernel_rfl)
set_option maxHeartbeats 8000000 in
set_option maxRecDepth 1000000 in
theorem awake13 (w : World) : Calls Tryd.prog 19 #[] w (Yes w) := by
  have B1 := Lib.hid (below_alloc w (.cells (ecl exL).toArray 26))
  have TR : Hid (∀ W, Below (w.alloc (.cells (ecl exL).toArray 26)).heap.size (w.alloc (.cells (ecl exL).toArray 26)) W → Calls Tryd.prog 48 #[.agg (pcs (.slice (some ⟨w.heap.size, 0, none⟩) 3 3) (fun _ => 0)), .int .i64 1] W (PastR W [ex2', ex3] (trimOf (evs exL) (fun _ => 0) 1).2.2)) := Lib.hid fun W hW => by
    have := trim_is (some ⟨w.heap.size, 0, none⟩) 3 exL (fun _ => 0) 1 W ((exL_at w).below hW) (fun a ha => by obtain rfl := Option.some.inj ha; exact ⟨_, _, rfl⟩) (by decide) (fun x hx => by
      simp only [exL, List.mem_cons, List.not_mem_nil, or_false] at hx
      rcases hx with rfl | rfl | rfl <;> decide) ⟨by decide, by decide⟩
    rw [exT_kept] at this
    exact this
  go_enter Tryd.func19, Tryd.ntmps19
  go_wp2_with (first | refine wpList_pbuild (by rfl) _ rfl (pcs (.slice (some ⟨w.heap.size, 0, none⟩) 3 3) (fun _ => 0)) (by simp only [List.map_toArray, List.map_cons, List.map_nil]; exact builtP0 _ _ _ _) ?_ | refine wpList_galloc _ zeroP rfl rfl ?_)
  intro g1 w2 lg1 hg1 hb2
  have b2 : Below (w.alloc (.cells (ecl exL).toArray 26)).heap.size (w.alloc (.cells (ecl exL).toArray 26)) w2 := by rw [World.size_alloc]; exact hb2
  have B2 := Lib.hid (thenBelow B1.out b2)
  have hw1' : (w.alloc (.cells (ecl exL).toArray 26)).heap.size ≤ g1 := by rw [World.size_alloc]; exact lg1
  have hw1 : w.heap.size ≤ g1 := Nat.le_trans B1.out.size hw1'
  have BB := Lib.hid b2
  clear hb2 b2 lg1
  go_wp2_with (refine wpList_gstore rfl _ _ rfl g1 rfl (pcs (.slice (some ⟨w.heap.size, 0, none⟩) 3 3) (fun _ => 0)) rfl _ _ hg1 (sizeP _ _) (by rw [pcs_size]; rfl) (pcs_oneV _ ⟨_, _, _, rfl⟩) ?_)
  intro w3 p3 g3
  have B3 := Lib.hid (B2.out.trans (grown_below g3 B2.out.size hw1))
  have BB3 := Lib.hid (BB.out.trans (grown_below g3 BB.out.size hw1'))
  have P3 : Hid (Px w3 g1 (.slice (some ⟨w.heap.size, 0, none⟩) 3 3) (fun _ => 0)) := Lib.hid p3
  clear hg1 p3 g3
  go_wp2_with (refine wpList_gload rfl _ rfl g1 0 rfl (pcs (.slice (some ⟨w.heap.size, 0, none⟩) 3 3) (fun _ => 0)).toList P3.out.whole _ Tryd.underlying76 rfl (sizePl _ _) ?_)
  refine (TR.out w3 BB3.out).mono ?_
  rintro e w4 ⟨v, K, rfl, hK, hev, hb4⟩
  have hf0 := exT_floor
  generalize (trimOf (evs exL) (fun _ => 0) 1).2.2 = fz at hf0 ⊢
  have B4 := Lib.hid (thenBelow B3.out hb4)
  have hKl : K.length = 2 := by have := congrArg List.length hev; simpa [evs] using this
  obtain ⟨q, cq, rfl, hcq, hEK, _⟩ := hK.at
  have HEK := Lib.hid hEK; have HEV := Lib.hid hev; have HF0 := Lib.hid hf0
  obtain ⟨b, o, rfl, hlt, hr⟩ := hEK.at (show 0 < K.length by omega)
  have hk3 : w4.cell? ⟨b, o + 3, none⟩ = some (.int .i64 2) := by
    have h1 := hr 3 _ rfl
    have h2 : K[0].e = ex2' := by
      have := congrArg (·[0]?) hev
      simpa [evs, show 0 < K.length by omega] using this
    rw [h2] at h1
    simpa [ex2'] using h1
  have HK3 := Lib.hid hk3; have HKL := Lib.hid hKl
  rw [hKl]
  clear hK hEK hev hb4 hr hk3 hf0 hKl
  go_wp2_with (refine wpList_galloc _ zeroP rfl rfl ?_)
  intro g5 w5 lg5 hg5 hb5
  have B5 := Lib.hid (thenBelow B4.out hb5)
  have hw5 : w.heap.size ≤ g5 := Nat.le_trans B4.out.size lg5
  have k5 := Lib.hid ((hb5.cell (p := ⟨b, o + 3, none⟩) hlt).trans HK3.out)
  have E5 := Lib.hid (HEK.out.below hb5)
  have hb5lt : b < g5 := Nat.lt_of_lt_of_le hlt lg5
  have hz45 := hb5.size
  have HB5 := Lib.hid hb5
  clear hb5
  go_wp2_with (refine wpList_gstore rfl _ _ rfl g5 rfl (pcs (.slice (some ⟨b, o, none⟩) 2 cq) fz) rfl _ _ hg5 (sizeP _ _) (by rw [pcs_size]; rfl) (pcs_oneV _ ⟨_, _, _, rfl⟩) ?_)
  intro w6 p6 g6
  have B6 := Lib.hid (B5.out.trans (grown_below g6 B5.out.size hw5))
  have P6 : Hid (Px w6 g5 (.slice (some ⟨b, o, none⟩) 2 cq) fz) := Lib.hid p6
  have c3 := g6.cell k5.out (by simp; omega)
  have b46 : Below w4.heap.size w4 w6 := HB5.out.trans (grown_below g6 hz45 lg5)
  have DR : Hid (Calls Tryd.prog 49 #[.agg (pcs (.slice (some ⟨b, o, none⟩) 2 cq) fz)] w6 fun e w' => e = .returned (.int .i64 1) ∧ Below w6.heap.size w6 w') := Lib.hid (by
    have h1 := drops_is (some ⟨b, o, none⟩) cq K fz w6 (HEK.out.below b46) (by rw [HKL.out]; decide)
    rw [HKL.out, HEV.out] at h1
    exact h1)
  have s0 := P6.out.slot
  have s1 := P6.out.cell 0 (by omega)
  rw [HF0.out] at s1
  have s1' : w6.cell? ⟨g5, 1, none⟩ = some (.int .i64 1) := s1
  clear s1 p6 g6 b46 hg5
  go_wp2_with (refine wpList_gloadG (by rfl) _ rfl g5 0 rfl (pcs (.slice (some ⟨b, o, none⟩) 2 cq) fz).toList P6.out.whole _ Tryd.underlying76 rfl (sizePl _ _) ?_)
  refine DR.out.mono ?_
  rintro e w7 ⟨rfl, hb7⟩
  have B7 := Lib.hid (thenBelow B6.out hb7)
  clear hb7 DR
  go_wp2
  go_ret
  exact ⟨rfl, B7.out⟩
end Go.Proofs.YtffjbgbcaijlnaaDoor
