/- The walk of DotsDots. -/
import Derived.Test.YtkejonihciliaaaDotQuiet
namespace Go.Proofs.Ytkejonihciliaaa
open Go Go.RowKit
set_option linter.unusedVariables false

theorem cmpI_range (x y : Int) : -1 ≤ cmpI x y ∧ cmpI x y ≤ 1 := by
  unfold cmpI
  by_cases h : x < y
  · rw [if_pos h]; omega
  · rw [if_neg h]
    by_cases h2 : x > y
    · rw [if_pos h2]; omega
    · rw [if_neg h2]; omega
theorem cmpD_range (r n r' n' : Int) : -1 ≤ cmpD r n r' n' ∧ cmpD r n r' n' ≤ 1 := by
  unfold cmpD orI
  have h1 := cmpI_range r r'
  have h2 := cmpI_range n n'
  by_cases h : cmpI r r' = 0
  · rw [if_pos h]; exact h2
  · rw [if_neg h]; exact h1

set_option maxHeartbeats 8000000 in
set_option maxRecDepth 100000 in
theorem dotsDots_walk (A B : List Value) (f : Nat → Int) (W : World) (hA : IsDot A) (hB : IsDot B) (hf : Wide f) : Calls Try.prog 3 #[.agg A.toArray, .agg B.toArray, .agg (vf f)] W (Yes W) := by
  obtain ⟨r, n, rfl, _⟩ := hA
  obtain ⟨r', n', rfl, _⟩ := hB
  clear hf
  go_enter Try.func3, Try.ntmps3
  go_wp2_with (refine wpList_gbox rfl _ rfl (dcs r n) rfl ?_)
  intro ga w1 la hA hb1
  have B1 := Lib.hid hb1
  have A0 := Lib.hid ((cell_of_row _ ga 0 _ _ _ hA).trans (show _ = some (.int .i64 r) from rfl))
  have A1 := Lib.hid ((cell_of_row _ ga 1 _ _ _ hA).trans (show _ = some (.int .i64 n) from rfl))
  clear hA hb1
  go_wp2_with (refine wpList_gbox rfl _ rfl (dcs r' n') rfl ?_)
  intro gb w2 lb hB hb2
  have B2 := Lib.hid (thenBelow B1.out hb2)
  have C0 := Lib.hid ((cell_of_row _ gb 0 _ _ _ hB).trans (show _ = some (.int .i64 r') from rfl))
  have C1 := Lib.hid ((cell_of_row _ gb 1 _ _ _ hB).trans (show _ = some (.int .i64 n') from rfl))
  have A20 := Lib.hid ((hb2.cell (p := ⟨ga, 0, none⟩) (World.block_lt_of_cell? _ _ A0.out)).trans A0.out)
  have A21 := Lib.hid ((hb2.cell (p := ⟨ga, 1, none⟩) (World.block_lt_of_cell? _ _ A1.out)).trans A1.out)
  clear hB hb2
  go_wp2_with (refine wpList_vbox vecI rfl _ rfl f rfl ?_)
  intro gv w3 lv rv hb3
  have B3 := Lib.hid (thenBelow B2.out hb3); have RV3 := Lib.hid rv
  have a0 := (hb3.cell (p := ⟨ga, 0, none⟩) (World.block_lt_of_cell? _ _ A20.out)).trans A20.out
  have a1 := (hb3.cell (p := ⟨ga, 1, none⟩) (World.block_lt_of_cell? _ _ A21.out)).trans A21.out
  have b0 := (hb3.cell (p := ⟨gb, 0, none⟩) (World.block_lt_of_cell? _ _ C0.out)).trans C0.out
  have b1 := (hb3.cell (p := ⟨gb, 1, none⟩) (World.block_lt_of_cell? _ _ C1.out)).trans C1.out
  have A30 := Lib.hid a0; have A31 := Lib.hid a1; have C30 := Lib.hid b0; have C31 := Lib.hid b1
  clear hb3 rv
  have CD := Lib.hid (dotCompare_is r n r' n' w3)
  go_wp2_with fail
  refine CD.out.mono ?_
  rintro e w4 ⟨rfl, hb4⟩
  have B4 := Lib.hid (thenBelow B3.out hb4); have RV4 := Lib.hid (RV3.out.later hb4)
  have A40 := Lib.hid ((hb4.cell (p := ⟨ga, 0, none⟩) (World.block_lt_of_cell? _ _ A30.out)).trans A30.out)
  have A41 := Lib.hid ((hb4.cell (p := ⟨ga, 1, none⟩) (World.block_lt_of_cell? _ _ A31.out)).trans A31.out)
  have C40 := Lib.hid ((hb4.cell (p := ⟨gb, 0, none⟩) (World.block_lt_of_cell? _ _ C30.out)).trans C30.out)
  have C41 := Lib.hid ((hb4.cell (p := ⟨gb, 1, none⟩) (World.block_lt_of_cell? _ _ C31.out)).trans C31.out)
  clear hb4 CD a0 a1 b0 b1
  have a0 := cell_regrown A40.out; have a1 := cell_regrown A41.out; have b0 := cell_regrown C40.out; have b1 := cell_regrown C41.out
  have c1 := quiet_call (w := w4) (valid_is r n); have c2 := quiet_call (w := w4) (refValid_is r n)
  have c3 := quiet_call (w := w4) (less_is r n r' n'); have c4 := quiet_call (w := w4) (less_is r' n' r n)
  have k1 := cmpD_lt r n r' n'; have k2 := cmpD_gt r n r' n'; have k3 := cmpD_range r n r' n'
  unfold dcs at c1 c2
  generalize vldB r n = v at c1 c2
  generalize lessD r n r' n' = p at c3 k1
  generalize lessD r' n' r n = q at c4 k2
  generalize cmpD r n r' n' = z at k1 k2 k3 ⊢
  obtain ⟨k3, k4⟩ := k3
  have k5 : decide (z ≥ -1) = true := by simpa using k3
  have k6 : decide (z ≤ 1) = true := by simpa using k4
  go_wp2
  refine wp_region_quiet_below (by kernel_rfl) (by kernel_rfl) ?_
  quiet_step (fail)
  quiet_step (exact c1 _ _)
  quiet_step (fail)
  quiet_step (exact c2 _ _)
  iterate 6 (quiet_step (fail))
  quiet_step (exact c3 _ _)
  iterate 7 (quiet_step (fail))
  quiet_step (exact c4 _ _)
  repeat (quiet_step (fail))
  refine wpQuiet_nil ?_
  rintro _ ⟨⟨dq, osq⟩, rfl⟩
  have hb5 := below_regrown w4 dq osq
  have B5 := Lib.hid (thenBelow B4.out hb5); have RV5 := Lib.hid (RV4.out.later hb5)
  have A50 := Lib.hid ((hb5.cell (p := ⟨ga, 0, none⟩) (World.block_lt_of_cell? _ _ A40.out)).trans A40.out)
  have A51 := Lib.hid ((hb5.cell (p := ⟨ga, 1, none⟩) (World.block_lt_of_cell? _ _ A41.out)).trans A41.out)
  generalize Sort.grow (redrawn w4 dq) osq = w5 at hb5 B5 RV5 A50 A51 ⊢
  clear hb5 a0 a1 b0 b1 c1 c2 c3 c4
  have a0 := cell_regrown A50.out; have a1 := cell_regrown A51.out
  have c1 := quiet_call (w := w5) (has_is f r n); have c2 := quiet_call (w := w5) (refHas_is f r n)
  have c3 := quiet_call (w := w5) (with_is f r n); have c4 := quiet_call (w := w5) (refWith_is f r n)
  have c5 := quiet_call (w := w5) awake8
  have e1 := vecI.equalIn 9998 (withF f r n) (withF f r n)
  have e2 := vecI.eql (withF f r n) (withF f r n)
  rw [veq_self] at e1 e2
  unfold dcs at c1 c2 c3 c4
  generalize hasB f r n = h at c1 c2
  generalize withF f r n = F at c3 c4 e1 e2
  go_wp2
  refine wp_region_quiet_below (by kernel_rfl) (by kernel_rfl) ?_
  iterate 2 (quiet_step (fail))
  refine wpQuiet_vloadG vecI (by rfl) _ rfl gv rfl _ f (fun _ h => RV5.out.quiet h) ?_
  quiet_step (fail)
  quiet_step (exact c1 _ _)
  refine wpQuiet_vloadG vecI (by rfl) _ rfl gv rfl _ f (fun _ h => RV5.out.quiet h) ?_
  quiet_step (fail)
  quiet_step (exact c2 _ _)
  iterate 3 (quiet_step (fail))
  refine wpQuiet_vloadG vecI (by rfl) _ rfl gv rfl _ f (fun _ h => RV5.out.quiet h) ?_
  quiet_step (fail)
  quiet_step (exact c3 _ _)
  refine wpQuiet_vloadG vecI (by rfl) _ rfl gv rfl _ f (fun _ h => RV5.out.quiet h) ?_
  quiet_step (fail)
  quiet_step (exact c4 _ _)
  iterate 3 (quiet_step (fail))
  quiet_step (exact c5 _ _)
  repeat (quiet_step (fail))
  refine wpQuiet_nil ?_
  rintro _ ⟨⟨dq, osq⟩, rfl⟩
  have B6 := Lib.hid (thenBelow B5.out (below_regrown w5 dq osq))
  generalize Sort.grow (redrawn w5 dq) osq = w6 at B6 ⊢
  clear c1 c2 c3 c4 c5 a0 a1
  go_wp2
  go_ret
  exact ⟨ret_bool (by first | rfl | (simp; done)), B6.out⟩
end Go.Proofs.Ytkejonihciliaaa
