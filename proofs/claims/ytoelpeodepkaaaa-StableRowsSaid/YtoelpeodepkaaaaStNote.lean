/- The matrix: Note. -/
import Derived.Test.YtoelpeodepkaaaaStMat
namespace Go.Proofs.Ytoelpeodepkaaaa
open Go Go.RowKit

/-- what has turned is the row at G alone -/
def Noted (w : World) (a G n : Nat) (R : Nat → Nat → Int) (e : Ending) (w' : World) : Prop := e = .returned (.bool true) ∧ Mx w' a G n R ∧ w.grownBy w' (some G)
def joinAt (R : Nat → Nat → Int) (i : Nat) (f : Nat → Int) : Nat → Nat → Int := rset R i (fun j => max (R i j) (f j))

set_option maxHeartbeats 2000000 in
set_option maxRecDepth 100000 in
theorem note_in (a G n : Nat) (R : Nat → Nat → Int) (i : Nat) (f : Nat → Int) (w : World) (h : Mx w a G n R) (hi : i < n) :
    Calls Try.prog 14 #[.pointer (some ⟨a, 0, none⟩), .int .i64 i, .agg (vf f)] w (Noted w a G n (joinAt R i f)) := by
  go_enter Try.func14, Try.ntmps14
  go_wp2_with (refine wpList_vbox vecI rfl _ rfl f rfl ?_)
  intro gv w1 lv rv hb
  have B := Lib.hid hb; have M := Lib.hid (h.later hb); have RV := Lib.hid rv
  have W := Lib.hid (within_is (some ⟨a, 0, none⟩) n i w1 M.out.sized true (by simp; omega))
  have hrow := Lib.hid (M.out.rows.row i hi)
  have hle := h.le
  have hiI : (i : Int) < n := by omega
  have hc0 := cell_regrown M.out.c0
  have cJ := quiet_call (w := w1) (ownJoin_is (R i) f)
  clear h hb rv
  go_wp2_with fail
  refine W.out.mono ?_
  rintro e w' ⟨rfl, rfl⟩
  go_wp2
  refine wp_region_below_tail 15 (by kernel_rfl) (by kernel_rfl) ?_
  simp only [List.take_succ_cons, List.take_zero, List.drop_succ_cons, List.drop_zero]
  iterate 11 (quiet_step (fail))
  refine wpQuiet_vmid vecI rfl _ rfl G (i * 64) rfl _ (fun _ h => quiet_range hrow.out h) ?_
  refine wpQuiet_vload vecI rfl _ rfl gv rfl _ f (fun _ h => RV.out.quiet h) ?_
  quiet_step (exact cJ _ _)
  repeat (quiet_step (fail))
  refine wpQuiet_nil ?_
  rintro _ ⟨⟨dq, osq⟩, rfl⟩
  have hb2 := below_regrown w1 dq osq
  have M2 := Lib.hid (M.out.later hb2)
  have E : Hid (Noted w a G n (joinAt R i f) (.returned (.bool true)) ((Sort.grow (redrawn w1 dq) osq).setCells G (i * 64) (vf fun j => max (R i j) (f j)).toList)) :=
    ⟨rfl, M2.out.set i hi _, grown_trans (grown_trans (grown_of_below B.out) (grown_of_below hb2)) (grown_cells G _ _ _)⟩
  refine wpList_vput vecI rfl _ _ rfl G (i * 64) _ rfl rfl (M2.out.rows.free i hi) ?_
  go_wp2
  go_ret
  exact E.out
theorem note_out (p : Option Addr) (n : Nat) (i : Int) (f : Nat → Int) (w : World) (h : ∀ w', Below w.heap.size w w' → Sized p n w') (hi : ¬ (0 ≤ i ∧ i < n)) :
    Calls Try.prog 14 #[.pointer p, .int .i64 i, .agg (vf f)] w (RetBool w false) := by
  go_enter Try.func14, Try.ntmps14
  go_wp2_with (refine wpList_vbox vecI rfl _ rfl f rfl ?_)
  intro gv w1 lv rv hb
  have B := Lib.hid hb
  have W := Lib.hid (within_is p n i w1 (h _ hb) false (by simpa using hi))
  clear h hb rv hi
  go_wp2_with fail
  refine W.out.mono ?_
  rintro e w' ⟨rfl, rfl⟩
  go_wp2
  go_ret
  exact ⟨rfl, B.out⟩
end Go.Proofs.Ytoelpeodepkaaaa
