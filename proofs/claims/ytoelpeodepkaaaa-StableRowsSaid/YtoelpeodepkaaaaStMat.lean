/- The matrix: its state, New, Size, within, Row. -/
import Derived.Test.YtoelpeodepkaaaaVecMat
import Derived.Test.YtoelpeodepkaaaaVecIn
namespace Go.Proofs.Ytoelpeodepkaaaa
open Go Go.RowKit

/-- a matrix at a: its n rows at G -/
structure Mx (w : World) (a G n : Nat) (R : Nat → Nat → Int) : Prop where
  c0 : w.cell? ⟨a, 0, none⟩ = some (.slice (some ⟨G, 0, none⟩) n n)
  rows : Rws w G n R
  pos : 0 < n
  le : n ≤ 64
theorem Mx.glt {w : World} {a G n : Nat} {R : Nat → Nat → Int} (h : Mx w a G n R) : G < w.heap.size := h.rows.lt h.pos
theorem Mx.alt {w : World} {a G n : Nat} {R : Nat → Nat → Int} (h : Mx w a G n R) : a < w.heap.size := World.block_lt_of_cell? w _ h.c0
theorem Mx.ne {w : World} {a G n : Nat} {R : Nat → Nat → Int} (h : Mx w a G n R) : a ≠ G := by
  rintro rfl
  have h1 := h.c0
  have h2 := h.rows.cell 0 0 h.pos (by omega)
  rw [Nat.zero_mul, Nat.zero_add] at h2
  rw [h1] at h2; cases h2
theorem Mx.later {w w' : World} {a G n : Nat} {R : Nat → Nat → Int} (h : Mx w a G n R) (hb : Below w.heap.size w w') : Mx w' a G n R :=
  ⟨(hb.cell (p := ⟨a, 0, none⟩) h.alt).trans h.c0, h.rows.later hb, h.pos, h.le⟩
theorem Mx.under {w w' : World} {a G n B : Nat} {R : Nat → Nat → Int} (h : Mx w a G n R) (hb : Below B w w') (ha : a < B) (hG : G < B) : Mx w' a G n R :=
  ⟨(hb.cell (p := ⟨a, 0, none⟩) ha).trans h.c0, h.rows.under hb hG, h.pos, h.le⟩
theorem Mx.kept {w w' : World} {a G n : Nat} {R : Nat → Nat → Int} (h : Mx w a G n R) {row : Option Nat} (hg : w.grownBy w' row) (ha : some a ≠ row) (hG : some G ≠ row) : Mx w' a G n R :=
  ⟨hg.cell h.c0 ha, h.rows.kept hg hG, h.pos, h.le⟩
theorem Mx.set {w : World} {a G n : Nat} {R : Nat → Nat → Int} (h : Mx w a G n R) (i : Nat) (hi : i < n) (f : Nat → Int) : Mx (w.setCells G (i * 64) (vf f).toList) a G n (rset R i f) :=
  ⟨(grown_cells G _ _ w).cell h.c0 (fun e => h.ne (Option.some.inj e)), h.rows.set i hi f, h.pos, h.le⟩

theorem infoV : (Try.prog.info? 37).map (fun i => (i.zero, i.size, i.bytes)) = some (some (.agg (vf fun _ => 0)), 64, 512) := by
  rw [vf_zero]; kernel_rfl
theorem mkV (n : Nat) (hn : n ≤ 64) (x : Int) (hx : x = n) (w : World) :
    ∃ cs, (Instr.makeSlice 40 (.int .i64 x) (.int .i64 x)).run Try.prog w = .ok (.slice (some ⟨w.heap.size, 0, none⟩) n n) (w.alloc (.cells cs 37)) ∧ Rws (w.alloc (.cells cs 37)) w.heap.size n (fun _ _ => 0) := by
  subst hx
  exact ⟨_, make_rows Try.underlying40 (z := .agg (vf fun _ => 0)) rfl infoV n hn w⟩
/-- a new matrix -/
def NewM (w : World) (n : Nat) (e : Ending) (w' : World) : Prop :=
  ∃ a G, e = .returned (.pointer (some ⟨a, 0, none⟩)) ∧ w.heap.size ≤ a ∧ w.heap.size ≤ G ∧ Mx w' a G n (fun _ _ => 0) ∧ Below w.heap.size w w'
set_option maxRecDepth 100000 in
theorem new_in (x : Int) (n : Nat) (w : World) (hx : x = n) (h0 : 0 < n) (hn : n ≤ 64) : Calls Try.prog 13 #[.int .i64 x] w (NewM w n) := by
  obtain ⟨cs, hmk, hr⟩ := mkV n hn x hx w
  have HR := Lib.hid hr
  have h1 : ¬ x < 1 := by omega
  have h2 : ¬ x > 64 := by omega
  have hend : Hid (NewM w n (.returned (.pointer (some ⟨w.heap.size + 1, 0, none⟩))) ((w.alloc (.cells cs 37)).alloc (.cells #[.slice (some ⟨w.heap.size, 0, none⟩) n n] 57))) := by
    have hb2 : Below (w.alloc (.cells cs 37)).heap.size (w.alloc (.cells cs 37)) ((w.alloc (.cells cs 37)).alloc (.cells #[.slice (some ⟨w.heap.size, 0, none⟩) n n] 57)) := below_alloc _ _
    have h2 := heap_alloc_new (w.alloc (.cells cs 37)) (.cells #[.slice (some ⟨w.heap.size, 0, none⟩) n n] 57)
    have e : (w.alloc (.cells cs 37)).heap.size = w.heap.size + 1 := by simp
    rw [e] at h2
    refine ⟨_, w.heap.size, rfl, by omega, Nat.le_refl _, ⟨?_, hr.later hb2, h0, hn⟩, thenBelow (below_alloc _ _) hb2⟩
    rw [cell_of_row _ _ 0 _ _ _ h2]; rfl
  clear hr hx
  go_enter Try.func13, Try.ntmps13
  go_wp2
  go_ret
  exact hend.out
theorem new_out (x : Int) (w : World) (hx : x < 1 ∨ 64 < x) : Calls Try.prog 13 #[.int .i64 x] w fun e w' => e = .returned (.pointer none) ∧ w = w' := by
  by_cases h : x < 1
  · go_enter Try.func13, Try.ntmps13
    go_wp2
    go_ret
    exact ⟨rfl, rfl⟩
  · have h2 : x > 64 := by omega
    go_enter Try.func13, Try.ntmps13
    go_wp2
    go_ret
    exact ⟨rfl, rfl⟩

theorem size_nil (w : World) : Calls Try.prog 18 #[.pointer none] w fun e w' => e = .returned (.int .i64 0) ∧ w = w' := by
  go_enter Try.func18, Try.ntmps18
  go_wp2
  go_ret
  exact ⟨rfl, rfl⟩
theorem size_at (a : Nat) (p : Option Addr) (n c : Nat) (w : World) (h : w.cell? ⟨a, 0, none⟩ = some (.slice p n c)) : Calls Try.prog 18 #[.pointer (some ⟨a, 0, none⟩)] w fun e w' => e = .returned (.int .i64 n) ∧ w = w' := by
  go_enter Try.func18, Try.ntmps18
  go_wp2
  go_ret
  exact ⟨rfl, rfl⟩
/-- a matrix whose size is n, whatever it is -/
def Sized (p : Option Addr) (n : Nat) (w : World) : Prop := (p = none ∧ n = 0) ∨ ∃ a q c, p = some ⟨a, 0, none⟩ ∧ w.cell? ⟨a, 0, none⟩ = some (.slice q n c)
theorem Sized.calls {p : Option Addr} {n : Nat} {w : World} (h : Sized p n w) : Calls Try.prog 18 #[.pointer p] w fun e w' => e = .returned (.int .i64 n) ∧ w = w' := by
  rcases h with ⟨rfl, rfl⟩ | ⟨a, q, c, rfl, h⟩
  · exact size_nil w
  · exact size_at a q n c w h
theorem Mx.sized {w : World} {a G n : Nat} {R : Nat → Nat → Int} (h : Mx w a G n R) : Sized (some ⟨a, 0, none⟩) n w := .inr ⟨a, _, _, rfl, h.c0⟩
theorem within_is (p : Option Addr) (n : Nat) (i : Int) (w : World) (h : Sized p n w) (b : Bool) (hb : b = decide (0 ≤ i ∧ i < n)) : Calls Try.prog 27 #[.pointer p, .int .i64 i] w fun e w' => e = .returned (.bool b) ∧ w = w' := by
  have S := Lib.hid h.calls
  have key : (i < 0 ∧ b = false) ∨ (0 ≤ i ∧ (i < n ∧ b = true ∨ ¬ i < n ∧ b = false)) := by
    subst hb
    simp only [decide_eq_true_eq, decide_eq_false_iff_not]; omega
  clear h hb
  rcases key with ⟨h1, rfl⟩ | ⟨h1, ⟨h2, rfl⟩ | ⟨h2, rfl⟩⟩
  · go_enter Try.func27, Try.ntmps27
    go_wp2_with fail
    go_ret
    exact ⟨ret_bool (by first | rfl | simp), rfl⟩
  all_goals
    go_enter Try.func27, Try.ntmps27
    go_wp2_with fail
    refine S.out.mono ?_
    rintro e w' ⟨rfl, rfl⟩
    go_wp2
    go_ret
    exact ⟨ret_bool (by first | rfl | (simp; done) | (simp; omega)), rfl⟩

set_option maxHeartbeats 1000000 in
set_option maxRecDepth 100000 in
theorem row_in (a G n : Nat) (R : Nat → Nat → Int) (i : Nat) (w : World) (h : Mx w a G n R) (hi : i < n) : Calls Try.prog 16 #[.pointer (some ⟨a, 0, none⟩), .int .i64 i] w (RetVec w (R i)) := by
  go_enter Try.func16, Try.ntmps16
  go_wp2_with (refine wpList_valloc vecI zeroV rfl rfl ?_)
  intro gr w1 lr rr hb
  have B := Lib.hid hb; have M := Lib.hid (h.later hb); have RR := Lib.hid rr
  have W := Lib.hid (within_is (some ⟨a, 0, none⟩) n i w1 M.out.sized true (by simp; omega))
  have hc0 := M.out.c0
  have hrow := Lib.hid (M.out.rows.row i hi)
  have hle := h.le
  have hiI : (i : Int) < n := by omega
  clear h hb rr
  go_wp2_with fail
  refine W.out.mono ?_
  rintro e w' ⟨rfl, rfl⟩
  go_wp2_with (first | refine wpList_vmid vecI rfl _ rfl G (i * 64) rfl _ hrow.out ?_ | refine wpList_vstore vecI rfl _ _ rfl gr rfl _ rfl _ _ RR.out ?_)
  intro w5 r5 g5 _
  have R5 := Lib.hid r5; have B5 := Lib.hid (B.out.trans (grown_below g5 B.out.size lr))
  clear r5 g5
  go_wp2
  exact vec_ret vecI rfl rfl rfl R5.out (fun _ _ => rfl) B5.out
theorem row_out (p : Option Addr) (n : Nat) (i : Int) (w : World) (h : ∀ w', Below w.heap.size w w' → Sized p n w') (hi : ¬ (0 ≤ i ∧ i < n)) : Calls Try.prog 16 #[.pointer p, .int .i64 i] w (RetVec w (fun _ => 0)) := by
  have hbu : ∀ w, (Instr.build 37 #[]).run Try.prog w = .ok (.agg (vf fun _ => 0)) w := fun w => by rw [vf_zero]; kernel_rfl
  go_enter Try.func16, Try.ntmps16
  go_wp2_with (refine wpList_valloc vecI zeroV rfl rfl ?_)
  intro gr w1 lr rr hb
  have B := Lib.hid hb; have RR := Lib.hid rr
  have W := Lib.hid (within_is p n i w1 (h _ hb) false (by simpa using hi))
  clear h hb rr hi
  go_wp2_with fail
  refine W.out.mono ?_
  rintro e w' ⟨rfl, rfl⟩
  go_wp2_with (first | refine Great.wpList_readTo rfl _ rfl (.agg (vf fun _ => 0)) (by unfold execOp; simp only [Array.map_empty, Sem.run_bind, hbu]; rfl) ?_ | refine wpList_vstore vecI rfl _ _ rfl gr rfl _ rfl _ _ RR.out ?_)
  intro w5 r5 g5 _
  have R5 := Lib.hid r5; have B5 := Lib.hid (B.out.trans (grown_below g5 B.out.size lr))
  clear r5 g5
  go_wp2
  exact vec_ret vecI rfl rfl rfl R5.out (fun _ _ => rfl) B5.out
end Go.Proofs.Ytoelpeodepkaaaa
