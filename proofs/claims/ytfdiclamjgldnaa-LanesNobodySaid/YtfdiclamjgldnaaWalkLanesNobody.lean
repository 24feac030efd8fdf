/- The walk of LanesNobody. -/
import Derived.Test.YtfdiclamjgldnaaLnAwake
namespace Go.Proofs.Ytfdiclamjgldnaa
open Go Go.RowKit Go.Conc
set_option linter.unusedVariables false

/-- lanes that no call made -/
def Nob (w : World) (q : Option Addr) : Prop :=
  q = none ∨ ∃ A, q = some ⟨A, 0, none⟩ ∧ w.cell? ⟨A, 0, none⟩ = some (.map none) ∧ w.cell? ⟨A, 1, none⟩ = some (.int .i64 0) ∧ w.cell? ⟨A, 2, none⟩ = some (.int .i64 0)
theorem way_nob (q : Option Addr) (f t : Int) (w : World) (h : Nob w q) : Calls Try.prog 27 #[.pointer q, .int .i64 f, .int .i64 t] w fun e w' => e = .returned (.pointer none) ∧ w = w' := by
  rcases h with rfl | ⟨A, rfl, c0, _, _⟩
  · exact way_nil f t w
  · exact way_void A f t w c0
theorem totals_nob (q : Option Addr) (w : World) (h : Nob w q) : Calls Try.prog 10 #[.pointer q] w fun e w' => e = .returned (.tuple #[.int .i64 0, .int .i64 0]) ∧ ∃ n, w' = w.drewN n := by
  rcases h with rfl | ⟨A, rfl, _, c1, c2⟩
  · refine (totals_nil w).mono ?_
    rintro e w' ⟨rfl, rfl⟩
    exact ⟨rfl, 0, rfl⟩
  · exact totals_at A 0 0 w c1 c2
theorem take_no (q : Option Addr) (f t k : Int) (w : World) (h : Nob w q) : Calls Try.prog 16 #[.pointer q, .int .i64 f, .int .i64 t, .int .i64 k] w fun e w' => e = .returned (.tuple #[.slice none 0 0, .int .i64 15]) ∧ w = w' := by
  have FI := Lib.hid (find_no q f t k w (way_nob q f t w h))
  clear h
  go_enter Try.func16, Try.ntmps16
  go_wp2_with fail
  refine FI.out.mono ?_
  rintro e w' ⟨rfl, rfl⟩
  go_wp2
  go_ret2
  exact ⟨rfl, rfl⟩
theorem peek_no (q : Option Addr) (f t k : Int) (w : World) (h : Nob w q) : Calls Try.prog 17 #[.pointer q, .int .i64 f, .int .i64 t, .int .i64 k] w fun e w' => e = .returned (.tuple #[.slice none 0 0, .int .i64 15]) ∧ w = w' := by
  have FI := Lib.hid (find_no q f t k w (way_nob q f t w h))
  clear h
  go_enter Try.func17, Try.ntmps17
  go_wp2_with fail
  refine FI.out.mono ?_
  rintro e w' ⟨rfl, rfl⟩
  go_wp2
  go_ret2
  exact ⟨rfl, rfl⟩
theorem lose_no (q : Option Addr) (f t k : Int) (w : World) (h : Nob w q) : Calls Try.prog 18 #[.pointer q, .int .i64 f, .int .i64 t, .int .i64 k] w fun e w' => e = .returned (.int .i64 15) ∧ w = w' := by
  have FI := Lib.hid (find_no q f t k w (way_nob q f t w h))
  clear h
  go_enter Try.func18, Try.ntmps18
  go_wp2_with fail
  refine FI.out.mono ?_
  rintro e w' ⟨rfl, rfl⟩
  go_wp2
  go_ret
  exact ⟨rfl, rfl⟩
theorem double_no (q : Option Addr) (f t k : Int) (w : World) (h : Nob w q) : Calls Try.prog 15 #[.pointer q, .int .i64 f, .int .i64 t, .int .i64 k] w fun e w' => e = .returned (.int .i64 15) ∧ w = w' := by
  have FI := Lib.hid (find_no q f t k w (way_nob q f t w h))
  clear h
  go_enter Try.func15, Try.ntmps15
  go_wp2_with fail
  refine FI.out.mono ?_
  rintro e w' ⟨rfl, rfl⟩
  go_wp2
  go_ret
  exact ⟨rfl, rfl⟩
theorem spoil_no (q : Option Addr) (f t k at0 : Int) (by0 : Int) (w : World) (h : Nob w q) : Calls Try.prog 14 #[.pointer q, .int .i64 f, .int .i64 t, .int .i64 k, .int .i64 at0, .int .u8 by0] w fun e w' => e = .returned (.int .i64 15) ∧ w = w' := by
  have FI := Lib.hid (find_no q f t k w (way_nob q f t w h))
  clear h
  go_enter Try.func14, Try.ntmps14
  go_wp2_with fail
  refine FI.out.mono ?_
  rintro e w' ⟨rfl, rfl⟩
  go_wp2
  go_ret
  exact ⟨rfl, rfl⟩
theorem count_nob (q : Option Addr) (f t : Int) (w : World) (h : Nob w q) : Calls Try.prog 11 #[.pointer q, .int .i64 f, .int .i64 t] w fun e w' => e = .returned (.int .i64 0) ∧ w = w' :=
  count_of none f t 0 q w (way_nob q f t w h) (lenP_nil w)
theorem drewN_belowE {B : Nat} {a w : World} (h : Below B a w) (n : Nat) : Below B a (w.drewN n) := ⟨h.os, h.tape, h.output, h.size, h.block⟩
set_option maxHeartbeats 4000000 in
set_option maxRecDepth 1000000 in
theorem lanesNobody_walk (f t k : Int) (p : Option Addr) (c : Nat) (l : List UInt8) (W : World) (hf : (Lit.int .i64 f).wf = true) (ht : (Lit.int .i64 t).wf = true) (hk : (Lit.int .i64 k).wf = true) (h : Came W p c l) :
    Calls Try.prog 6 #[.int .i64 f, .int .i64 t, .int .i64 k, .slice p l.length c] W (Yes W) := by
  have AW := Lib.hid awake26
  clear hf ht hk h
  generalize l.length = n
  have SN := Lib.hid fun (q : Option Addr) (w : World) (h : Nob w q) => send_no q f t (.slice p n c) ⟨_, _, _, rfl⟩ w (way_nob q f t w h)
  have b0 : Hid (Below W.heap.size W ((W.alloc (.cells #[.map none, .int .i64 0, .int .i64 0] 49)).alloc (.cells #[.pointer none, .pointer (some ⟨W.heap.size, 0, none⟩)] 23))) := ((Below.refl _ W).alloc (Nat.le_refl _) _).alloc (by simp) _
  obtain ⟨wb, hwb⟩ : ∃ wb, wb = ((W.alloc (.cells #[.map none, .int .i64 0, .int .i64 0] 49)).alloc (.cells #[.pointer none, .pointer (some ⟨W.heap.size, 0, none⟩)] 23)) := ⟨_, rfl⟩
  have hr : wb.heap[W.heap.size + 1]? = some (.cells #[.pointer none, .pointer (some ⟨W.heap.size, 0, none⟩)] 23) := by
    have e := heap_alloc_new (W.alloc (.cells #[.map none, .int .i64 0, .int .i64 0] 49)) (.cells #[.pointer none, .pointer (some ⟨W.heap.size, 0, none⟩)] 23)
    rw [World.size_alloc] at e
    rw [hwb]; exact e
  have ho : wb.heap[W.heap.size]? = some (.cells #[.map none, .int .i64 0, .int .i64 0] 49) := by
    rw [hwb]; exact (Below.heap_alloc _ _ _ (by simp)).trans (heap_alloc_new W _)
  have C0 : Hid (∀ V : World, V.heap = wb.heap → V.cell? ⟨W.heap.size + 1, 0, none⟩ = some (.pointer none)) := fun V h => by
    rw [cell_of_row V _ 0 _ _ _ (by rw [h]; exact hr)]; rfl
  have C1 : Hid (∀ V : World, V.heap = wb.heap → V.cell? ⟨W.heap.size + 1, 1, none⟩ = some (.pointer (some ⟨W.heap.size, 0, none⟩))) := fun V h => by
    rw [cell_of_row V _ 1 _ _ _ (by rw [h]; exact hr)]; rfl
  have N0 : Hid (∀ V : World, V.heap = wb.heap → Nob V none) := fun V _ => .inl rfl
  have N1 : Hid (∀ V : World, V.heap = wb.heap → Nob V (some ⟨W.heap.size, 0, none⟩)) := fun V h => by
    refine .inr ⟨_, rfl, ?_, ?_, ?_⟩
    · rw [cell_of_row V _ 0 _ _ _ (by rw [h]; exact ho)]; rfl
    · rw [cell_of_row V _ 1 _ _ _ (by rw [h]; exact ho)]; rfl
    · rw [cell_of_row V _ 2 _ _ _ (by rw [h]; exact ho)]; rfl
  rw [← hwb] at b0
  have HWB := Lib.hid hwb
  clear hr ho hwb
  generalize hX : W.heap.size = X at *
  go_enter Try.func6, Try.ntmps6
  go_wp2
  rw [← HWB.out]
  clear HWB
  go_loopw [21] (fun i wr => ∃ j : Nat, j ≤ 2 ∧ i = .int .i64 j ∧ wr.heap = wb.heap ∧ Below X W wr) (fun i _ => 2 - (intOf i).toNat)
  case atStart => exact ⟨0, by omega, rfl, rfl, b0.out⟩
  case round =>
    obtain ⟨j, hj, rfl, hm0, hb0⟩ := hrel
    have HM := Lib.hid hm0; have HB := Lib.hid hb0
    clear hm0 hb0
    rcases (show j = 0 ∨ j = 1 ∨ j = 2 by omega) with rfl | rfl | rfl
    · have HC : wr.cell? ⟨X + 1, 0, none⟩ = some (.pointer none) := C0.out wr HM.out
      have HN : Hid (∀ m, Nob ((wr : World).drewN m) none) := fun m2 => N0.out _ HM.out
      have N1 := Lib.hid (HN.out 0)
      have TK := Lib.hid (take_no none f t k wr N1.out); have PK := Lib.hid (peek_no none f t k wr N1.out); have TT := Lib.hid (totals_nob none wr N1.out)
      clear N1
      go_wp2_with fail
      refine TK.out.mono ?_
      rintro e w' ⟨rfl, rfl⟩
      go_wp2_with fail
      refine PK.out.mono ?_
      rintro e w' ⟨rfl, rfl⟩
      go_wp2_with fail
      refine TT.out.mono ?_
      rintro e w' ⟨rfl, m2, rfl⟩
      have N2 := Lib.hid (HN.out m2)
      have DD : Hid ((wr.drewN m2).heap = wb.heap ∧ Below X W (wr.drewN m2)) := ⟨HM.out, drewN_belowE HB.out m2⟩
      generalize wr.drewN m2 = w2 at *
      clear HN HC HM HB TK PK TT
      go_wp2_with fail
      refine (count_nob none f t w2 N2.out).mono ?_
      rintro e w' ⟨rfl, rfl⟩
      go_wp2_with fail
      refine (SN.out none w2 N2.out).mono ?_
      rintro e w' ⟨rfl, rfl⟩
      go_wp2_with fail
      refine (lose_no none f t k w2 N2.out).mono ?_
      rintro e w' ⟨rfl, rfl⟩
      go_wp2_with fail
      refine (double_no none f t k w2 N2.out).mono ?_
      rintro e w' ⟨rfl, rfl⟩
      go_wp2_with fail
      refine (spoil_no none f t k k 1 w2 N2.out).mono ?_
      rintro e w' ⟨rfl, rfl⟩
      go_wp2
      go_roundw
      case rel => exact ⟨0 + 1, by omega, by go_num, DD.out.1, DD.out.2⟩
      case measure => simp [intOf]
    · have HC : wr.cell? ⟨X + 1, 1, none⟩ = some (.pointer (some ⟨X, 0, none⟩)) := C1.out wr HM.out
      have HN : Hid (∀ m, Nob ((wr : World).drewN m) (some ⟨X, 0, none⟩)) := fun m2 => N1.out _ HM.out
      have N1 := Lib.hid (HN.out 0)
      have TK := Lib.hid (take_no (some ⟨X, 0, none⟩) f t k wr N1.out); have PK := Lib.hid (peek_no (some ⟨X, 0, none⟩) f t k wr N1.out); have TT := Lib.hid (totals_nob (some ⟨X, 0, none⟩) wr N1.out)
      clear N1
      go_wp2_with fail
      refine TK.out.mono ?_
      rintro e w' ⟨rfl, rfl⟩
      go_wp2_with fail
      refine PK.out.mono ?_
      rintro e w' ⟨rfl, rfl⟩
      go_wp2_with fail
      refine TT.out.mono ?_
      rintro e w' ⟨rfl, m2, rfl⟩
      have N2 := Lib.hid (HN.out m2)
      have DD : Hid ((wr.drewN m2).heap = wb.heap ∧ Below X W (wr.drewN m2)) := ⟨HM.out, drewN_belowE HB.out m2⟩
      generalize wr.drewN m2 = w2 at *
      clear HN HC HM HB TK PK TT
      go_wp2_with fail
      refine (count_nob (some ⟨X, 0, none⟩) f t w2 N2.out).mono ?_
      rintro e w' ⟨rfl, rfl⟩
      go_wp2_with fail
      refine (SN.out (some ⟨X, 0, none⟩) w2 N2.out).mono ?_
      rintro e w' ⟨rfl, rfl⟩
      go_wp2_with fail
      refine (lose_no (some ⟨X, 0, none⟩) f t k w2 N2.out).mono ?_
      rintro e w' ⟨rfl, rfl⟩
      go_wp2_with fail
      refine (double_no (some ⟨X, 0, none⟩) f t k w2 N2.out).mono ?_
      rintro e w' ⟨rfl, rfl⟩
      go_wp2_with fail
      refine (spoil_no (some ⟨X, 0, none⟩) f t k k 1 w2 N2.out).mono ?_
      rintro e w' ⟨rfl, rfl⟩
      go_wp2
      go_roundw
      case rel => exact ⟨1 + 1, by omega, by go_num, DD.out.1, DD.out.2⟩
      case measure => simp [intOf]
    · have B1 := HB
      clear HM
      go_wp2_with fail
      refine (AW.out _).mono ?_
      rintro e w3 ⟨rfl, hb3⟩
      have E := Lib.hid (B1.out.trans (hb3.mono (by rw [← hX]; exact B1.out.size)))
      clear hb3
      go_wp2
      go_ret
      exact ⟨rfl, by rw [hX]; exact E.out⟩
end Go.Proofs.Ytfdiclamjgldnaa
