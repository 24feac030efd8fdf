/- A new device. -/
import Derived.Test.YtfgjcgonlpbdbaaPgState
import Derived.Test.YtfgjcgonlpbdbaaPgMap
import Derived.Laws.OwnMore
namespace Go.Proofs.Ytfgjcgonlpbdbaa
open Go Go.RowKit
set_option linter.unusedVariables false

theorem sizePower : (Try.prog.info? 52).map (·.size) = some 2 := by kernel_rfl
theorem fresh_is (w : World) : Calls Try.prog 23 #[] w fun e w' => e = .returned (.agg #[.bool false, .int .i64 (-1)]) ∧ Below w.heap.size w w' := by
  go_enter Try.func23, Try.ntmps23
  go_wp2
  exact bodyPost_ret (v := .agg #[.bool false, .int .i64 (-1)]) (results_cell_row rfl _ _ w.heap.size _ _ (0, 0) _ rfl (heap_alloc_new w _) Try.underlying52 rfl sizePower) rfl ⟨rfl, (Below.refl _ _).alloc (Nat.le_refl _) _⟩
/-- a page of noughts -/
def zeroPg : List UInt8 := List.replicate 128 0
theorem zero_get (j : Nat) (hj : j < 128) : zeroPg.getD j 0 = 0 := by
  unfold zeroPg
  rw [List.getD_eq_getElem?_getD, List.getElem?_replicate, if_pos hj]
  rfl
theorem zero_len : zeroPg.length = 128 := List.length_replicate ..
theorem infoPage : (Try.prog.info? 69).map (fun i => (i.zero, i.size, i.bytes)) = some (some (.agg (Array.replicate 128 (.int .u8 0))), 128, 128) := by kernel_rfl
/-- what 'make' lays for two pages -/
def twoCells : Array Value := Array.replicate 256 (.int .u8 0)
theorem mkPages (w : World) : (Instr.makeSlice 53 (.int .i64 2) (.int .i64 2)).run Try.prog w = .ok (.slice (some ⟨w.heap.size, 0, none⟩) 2 2) (w.alloc (.cells twoCells 69)) := by
  obtain ⟨i0, hi, hz0, hz1, hz2⟩ := info_parts infoPage
  have h := run_make (P := Try.prog) w 53 69 i0 (.agg (Array.replicate 128 (.int .u8 0))) Try.underlying53 hi hz0 .i64 .i64 2 2 (by omega) (by omega) (by rw [hz2]; omega) (by omega)
  rw [hz1] at h
  rw [show madeCells (Value.agg (Array.replicate 128 (.int .u8 0))).cells ((2 : Int).toNat * 128) = twoCells by kernel_rfl] at h
  exact h
theorem exec_mk {o : Oper} {a : Act} {w : World} (x y : Operand) (ho : o.op = .makeSlice 53 x y) (hx : a.eval x = .int .i64 2) (hy : a.eval y = .int .i64 2) :
    (execOp a.eval o).run Try.prog w = .ok (.value (.slice (some ⟨w.heap.size, 0, none⟩) 2 2)) (w.alloc (.cells twoCells 69)) := by
  unfold execOp
  simp only [ho, hx, hy]
  exact run_value_of (mkPages w)
/-- a new device of two pages -/
def NewDk (w : World) (e : Ending) (w' : World) : Prop :=
  ∃ D P M, e = .returned (.tuple #[.pointer (some ⟨D, 0, none⟩), .int .i64 0]) ∧ (w.heap.size ≤ D ∧ w.heap.size ≤ P ∧ w.heap.size ≤ M) ∧ Dk w' D P M 2 (fun _ => zeroPg) false (-1) ∧ w'.heap[M]? = some (.map (ents []).toArray 0) ∧ Below w.heap.size w w'
theorem newDk_mk {w w4 : World} {P M : Nat} (hP : w4.heap[P]? = some (.cells twoCells 69 (0, 0))) (hM : w4.heap[M]? = some (.map #[] 0)) (hb : Below w.heap.size w w4) (h1 : w.heap.size ≤ P) (h2 : w.heap.size ≤ M) :
    NewDk w (.returned (.tuple #[.pointer (some ⟨w4.heap.size, 0, none⟩), .int .i64 0])) (w4.alloc (.cells #[.bool false, .int .i64 (-1), .slice (some ⟨P, 0, none⟩) 2 2, .map (some M)] 56)) := by
  have hPl := (Array.getElem?_eq_some_iff.1 hP).1
  have hMl := (Array.getElem?_eq_some_iff.1 hM).1
  have hP' : (w4.alloc (.cells #[.bool false, .int .i64 (-1), .slice (some ⟨P, 0, none⟩) 2 2, .map (some M)] 56)).heap[P]? = some (.cells twoCells 69 (0, 0)) := by rw [Below.heap_alloc _ _ _ (by omega)]; exact hP
  have hM' : (w4.alloc (.cells #[.bool false, .int .i64 (-1), .slice (some ⟨P, 0, none⟩) 2 2, .map (some M)] 56)).heap[M]? = some (.map #[] 0) := by rw [Below.heap_alloc _ _ _ (by omega)]; exact hM
  have hcell : ∀ j, j < 256 → twoCells[j]? = some (.int .u8 0) := fun j hj => by simp [twoCells, hj]
  have hne : P ≠ M := fun e => by subst e; rw [hP] at hM; cases hM
  refine ⟨w4.heap.size, P, M, rfl, ⟨hb.size, h1, h2⟩, ⟨heap_alloc_new w4 _, by omega, by omega, fun i _ => zero_len, fun i hi j v hj => ?_, fun j hj => ⟨?_, ?_⟩, ⟨by omega, by omega, hne⟩⟩, hM', hb.alloc hb.size _⟩
  · have hj2 : j < 128 := by
      have := (List.getElem?_eq_some_iff.1 hj).1
      rw [bys_length, zero_len] at this
      exact this
    have hv : v = .int .u8 0 := by
      have : (bys zeroPg)[j]? = some (.int .u8 0) := by rw [bys_get zeroPg j (by rw [zero_len]; exact hj2), zero_get j hj2]; rfl
      rw [this] at hj; exact (Option.some.inj hj).symm
    rw [hv, cell_of_row _ P (128 * i + j) _ _ _ hP', hcell _ (by omega)]
  · rw [cell_of_row _ P (0 + j) _ _ _ hP', hcell _ (by omega)]; rfl
  · exact frozen_of_row _ P (0 + j) _ _ hP'
set_option maxHeartbeats 4000000 in
set_option maxRecDepth 100000 in
theorem newDk (w0 : World) : Calls Try.prog 7 #[.int .i64 2] w0 (NewDk w0) := by
  go_enter Try.func7, Try.ntmps7
  go_wp2
  have bd : Below w0.heap.size w0 w0.drew := (Below.refl _ _).drew
  refine rg_start (n := 8) (S := fun _ => True) (by kernel_rfl) rfl trivial ?_
  generalize w0.drew = wa at bd ⊢
  have bb := bd
  refine rgd_pure 1 (some 11) rfl rfl (.int .i64 2) (by kernel_rfl) (by kernel_rfl) (by kernel_rfl) (fun _ _ _ _ h => h) (by kernel_rfl) (fun _ => by kernel_rfl) trivial ?_
  refine rg_three 0 2 3 (by kernel_rfl) rfl (by kernel_rfl) 23 #[] (by kernel_rfl) (fresh_is wa) rfl (by kernel_rfl) (.slice (some ⟨wa.heap.size, 0, none⟩) 2 2) (wa.alloc (.cells twoCells 69)) (exec_mk _ _ rfl (by kernel_rfl) (by kernel_rfl)) trivial rfl (by kernel_rfl) (.map (some wa.heap.size)) (wa.alloc (.map #[] 0)) (by kernel_rfl) trivial ?_ ?_ ?_
  · rintro e w1 ⟨rfl, hb⟩
    have bb := thenBelow bb hb
    clear hb
    refine ⟨_, rfl, trivial, ?_⟩
    refine rg_acts 2 3 (by kernel_rfl) rfl (by kernel_rfl) (.slice (some ⟨w1.heap.size, 0, none⟩) 2 2) (w1.alloc (.cells twoCells 69)) (exec_mk _ _ rfl (by kernel_rfl) (by kernel_rfl)) trivial rfl (by kernel_rfl) (.map (some w1.heap.size)) (w1.alloc (.map #[] 0)) (by kernel_rfl) trivial ?_ ?_
    · have al : Below w1.heap.size w1 (w1.alloc (.cells twoCells 69)) := (Below.refl _ _).alloc (Nat.le_refl _) _
      have hP : (w1.alloc (.cells twoCells 69)).heap[w1.heap.size]? = some (.cells twoCells 69 (0, 0)) := heap_alloc_new w1 _
      have hP1 := bb.size
      have bb := thenBelow bb al
      clear al
      generalize (w1.alloc (.cells twoCells 69)) = w2 at bb hP ⊢
      refine rg_run 3 (by kernel_rfl) rfl (by kernel_rfl) (.map (some w2.heap.size)) (w2.alloc (.map #[] 0)) (by kernel_rfl) trivial ?_
      have al : Below w2.heap.size w2 (w2.alloc (.map #[] 0)) := (Below.refl _ _).alloc (Nat.le_refl _) _
      have hM : (w2.alloc (.map #[] 0)).heap[w2.heap.size]? = some (.map #[] 0) := heap_alloc_new w2 _
      have hM1 := bb.size
      have hP := (al.block _ (Array.getElem?_eq_some_iff.1 hP).1).trans hP
      have bb := thenBelow bb al
      clear al
      generalize (w2.alloc (.map #[] 0)) = w3 at bb hP hM ⊢
      refine rgd_pure 4 (some 14) rfl rfl (.agg #[.bool false, .int .i64 (-1), .slice (some ⟨w1.heap.size, 0, none⟩) 2 2, .map (some w2.heap.size)]) (by kernel_rfl) (by kernel_rfl) (by kernel_rfl) (fun _ _ _ _ h => h) (by kernel_rfl) (fun _ => by kernel_rfl) trivial ?_
      refine rg_run 5 (by kernel_rfl) rfl (by kernel_rfl) (.pointer (some ⟨w3.heap.size, 0, none⟩)) (w3.alloc (.cells #[.bool false, .int .i64 (-1), .slice (some ⟨w1.heap.size, 0, none⟩) 2 2, .map (some w2.heap.size)] 56)) (by kernel_rfl) trivial ?_
      refine rgd_pure 6 (some 2) rfl rfl (.pointer (some ⟨w3.heap.size, 0, none⟩)) (by kernel_rfl) (by kernel_rfl) (by kernel_rfl) (fun _ _ _ _ h => h) (by kernel_rfl) (fun _ => by kernel_rfl) trivial ?_
      refine rgd_pure 7 (some 3) rfl rfl (.int .i64 0) (by kernel_rfl) (by kernel_rfl) (by kernel_rfl) (fun _ _ _ _ h => h) (by kernel_rfl) (fun _ => by kernel_rfl) trivial ?_
      refine wpAnyH_done (by kernel_rfl) ?_ _
      refine ‹∀ (a : Act) (w : World), Code.wp Try.prog Code.ret (bodyPost Try.prog Try.f7 (NewDk w0)) a w → _› _ _ ?_
      refine wp_ret ?_
      exact bodyPost_ret (v := .tuple #[.pointer (some ⟨w3.heap.size, 0, none⟩), .int .i64 0]) (by kernel_rfl) (by kernel_rfl) (newDk_mk (w := w0) (P := w1.heap.size) (M := w2.heap.size) hP hM bb hP1 hM1)
    · have al : Below w1.heap.size w1 (w1.alloc (.map #[] 0)) := (Below.refl _ _).alloc (Nat.le_refl _) _
      have hM : (w1.alloc (.map #[] 0)).heap[w1.heap.size]? = some (.map #[] 0) := heap_alloc_new w1 _
      have hM1 := bb.size
      have bb := thenBelow bb al
      clear al
      generalize (w1.alloc (.map #[] 0)) = w4 at bb hM ⊢
      refine rg_run 2 (by kernel_rfl) rfl (by kernel_rfl) (.slice (some ⟨w4.heap.size, 0, none⟩) 2 2) (w4.alloc (.cells twoCells 69)) (exec_mk _ _ rfl (by kernel_rfl) (by kernel_rfl)) trivial ?_
      have al : Below w4.heap.size w4 (w4.alloc (.cells twoCells 69)) := (Below.refl _ _).alloc (Nat.le_refl _) _
      have hP : (w4.alloc (.cells twoCells 69)).heap[w4.heap.size]? = some (.cells twoCells 69 (0, 0)) := heap_alloc_new w4 _
      have hP1 := bb.size
      have hM := (al.block _ (Array.getElem?_eq_some_iff.1 hM).1).trans hM
      have bb := thenBelow bb al
      clear al
      generalize (w4.alloc (.cells twoCells 69)) = w5 at bb hP hM ⊢
      refine rgd_pure 4 (some 14) rfl rfl (.agg #[.bool false, .int .i64 (-1), .slice (some ⟨w4.heap.size, 0, none⟩) 2 2, .map (some w1.heap.size)]) (by kernel_rfl) (by kernel_rfl) (by kernel_rfl) (fun _ _ _ _ h => h) (by kernel_rfl) (fun _ => by kernel_rfl) trivial ?_
      refine rg_run 5 (by kernel_rfl) rfl (by kernel_rfl) (.pointer (some ⟨w5.heap.size, 0, none⟩)) (w5.alloc (.cells #[.bool false, .int .i64 (-1), .slice (some ⟨w4.heap.size, 0, none⟩) 2 2, .map (some w1.heap.size)] 56)) (by kernel_rfl) trivial ?_
      refine rgd_pure 6 (some 2) rfl rfl (.pointer (some ⟨w5.heap.size, 0, none⟩)) (by kernel_rfl) (by kernel_rfl) (by kernel_rfl) (fun _ _ _ _ h => h) (by kernel_rfl) (fun _ => by kernel_rfl) trivial ?_
      refine rgd_pure 7 (some 3) rfl rfl (.int .i64 0) (by kernel_rfl) (by kernel_rfl) (by kernel_rfl) (fun _ _ _ _ h => h) (by kernel_rfl) (fun _ => by kernel_rfl) trivial ?_
      refine wpAnyH_done (by kernel_rfl) ?_ _
      refine ‹∀ (a : Act) (w : World), Code.wp Try.prog Code.ret (bodyPost Try.prog Try.f7 (NewDk w0)) a w → _› _ _ ?_
      refine wp_ret ?_
      exact bodyPost_ret (v := .tuple #[.pointer (some ⟨w5.heap.size, 0, none⟩), .int .i64 0]) (by kernel_rfl) (by kernel_rfl) (newDk_mk (w := w0) (P := w4.heap.size) (M := w1.heap.size) hP hM bb hP1 hM1)
  · have al : Below wa.heap.size wa (wa.alloc (.cells twoCells 69)) := (Below.refl _ _).alloc (Nat.le_refl _) _
    have hP : (wa.alloc (.cells twoCells 69)).heap[wa.heap.size]? = some (.cells twoCells 69 (0, 0)) := heap_alloc_new wa _
    have hP1 := bb.size
    have bb := thenBelow bb al
    clear al
    generalize (wa.alloc (.cells twoCells 69)) = w6 at bb hP ⊢
    refine rg_two2 0 3 (by kernel_rfl) rfl (by kernel_rfl) 23 #[] (by kernel_rfl) (fresh_is w6) rfl (by kernel_rfl) (.map (some w6.heap.size)) (w6.alloc (.map #[] 0)) (by kernel_rfl) trivial ?_ ?_
    · rintro e w7 ⟨rfl, hb⟩
      have hP := (hb.block _ (Array.getElem?_eq_some_iff.1 hP).1).trans hP
      have bb := thenBelow bb hb
      clear hb
      refine ⟨_, rfl, trivial, ?_⟩
      refine rg_run 3 (by kernel_rfl) rfl (by kernel_rfl) (.map (some w7.heap.size)) (w7.alloc (.map #[] 0)) (by kernel_rfl) trivial ?_
      have al : Below w7.heap.size w7 (w7.alloc (.map #[] 0)) := (Below.refl _ _).alloc (Nat.le_refl _) _
      have hM : (w7.alloc (.map #[] 0)).heap[w7.heap.size]? = some (.map #[] 0) := heap_alloc_new w7 _
      have hM1 := bb.size
      have hP := (al.block _ (Array.getElem?_eq_some_iff.1 hP).1).trans hP
      have bb := thenBelow bb al
      clear al
      generalize (w7.alloc (.map #[] 0)) = w8 at bb hP hM ⊢
      refine rgd_pure 4 (some 14) rfl rfl (.agg #[.bool false, .int .i64 (-1), .slice (some ⟨wa.heap.size, 0, none⟩) 2 2, .map (some w7.heap.size)]) (by kernel_rfl) (by kernel_rfl) (by kernel_rfl) (fun _ _ _ _ h => h) (by kernel_rfl) (fun _ => by kernel_rfl) trivial ?_
      refine rg_run 5 (by kernel_rfl) rfl (by kernel_rfl) (.pointer (some ⟨w8.heap.size, 0, none⟩)) (w8.alloc (.cells #[.bool false, .int .i64 (-1), .slice (some ⟨wa.heap.size, 0, none⟩) 2 2, .map (some w7.heap.size)] 56)) (by kernel_rfl) trivial ?_
      refine rgd_pure 6 (some 2) rfl rfl (.pointer (some ⟨w8.heap.size, 0, none⟩)) (by kernel_rfl) (by kernel_rfl) (by kernel_rfl) (fun _ _ _ _ h => h) (by kernel_rfl) (fun _ => by kernel_rfl) trivial ?_
      refine rgd_pure 7 (some 3) rfl rfl (.int .i64 0) (by kernel_rfl) (by kernel_rfl) (by kernel_rfl) (fun _ _ _ _ h => h) (by kernel_rfl) (fun _ => by kernel_rfl) trivial ?_
      refine wpAnyH_done (by kernel_rfl) ?_ _
      refine ‹∀ (a : Act) (w : World), Code.wp Try.prog Code.ret (bodyPost Try.prog Try.f7 (NewDk w0)) a w → _› _ _ ?_
      refine wp_ret ?_
      exact bodyPost_ret (v := .tuple #[.pointer (some ⟨w8.heap.size, 0, none⟩), .int .i64 0]) (by kernel_rfl) (by kernel_rfl) (newDk_mk (w := w0) (P := wa.heap.size) (M := w7.heap.size) hP hM bb hP1 hM1)
    · have al : Below w6.heap.size w6 (w6.alloc (.map #[] 0)) := (Below.refl _ _).alloc (Nat.le_refl _) _
      have hM : (w6.alloc (.map #[] 0)).heap[w6.heap.size]? = some (.map #[] 0) := heap_alloc_new w6 _
      have hM1 := bb.size
      have hP := (al.block _ (Array.getElem?_eq_some_iff.1 hP).1).trans hP
      have bb := thenBelow bb al
      clear al
      generalize (w6.alloc (.map #[] 0)) = w9 at bb hP hM ⊢
      refine rg_call 0 (by kernel_rfl) rfl (by kernel_rfl) 23 #[] (by kernel_rfl) (fresh_is w9) ?_
      rintro e w10 ⟨rfl, hb⟩
      have hP := (hb.block _ (Array.getElem?_eq_some_iff.1 hP).1).trans hP
      have hM := (hb.block _ (Array.getElem?_eq_some_iff.1 hM).1).trans hM
      have bb := thenBelow bb hb
      clear hb
      refine ⟨_, rfl, trivial, ?_⟩
      refine rgd_pure 4 (some 14) rfl rfl (.agg #[.bool false, .int .i64 (-1), .slice (some ⟨wa.heap.size, 0, none⟩) 2 2, .map (some w6.heap.size)]) (by kernel_rfl) (by kernel_rfl) (by kernel_rfl) (fun _ _ _ _ h => h) (by kernel_rfl) (fun _ => by kernel_rfl) trivial ?_
      refine rg_run 5 (by kernel_rfl) rfl (by kernel_rfl) (.pointer (some ⟨w10.heap.size, 0, none⟩)) (w10.alloc (.cells #[.bool false, .int .i64 (-1), .slice (some ⟨wa.heap.size, 0, none⟩) 2 2, .map (some w6.heap.size)] 56)) (by kernel_rfl) trivial ?_
      refine rgd_pure 6 (some 2) rfl rfl (.pointer (some ⟨w10.heap.size, 0, none⟩)) (by kernel_rfl) (by kernel_rfl) (by kernel_rfl) (fun _ _ _ _ h => h) (by kernel_rfl) (fun _ => by kernel_rfl) trivial ?_
      refine rgd_pure 7 (some 3) rfl rfl (.int .i64 0) (by kernel_rfl) (by kernel_rfl) (by kernel_rfl) (fun _ _ _ _ h => h) (by kernel_rfl) (fun _ => by kernel_rfl) trivial ?_
      refine wpAnyH_done (by kernel_rfl) ?_ _
      refine ‹∀ (a : Act) (w : World), Code.wp Try.prog Code.ret (bodyPost Try.prog Try.f7 (NewDk w0)) a w → _› _ _ ?_
      refine wp_ret ?_
      exact bodyPost_ret (v := .tuple #[.pointer (some ⟨w10.heap.size, 0, none⟩), .int .i64 0]) (by kernel_rfl) (by kernel_rfl) (newDk_mk (w := w0) (P := wa.heap.size) (M := w6.heap.size) hP hM bb hP1 hM1)
  · have al : Below wa.heap.size wa (wa.alloc (.map #[] 0)) := (Below.refl _ _).alloc (Nat.le_refl _) _
    have hM : (wa.alloc (.map #[] 0)).heap[wa.heap.size]? = some (.map #[] 0) := heap_alloc_new wa _
    have hM1 := bb.size
    have bb := thenBelow bb al
    clear al
    generalize (wa.alloc (.map #[] 0)) = w11 at bb hM ⊢
    refine rg_two2 0 2 (by kernel_rfl) rfl (by kernel_rfl) 23 #[] (by kernel_rfl) (fresh_is w11) rfl (by kernel_rfl) (.slice (some ⟨w11.heap.size, 0, none⟩) 2 2) (w11.alloc (.cells twoCells 69)) (exec_mk _ _ rfl (by kernel_rfl) (by kernel_rfl)) trivial ?_ ?_
    · rintro e w12 ⟨rfl, hb⟩
      have hM := (hb.block _ (Array.getElem?_eq_some_iff.1 hM).1).trans hM
      have bb := thenBelow bb hb
      clear hb
      refine ⟨_, rfl, trivial, ?_⟩
      refine rg_run 2 (by kernel_rfl) rfl (by kernel_rfl) (.slice (some ⟨w12.heap.size, 0, none⟩) 2 2) (w12.alloc (.cells twoCells 69)) (exec_mk _ _ rfl (by kernel_rfl) (by kernel_rfl)) trivial ?_
      have al : Below w12.heap.size w12 (w12.alloc (.cells twoCells 69)) := (Below.refl _ _).alloc (Nat.le_refl _) _
      have hP : (w12.alloc (.cells twoCells 69)).heap[w12.heap.size]? = some (.cells twoCells 69 (0, 0)) := heap_alloc_new w12 _
      have hP1 := bb.size
      have hM := (al.block _ (Array.getElem?_eq_some_iff.1 hM).1).trans hM
      have bb := thenBelow bb al
      clear al
      generalize (w12.alloc (.cells twoCells 69)) = w13 at bb hP hM ⊢
      refine rgd_pure 4 (some 14) rfl rfl (.agg #[.bool false, .int .i64 (-1), .slice (some ⟨w12.heap.size, 0, none⟩) 2 2, .map (some wa.heap.size)]) (by kernel_rfl) (by kernel_rfl) (by kernel_rfl) (fun _ _ _ _ h => h) (by kernel_rfl) (fun _ => by kernel_rfl) trivial ?_
      refine rg_run 5 (by kernel_rfl) rfl (by kernel_rfl) (.pointer (some ⟨w13.heap.size, 0, none⟩)) (w13.alloc (.cells #[.bool false, .int .i64 (-1), .slice (some ⟨w12.heap.size, 0, none⟩) 2 2, .map (some wa.heap.size)] 56)) (by kernel_rfl) trivial ?_
      refine rgd_pure 6 (some 2) rfl rfl (.pointer (some ⟨w13.heap.size, 0, none⟩)) (by kernel_rfl) (by kernel_rfl) (by kernel_rfl) (fun _ _ _ _ h => h) (by kernel_rfl) (fun _ => by kernel_rfl) trivial ?_
      refine rgd_pure 7 (some 3) rfl rfl (.int .i64 0) (by kernel_rfl) (by kernel_rfl) (by kernel_rfl) (fun _ _ _ _ h => h) (by kernel_rfl) (fun _ => by kernel_rfl) trivial ?_
      refine wpAnyH_done (by kernel_rfl) ?_ _
      refine ‹∀ (a : Act) (w : World), Code.wp Try.prog Code.ret (bodyPost Try.prog Try.f7 (NewDk w0)) a w → _› _ _ ?_
      refine wp_ret ?_
      exact bodyPost_ret (v := .tuple #[.pointer (some ⟨w13.heap.size, 0, none⟩), .int .i64 0]) (by kernel_rfl) (by kernel_rfl) (newDk_mk (w := w0) (P := w12.heap.size) (M := wa.heap.size) hP hM bb hP1 hM1)
    · have al : Below w11.heap.size w11 (w11.alloc (.cells twoCells 69)) := (Below.refl _ _).alloc (Nat.le_refl _) _
      have hP : (w11.alloc (.cells twoCells 69)).heap[w11.heap.size]? = some (.cells twoCells 69 (0, 0)) := heap_alloc_new w11 _
      have hP1 := bb.size
      have hM := (al.block _ (Array.getElem?_eq_some_iff.1 hM).1).trans hM
      have bb := thenBelow bb al
      clear al
      generalize (w11.alloc (.cells twoCells 69)) = w14 at bb hP hM ⊢
      refine rg_call 0 (by kernel_rfl) rfl (by kernel_rfl) 23 #[] (by kernel_rfl) (fresh_is w14) ?_
      rintro e w15 ⟨rfl, hb⟩
      have hP := (hb.block _ (Array.getElem?_eq_some_iff.1 hP).1).trans hP
      have hM := (hb.block _ (Array.getElem?_eq_some_iff.1 hM).1).trans hM
      have bb := thenBelow bb hb
      clear hb
      refine ⟨_, rfl, trivial, ?_⟩
      refine rgd_pure 4 (some 14) rfl rfl (.agg #[.bool false, .int .i64 (-1), .slice (some ⟨w11.heap.size, 0, none⟩) 2 2, .map (some wa.heap.size)]) (by kernel_rfl) (by kernel_rfl) (by kernel_rfl) (fun _ _ _ _ h => h) (by kernel_rfl) (fun _ => by kernel_rfl) trivial ?_
      refine rg_run 5 (by kernel_rfl) rfl (by kernel_rfl) (.pointer (some ⟨w15.heap.size, 0, none⟩)) (w15.alloc (.cells #[.bool false, .int .i64 (-1), .slice (some ⟨w11.heap.size, 0, none⟩) 2 2, .map (some wa.heap.size)] 56)) (by kernel_rfl) trivial ?_
      refine rgd_pure 6 (some 2) rfl rfl (.pointer (some ⟨w15.heap.size, 0, none⟩)) (by kernel_rfl) (by kernel_rfl) (by kernel_rfl) (fun _ _ _ _ h => h) (by kernel_rfl) (fun _ => by kernel_rfl) trivial ?_
      refine rgd_pure 7 (some 3) rfl rfl (.int .i64 0) (by kernel_rfl) (by kernel_rfl) (by kernel_rfl) (fun _ _ _ _ h => h) (by kernel_rfl) (fun _ => by kernel_rfl) trivial ?_
      refine wpAnyH_done (by kernel_rfl) ?_ _
      refine ‹∀ (a : Act) (w : World), Code.wp Try.prog Code.ret (bodyPost Try.prog Try.f7 (NewDk w0)) a w → _› _ _ ?_
      refine wp_ret ?_
      exact bodyPost_ret (v := .tuple #[.pointer (some ⟨w15.heap.size, 0, none⟩), .int .i64 0]) (by kernel_rfl) (by kernel_rfl) (newDk_mk (w := w0) (P := w11.heap.size) (M := wa.heap.size) hP hM bb hP1 hM1)
end Go.Proofs.Ytfgjcgonlpbdbaa
