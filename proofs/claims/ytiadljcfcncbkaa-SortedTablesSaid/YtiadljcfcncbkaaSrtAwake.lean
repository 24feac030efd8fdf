/- sorted's example. -/
import Derived.Test.YtiadljcfcncbkaaHpMerge
import Derived.Test.YtiadljcfcncbkaaEqualI
namespace Go.Proofs.Ytiadljcfcncbkaa
open Go Go.RowKit Hp
set_option linter.unusedVariables false

theorem run5 : ∀ j, j < 5 → (MS.run lessKey [[1, 4], [2, 4], [0]] j).l ≠ [] := by decide +kernel
theorem run_out : (MS.run lessKey [[1, 4], [2, 4], [0]] 5).out = [0, 1, 2, 4, 4] := by decide +kernel
set_option maxHeartbeats 4000000 in
set_option maxRecDepth 100000 in
theorem awake6 (w : World) : Calls Try.prog 20 #[] w fun e w' => e = .returned (.bool true) ∧ Below w.heap.size w w' := by
  go_enter Try.func20, Try.ntmps20
  go_wp2_with fail
  have up : ∀ (W : World) (o : Obj) (k : Nat) (x : Obj), W.heap[k]? = some x → (W.alloc o).heap[k]? = some x := fun W o k x h => (Below.heap_alloc W o k (Array.getElem?_eq_some_iff.1 h).1).trans h
  have g0 := heap_alloc_new w (.cells #[.int .i64 1, .int .i64 4] 3)
  have g1 := heap_alloc_new (w.alloc (.cells #[.int .i64 1, .int .i64 4] 3)) (.cells #[.int .i64 2, .int .i64 4] 3)
  have g2 := heap_alloc_new ((w.alloc (.cells #[.int .i64 1, .int .i64 4] 3)).alloc (.cells #[.int .i64 2, .int .i64 4] 3)) (.cells #[.int .i64 0] 3)
  have g3 := heap_alloc_new (((w.alloc (.cells #[.int .i64 1, .int .i64 4] 3)).alloc (.cells #[.int .i64 2, .int .i64 4] 3)).alloc (.cells #[.int .i64 0] 3)) (.cells #[.slice (some ⟨w.heap.size, 0, none⟩) 2 2, .slice (some ⟨w.heap.size + 1, 0, none⟩) 2 2, .slice (some ⟨w.heap.size + 2, 0, none⟩) 1 1] 24)
  simp only [Nat.add_assoc, Nat.reduceAdd, World.size_alloc] at g1 g2 g3 ⊢
  have G0 := up _ (.cells #[.slice (some ⟨w.heap.size, 0, none⟩) 2 2, .slice (some ⟨w.heap.size + 1, 0, none⟩) 2 2, .slice (some ⟨w.heap.size + 2, 0, none⟩) 1 1] 24) _ _ (up _ (.cells #[.int .i64 0] 3) _ _ (up _ (.cells #[.int .i64 2, .int .i64 4] 3) _ _ g0))
  have G1 := up _ (.cells #[.slice (some ⟨w.heap.size, 0, none⟩) 2 2, .slice (some ⟨w.heap.size + 1, 0, none⟩) 2 2, .slice (some ⟨w.heap.size + 2, 0, none⟩) 1 1] 24) _ _ (up _ (.cells #[.int .i64 0] 3) _ _ g1)
  have G2 := up _ (.cells #[.slice (some ⟨w.heap.size, 0, none⟩) 2 2, .slice (some ⟨w.heap.size + 1, 0, none⟩) 2 2, .slice (some ⟨w.heap.size + 2, 0, none⟩) 1 1] 24) _ _ g2
  have hb4 : Below w.heap.size w ((((w.alloc (.cells #[.int .i64 1, .int .i64 4] 3)).alloc (.cells #[.int .i64 2, .int .i64 4] 3)).alloc (.cells #[.int .i64 0] 3)).alloc (.cells #[.slice (some ⟨w.heap.size, 0, none⟩) 2 2, .slice (some ⟨w.heap.size + 1, 0, none⟩) 2 2, .slice (some ⟨w.heap.size + 2, 0, none⟩) 1 1] 24)) := ((((Below.refl _ w).alloc (Nat.le_refl _) _).alloc (by simp) _).alloc (by simp; omega) _).alloc (by simp; omega) _
  clear g0 g1 g2 up
  generalize (((w.alloc (.cells #[.int .i64 1, .int .i64 4] 3)).alloc (.cells #[.int .i64 2, .int .i64 4] 3)).alloc (.cells #[.int .i64 0] 3)).alloc (.cells #[.slice (some ⟨w.heap.size, 0, none⟩) 2 2, .slice (some ⟨w.heap.size + 1, 0, none⟩) 2 2, .slice (some ⟨w.heap.size + 2, 0, none⟩) 1 1] 24) = W4 at G0 G1 G2 g3 hb4 ⊢
  have hl : LLies W4 (w.heap.size + 3) 0 [[1, 4], [2, 4], [0]] := by
    intro i hi
    match i, hi with
    | 0, _ =>
      refine ⟨_, _, (cell_of_row W4 (w.heap.size + 3) 0 _ _ _ g3).trans rfl, fun k hk => ⟨_, _, rfl, ?_⟩⟩
      match k, hk with
      | 0, _ => exact (cell_of_row W4 w.heap.size 0 _ _ _ G0).trans rfl
      | 1, _ => exact (cell_of_row W4 w.heap.size 1 _ _ _ G0).trans rfl
    | 1, _ =>
      refine ⟨_, _, (cell_of_row W4 (w.heap.size + 3) 1 _ _ _ g3).trans rfl, fun k hk => ⟨_, _, rfl, ?_⟩⟩
      match k, hk with
      | 0, _ => exact (cell_of_row W4 (w.heap.size + 1) 0 _ _ _ G1).trans rfl
      | 1, _ => exact (cell_of_row W4 (w.heap.size + 1) 1 _ _ _ G1).trans rfl
    | 2, _ =>
      refine ⟨_, _, (cell_of_row W4 (w.heap.size + 3) 2 _ _ _ g3).trans rfl, fun k hk => ⟨_, _, rfl, ?_⟩⟩
      match k, hk with
      | 0, _ => exact (cell_of_row W4 (w.heap.size + 2) 0 _ _ _ G2).trans rfl
  clear G0 G1 G2 g3
  refine (merge_is (w.heap.size + 3) 0 3 [[1, 4], [2, 4], [0]] 27 #[] lessKey (fun _ => True) (fun _ => True) less_tell W4 (fun _ _ _ _ => trivial) trivial hl (by decide) (by decide) (fun _ _ _ _ => trivial)).mono ?_
  rintro e w5 ⟨v, rfl, ⟨j, j1, j2, hown⟩, hb5⟩
  have hj : j = 5 := by
    rcases Nat.lt_trichotomy j 5 with h | h | h
    · exact absurd j2 (run5 j h)
    · exact h
    · exact absurd awake_ends (j1 5 h)
  subst hj
  rw [run_out] at hown
  obtain ⟨_, p, cap, rfl, _, hlies, _⟩ := own_liesI (l := [0, 1, 2, 4, 4]) hown
  have HV := Lib.hid hlies; have B5 := Lib.hid (hb4.trans (hb5.mono hb4.size))
  clear hlies hown hb4 hb5 j1 j2 hl
  go_wp2_with fail
  have hA := heap_alloc_new w5 (.cells #[.int .i64 0, .int .i64 1, .int .i64 2, .int .i64 4, .int .i64 4] 3)
  have hbA : Below w5.heap.size w5 (w5.alloc (.cells #[.int .i64 0, .int .i64 1, .int .i64 2, .int .i64 4, .int .i64 4] 3)) := (Below.refl _ w5).alloc (Nat.le_refl _) _
  generalize w5.alloc (.cells #[.int .i64 0, .int .i64 1, .int .i64 2, .int .i64 4, .int .i64 4] 3) = w6 at hA hbA ⊢
  have hl2 : LiesI w6 (some ⟨w5.heap.size, 0, none⟩) [0, 1, 2, 4, 4] := fun _ => ⟨_, _, rfl, fun i hi => by
    match i, hi with
    | 0, _ => exact (cell_of_row w6 _ 0 _ _ _ hA).trans rfl
    | 1, _ => exact (cell_of_row w6 _ 1 _ _ _ hA).trans rfl
    | 2, _ => exact (cell_of_row w6 _ 2 _ _ _ hA).trans rfl
    | 3, _ => exact (cell_of_row w6 _ 3 _ _ _ hA).trans rfl
    | 4, _ => exact (cell_of_row w6 _ 4 _ _ _ hA).trans rfl⟩
  have B6 := Lib.hid (B5.out.trans (hbA.mono B5.out.size))
  refine (equalI_any p (some ⟨w5.heap.size, 0, none⟩) cap 5 [0, 1, 2, 4, 4] w6 (HV.out.below hbA) hl2 (by decide)).mono ?_
  rintro e w7 ⟨rfl, hb7⟩
  have B7 := Lib.hid (thenBelow B6.out hb7)
  clear hA hbA hl2 hb7
  go_wp2_with fail
  go_ret
  exact ⟨ret_bool rfl, B7.out⟩
end Go.Proofs.Ytiadljcfcncbkaa
