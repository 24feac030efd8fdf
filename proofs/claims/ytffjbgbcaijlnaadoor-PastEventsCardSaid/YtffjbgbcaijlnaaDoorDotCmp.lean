/- How two dots stand. -/
import Derived.Test.YtffjbgbcaijlnaaDoorVecIn
import Derived.Test.YtffjbgbcaijlnaaDoorGen
namespace Go.Proofs.YtffjbgbcaijlnaaDoor
open Go Go.RowKit
set_option linter.unusedVariables false

/-- -1, 0, 1 -/
def cmpI (x y : Int) : Int := if x < y then -1 else if x > y then 1 else 0
theorem isNaN_is (x : Int) (w : World) : Calls Tryd.prog 96 #[.int .i64 x] w fun e w' => e = .returned (.bool false) ∧ w = w' := by
  go_enter Tryd.func96, Tryd.ntmps96
  go_wp2
  go_ret
  exact ⟨ret_bool (by simp), rfl⟩
theorem compare_is (x y : Int) (w : World) : Calls Tryd.prog 84 #[.int .i64 x, .int .i64 y] w fun e w' => e = .returned (.int .i64 (cmpI x y)) ∧ w = w' := by
  have Nx := Lib.hid (isNaN_is x w); have Ny := Lib.hid (isNaN_is y w)
  unfold cmpI
  by_cases h : x < y
  · rw [if_pos h]
    go_enter Tryd.func84, Tryd.ntmps84
    go_wp2_with fail
    refine Nx.out.mono ?_
    rintro e w' ⟨rfl, rfl⟩
    go_wp2_with fail
    refine Ny.out.mono ?_
    rintro e w' ⟨rfl, rfl⟩
    go_wp2
    go_ret
    exact ⟨rfl, rfl⟩
  · rw [if_neg h]
    by_cases h2 : x > y
    · rw [if_pos h2]
      go_enter Tryd.func84, Tryd.ntmps84
      go_wp2_with fail
      refine Nx.out.mono ?_
      rintro e w' ⟨rfl, rfl⟩
      go_wp2_with fail
      refine Ny.out.mono ?_
      rintro e w' ⟨rfl, rfl⟩
      go_wp2
      go_ret
      exact ⟨rfl, rfl⟩
    · rw [if_neg h2]
      go_enter Tryd.func84, Tryd.ntmps84
      go_wp2_with fail
      refine Nx.out.mono ?_
      rintro e w' ⟨rfl, rfl⟩
      go_wp2_with fail
      refine Ny.out.mono ?_
      rintro e w' ⟨rfl, rfl⟩
      go_wp2
      go_ret
      exact ⟨rfl, rfl⟩
/-- the first one that is not nought -/
def orI (x y : Int) : Int := if x = 0 then y else x
theorem or_is (G : Nat) (x y : Int) (w : World) (h0 : w.cell? ⟨G, 0, none⟩ = some (.int .i64 x)) (h1 : w.cell? ⟨G, 1, none⟩ = some (.int .i64 y)) :
    Calls Tryd.prog 83 #[.slice (some ⟨G, 0, none⟩) 2 2] w fun e w' => e = .returned (.int .i64 (orI x y)) ∧ w = w' := by
  have e00 : orI 0 y = y := by simp [orI]
  have HO := Lib.hid e00
  clear e00
  go_enter Tryd.func83, Tryd.ntmps83
  go_wp2
  go_loop [8] (fun i => (i = .int .i64 0) ∨ (i = .int .i64 1 ∧ x = 0) ∨ (i = .int .i64 2 ∧ x = 0 ∧ y = 0)) (fun i => 2 - (intOf i).toNat)
  case atStart => exact .inl rfl
  case round =>
    rcases hrel with rfl | ⟨rfl, rfl⟩ | ⟨rfl, rfl, rfl⟩
    · by_cases hx : x = 0
      · subst hx
        go_wp2
        go_round
        case rel => exact .inr (.inl (by simp))
        case measure => simp [intOf]
      · have e1 : (x != 0) = true := by simpa using hx
        have HX : Hid (orI x y = x) := by show orI x y = x; simp [orI, hx]
        clear hx
        go_wp2
        go_ret
        exact ⟨by rw [HX.out]; rfl, rfl⟩
    · by_cases hy : y = 0
      · subst hy
        go_wp2
        go_round
        case rel => exact .inr (.inr (by simp))
        case measure => simp [intOf]
      · have e1 : (y != 0) = true := by simpa using hy
        clear hy
        go_wp2
        go_ret
        exact ⟨by rw [HO.out]; rfl, rfl⟩
    · go_wp2
      go_ret
      exact ⟨by rw [HO.out]; rfl, rfl⟩

/-- how two dots stand -/
def cmpD (r n r' n' : Int) : Int := orI (cmpI r r') (cmpI n n')
def lessD (r n r' n' : Int) : Bool := decide (r < r') || (decide (r = r') && decide (n < n'))
theorem cmpD_lt (r n r' n' : Int) : decide (cmpD r n r' n' < 0) = lessD r n r' n' := by
  unfold cmpD lessD orI cmpI
  by_cases h1 : r < r'
  · simp [h1]
  · by_cases h2 : r' < r
    · have : r ≠ r' := by omega
      simp [h1, h2, this]
    · have : r = r' := by omega
      subst this
      by_cases h3 : n < n'
      · simp [h3]
      · by_cases h4 : n' < n <;> simp [h3, h4]
theorem cmpD_gt (r n r' n' : Int) : decide (cmpD r n r' n' > 0) = lessD r' n' r n := by
  unfold cmpD lessD orI cmpI
  by_cases h1 : r < r'
  · have : ¬ r' < r := by omega
    have h5 : r' ≠ r := by omega
    simp [h1, this, h5]
  · by_cases h2 : r' < r
    · simp [h1, h2]
    · have : r = r' := by omega
      subst this
      by_cases h3 : n < n'
      · have : ¬ n' < n := by omega
        simp [h3, this]
      · by_cases h4 : n' < n <;> simp [h3, h4]
set_option maxHeartbeats 1000000 in
set_option maxRecDepth 100000 in
theorem dotCompare_is (r n r' n' : Int) (w : World) : Calls Tryd.prog 62 #[.agg #[.int .i64 r, .int .i64 n], .agg #[.int .i64 r', .int .i64 n']] w fun e w' => e = .returned (.int .i64 (cmpD r n r' n')) ∧ Below w.heap.size w w' := by
  go_enter Tryd.func62, Tryd.ntmps62
  go_wp2
  have hA := heap_alloc_new w (.cells #[.int .i64 r, .int .i64 n] 23)
  have hB := heap_alloc_new (w.alloc (.cells #[.int .i64 r, .int .i64 n] 23)) (.cells #[.int .i64 r', .int .i64 n'] 23)
  have hbel : Below w.heap.size w ((w.alloc (.cells #[.int .i64 r, .int .i64 n] 23)).alloc (.cells #[.int .i64 r', .int .i64 n'] 23)) := thenBelow (below_alloc _ _) (below_alloc _ _)
  have hz : (w.alloc (.cells #[.int .i64 r, .int .i64 n] 23)).heap.size = w.heap.size + 1 := by simp
  rw [hz] at hB
  have a0 := cell_alloc (.cells #[.int .i64 r', .int .i64 n'] 23) ((cell_of_row _ w.heap.size 0 _ _ _ hA).trans (show _ = some (.int .i64 r) from rfl))
  have a1 := cell_alloc (.cells #[.int .i64 r', .int .i64 n'] 23) ((cell_of_row _ w.heap.size 1 _ _ _ hA).trans (show _ = some (.int .i64 n) from rfl))
  have b0 := (cell_of_row _ (w.heap.size + 1) 0 _ _ _ hB).trans (show _ = some (.int .i64 r') from rfl)
  have b1 := (cell_of_row _ (w.heap.size + 1) 1 _ _ _ hB).trans (show _ = some (.int .i64 n') from rfl)
  generalize (w.alloc (.cells #[.int .i64 r, .int .i64 n] 23)).alloc (.cells #[.int .i64 r', .int .i64 n'] 23) = w2 at hbel a0 a1 b0 b1 ⊢
  clear hA hB hz
  have B2 := Lib.hid hbel
  have a0 := cell_regrown a0; have a1 := cell_regrown a1; have b0 := cell_regrown b0; have b1 := cell_regrown b1
  have c1 := quiet_call (w := w2) (fun W => (compare_is r r' W).mono fun e w' ⟨h1, h2⟩ => ⟨h1, by subst h2; exact Below.refl _ _⟩)
  have c2 := quiet_call (w := w2) (fun W => (compare_is n n' W).mono fun e w' ⟨h1, h2⟩ => ⟨h1, by subst h2; exact Below.refl _ _⟩)
  have HD : Hid (cmpD r n r' n' = orI (cmpI r r') (cmpI n n')) := rfl
  generalize cmpI r r' = x at c1 HD
  generalize cmpI n n' = y at c2 HD
  refine wp_region_below_tail 10 (by kernel_rfl) (by kernel_rfl) ?_
  simp only [List.take_succ_cons, List.take_zero, List.drop_succ_cons, List.drop_zero]
  iterate 4 (quiet_step (fail))
  quiet_step (exact c1 _ _)
  iterate 4 (quiet_step (fail))
  quiet_step (exact c2 _ _)
  refine wpQuiet_nil ?_
  rintro _ ⟨⟨dq, osq⟩, rfl⟩
  have B3 := Lib.hid (thenBelow B2.out (below_regrown w2 dq osq))
  generalize Sort.grow (redrawn w2 dq) osq = w3 at B3 ⊢
  clear a0 a1 b0 b1 c1 c2
  have hO := Lib.hid (or_is w3.heap.size x y (w3.alloc (.cells #[.int .i64 x, .int .i64 y] 3)) ((cell_of_row _ w3.heap.size 0 _ _ _ (heap_alloc_new w3 _)).trans rfl) ((cell_of_row _ w3.heap.size 1 _ _ _ (heap_alloc_new w3 _)).trans rfl))
  have B4 := Lib.hid (thenBelow B3.out (below_alloc w3 (.cells #[.int .i64 x, .int .i64 y] 3)))
  go_wp2_with fail
  refine hO.out.mono ?_
  rintro e w' ⟨rfl, rfl⟩
  go_wp2
  go_ret
  exact ⟨by rw [HD.out]; rfl, B4.out⟩
theorem less_is (r n r' n' : Int) (w : World) : Calls Tryd.prog 33 #[.agg #[.int .i64 r, .int .i64 n], .agg #[.int .i64 r', .int .i64 n']] w fun e w' => e = .returned (.bool (lessD r n r' n')) ∧ Below w.heap.size w w' := by
  have L0 : Hid (lessD r n r' n' = (decide (r < r') || (decide (r = r') && decide (n < n')))) := rfl
  by_cases h1 : r < r'
  · go_enter Tryd.func33, Tryd.ntmps33
    go_wp2
    go_ret
    exact ⟨ret_bool (by rw [L0.out]; simp [h1]), thenBelow (below_alloc _ _) (below_alloc _ _)⟩
  · by_cases h2 : r = r'
    · subst h2
      go_enter Tryd.func33, Tryd.ntmps33
      go_wp2
      go_ret
      exact ⟨ret_bool (by rw [L0.out]; simp), thenBelow (below_alloc _ _) (below_alloc _ _)⟩
    · have h3 : (r == r') = false := by simpa using h2
      go_enter Tryd.func33, Tryd.ntmps33
      go_wp2
      go_ret
      exact ⟨ret_bool (by rw [L0.out]; simp [h1, h2]), thenBelow (below_alloc _ _) (below_alloc _ _)⟩

end Go.Proofs.YtffjbgbcaijlnaaDoor
