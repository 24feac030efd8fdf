/- The statement DocsReads, proved for every input that its row reads: part 7 of 54. -/
import Derived.Test.YtijmijokgenflaaGreatDoorPackDocsReads4
import Derived.Test.YtijmijokgenflaaGreatDoorPackDocsReads6
/- How two dots stand. -/
namespace Go.Proofs.YtijmijokgenflaaGreatDoor
open Go Go.RowKit
set_option linter.unusedVariables false

/-- -1, 0, 1 -/
def cmpI (x y : Int) : Int := if x < y then -1 else if x > y then 1 else 0
theorem isNaN_is (x : Int) (w : World) : Calls Tryz.prog 85 #[.int .i64 x] w fun e w' => e = .returned (.bool false) ∧ w = w' := by
  go_enter Tryz.func85, Tryz.ntmps85
  go_wp2
  go_ret
  exact ⟨ret_bool (by simp), rfl⟩
theorem compare_is (x y : Int) (w : World) : Calls Tryz.prog 59 #[.int .i64 x, .int .i64 y] w fun e w' => e = .returned (.int .i64 (cmpI x y)) ∧ w = w' := by
  have Nx := Lib.hid (isNaN_is x w); have Ny := Lib.hid (isNaN_is y w)
  unfold cmpI
  by_cases h : x < y
  · rw [if_pos h]
    go_enter Tryz.func59, Tryz.ntmps59
    go_wp2_with fail
    refine Nx.out.mono ?_
    rintro e w' ⟨rfl, rfl⟩
    go_wp2_with fail
    refine Ny.out.mono ?_
    rintro e w' ⟨rfl, rfl⟩
    go_wp2
    go_ret
    exact ⟨rfl, rfl⟩
  · rw [if_neg h]
    by_cases h2 : x > y
    · rw [if_pos h2]
      go_enter Tryz.func59, Tryz.ntmps59
      go_wp2_with fail
      refine Nx.out.mono ?_
      rintro e w' ⟨rfl, rfl⟩
      go_wp2_with fail
      refine Ny.out.mono ?_
      rintro e w' ⟨rfl, rfl⟩
      go_wp2
      go_ret
      exact ⟨rfl, rfl⟩
    · rw [if_neg h2]
      go_enter Tryz.func59, Tryz.ntmps59
      go_wp2_with fail
      refine Nx.out.mono ?_
      rintro e w' ⟨rfl, rfl⟩
      go_wp2_with fail
      refine Ny.out.mono ?_
      rintro e w' ⟨rfl, rfl⟩
      go_wp2
      go_ret
      exact ⟨rfl, rfl⟩
/-- the first one that is not nought -/
def orI (x y : Int) : Int := if x = 0 then y else x
theorem or_is (G : Nat) (x y : Int) (w : World) (h0 : w.cell? ⟨G, 0, none⟩ = some (.int .i64 x)) (h1 : w.cell? ⟨G, 1, none⟩ = some (.int .i64 y)) :
    Calls Tryz.prog 58 #[.slice (some ⟨G, 0, none⟩) 2 2] w fun e w' => e = .returned (.int .i64 (orI x y)) ∧ w = w' := by
  have e00 : orI 0 y = y := by simp [orI]
  have HO := Lib.hid e00
  clear e00
  go_enter Tryz.func58, Tryz.ntmps58
  go_wp2
  go_loop [8] (fun i => (i = .int .i64 0) ∨ (i = .int .i64 1 ∧ x = 0) ∨ (i = .int .i64 2 ∧ x = 0 ∧ y = 0)) (fun i => 2 - (intOf i).toNat)
  case atStart => exact .inl rfl
  case round =>
    rcases hrel with rfl | ⟨rfl, rfl⟩ | ⟨rfl, rfl, rfl⟩
    · by_cases hx : x = 0
      · subst hx
        go_wp2
        go_round
        case rel => exact .inr (.inl (by simp))
        case measure => simp [intOf]
      · have e1 : (x != 0) = true := by simpa using hx
        have HX : Hid (orI x y = x) := by show orI x y = x; simp [orI, hx]
        clear hx
        go_wp2
        go_ret
        exact ⟨by rw [HX.out]; rfl, rfl⟩
    · by_cases hy : y = 0
      · subst hy
        go_wp2
        go_round
        case rel => exact .inr (.inr (by simp))
        case measure => simp [intOf]
      · have e1 : (y != 0) = true := by simpa using hy
        clear hy
        go_wp2
        go_ret
        exact ⟨by rw [HO.out]; rfl, rfl⟩
    · go_wp2
      go_ret
      exact ⟨by rw [HO.out]; rfl, rfl⟩

/-- how two dots stand -/
def cmpD (r n r' n' : Int) : Int := orI (cmpI r r') (cmpI n n')
def lessD (r n r' n' : Int) : Bool := decide (r < r') || (decide (r = r') && decide (n < n'))
theorem cmpD_lt (r n r' n' : Int) : decide (cmpD r n r' n' < 0) = lessD r n r' n' := by
  unfold cmpD lessD orI cmpI
  by_cases h1 : r < r'
  · simp [h1]
  · by_cases h2 : r' < r
    · have : r ≠ r' := by omega
      simp [h1, h2, this]
    · have : r = r' := by omega
      subst this
      by_cases h3 : n < n'
      · simp [h3]
      · by_cases h4 : n' < n <;> simp [h3, h4]
theorem cmpD_gt (r n r' n' : Int) : decide (cmpD r n r' n' > 0) = lessD r' n' r n := by
  unfold cmpD lessD orI cmpI
  by_cases h1 : r < r'
  · have : ¬ r' < r := by omega
    have h5 : r' ≠ r := by omega
    simp [h1, this, h5]
  · by_cases h2 : r' < r
    · simp [h1, h2]
    · have : r = r' := by omega
      subst this
      by_cases h3 : n < n'
      · have : ¬ n' < n := by omega
        simp [h3, this]
      · by_cases h4 : n' < n <;> simp [h3, h4]
set_option maxHeartbeats 1000000 in
set_option maxRecDepth 100000 in
theorem dotCompare_is (r n r' n' : Int) (w : World) : Calls Tryz.prog 30 #[.agg #[.int .i64 r, .int .i64 n], .agg #[.int .i64 r', .int .i64 n']] w fun e w' => e = .returned (.int .i64 (cmpD r n r' n')) ∧ Below w.heap.size w w' := by
  go_enter Tryz.func30, Tryz.ntmps30
  go_wp2
  have hA := heap_alloc_new w (.cells #[.int .i64 r, .int .i64 n] 37)
  have hB := heap_alloc_new (w.alloc (.cells #[.int .i64 r, .int .i64 n] 37)) (.cells #[.int .i64 r', .int .i64 n'] 37)
  have hbel : Below w.heap.size w ((w.alloc (.cells #[.int .i64 r, .int .i64 n] 37)).alloc (.cells #[.int .i64 r', .int .i64 n'] 37)) := thenBelow (below_alloc _ _) (below_alloc _ _)
  have hz : (w.alloc (.cells #[.int .i64 r, .int .i64 n] 37)).heap.size = w.heap.size + 1 := by simp
  rw [hz] at hB
  have a0 := cell_alloc (.cells #[.int .i64 r', .int .i64 n'] 37) ((cell_of_row _ w.heap.size 0 _ _ _ hA).trans (show _ = some (.int .i64 r) from rfl))
  have a1 := cell_alloc (.cells #[.int .i64 r', .int .i64 n'] 37) ((cell_of_row _ w.heap.size 1 _ _ _ hA).trans (show _ = some (.int .i64 n) from rfl))
  have b0 := (cell_of_row _ (w.heap.size + 1) 0 _ _ _ hB).trans (show _ = some (.int .i64 r') from rfl)
  have b1 := (cell_of_row _ (w.heap.size + 1) 1 _ _ _ hB).trans (show _ = some (.int .i64 n') from rfl)
  generalize (w.alloc (.cells #[.int .i64 r, .int .i64 n] 37)).alloc (.cells #[.int .i64 r', .int .i64 n'] 37) = w2 at hbel a0 a1 b0 b1 ⊢
  clear hA hB hz
  have B2 := Lib.hid hbel
  have a0 := cell_regrown a0; have a1 := cell_regrown a1; have b0 := cell_regrown b0; have b1 := cell_regrown b1
  have c1 := quiet_call (w := w2) (fun W => (compare_is r r' W).mono fun e w' ⟨h1, h2⟩ => ⟨h1, by subst h2; exact Below.refl _ _⟩)
  have c2 := quiet_call (w := w2) (fun W => (compare_is n n' W).mono fun e w' ⟨h1, h2⟩ => ⟨h1, by subst h2; exact Below.refl _ _⟩)
  have HD : Hid (cmpD r n r' n' = orI (cmpI r r') (cmpI n n')) := rfl
  generalize cmpI r r' = x at c1 HD
  generalize cmpI n n' = y at c2 HD
  refine wp_region_below_tail 10 (by kernel_rfl) (by kernel_rfl) ?_
  simp only [List.take_succ_cons, List.take_zero, List.drop_succ_cons, List.drop_zero]
  iterate 4 (quiet_step (fail))
  quiet_step (exact c1 _ _)
  iterate 4 (quiet_step (fail))
  quiet_step (exact c2 _ _)
  refine wpQuiet_nil ?_
  rintro _ ⟨⟨dq, osq⟩, rfl⟩
  have B3 := Lib.hid (thenBelow B2.out (below_regrown w2 dq osq))
  generalize Sort.grow (redrawn w2 dq) osq = w3 at B3 ⊢
  clear a0 a1 b0 b1 c1 c2
  have hO := Lib.hid (or_is w3.heap.size x y (w3.alloc (.cells #[.int .i64 x, .int .i64 y] 3)) ((cell_of_row _ w3.heap.size 0 _ _ _ (heap_alloc_new w3 _)).trans rfl) ((cell_of_row _ w3.heap.size 1 _ _ _ (heap_alloc_new w3 _)).trans rfl))
  have B4 := Lib.hid (thenBelow B3.out (below_alloc w3 (.cells #[.int .i64 x, .int .i64 y] 3)))
  go_wp2_with fail
  refine hO.out.mono ?_
  rintro e w' ⟨rfl, rfl⟩
  go_wp2
  go_ret
  exact ⟨by rw [HD.out]; rfl, B4.out⟩
theorem less_is (r n r' n' : Int) (w : World) : Calls Tryz.prog 33 #[.agg #[.int .i64 r, .int .i64 n], .agg #[.int .i64 r', .int .i64 n']] w fun e w' => e = .returned (.bool (lessD r n r' n')) ∧ Below w.heap.size w w' := by
  have L0 : Hid (lessD r n r' n' = (decide (r < r') || (decide (r = r') && decide (n < n')))) := rfl
  by_cases h1 : r < r'
  · go_enter Tryz.func33, Tryz.ntmps33
    go_wp2
    go_ret
    exact ⟨ret_bool (by rw [L0.out]; simp [h1]), thenBelow (below_alloc _ _) (below_alloc _ _)⟩
  · by_cases h2 : r = r'
    · subst h2
      go_enter Tryz.func33, Tryz.ntmps33
      go_wp2
      go_ret
      exact ⟨ret_bool (by rw [L0.out]; simp), thenBelow (below_alloc _ _) (below_alloc _ _)⟩
    · have h3 : (r == r') = false := by simpa using h2
      go_enter Tryz.func33, Tryz.ntmps33
      go_wp2
      go_ret
      exact ⟨ret_bool (by rw [L0.out]; simp [h1, h2]), thenBelow (below_alloc _ _) (below_alloc _ _)⟩

/-- a dot's cells -/
def dcs (r n : Int) : Array Value := #[.int .i64 r, .int .i64 n]
def vldB (r n : Int) : Bool := decide (0 ≤ r ∧ r < 64 ∧ 1 ≤ n ∧ n ≤ 1073741824)
theorem vld_iff (r n : Int) : vldB r n = true ↔ 0 ≤ r ∧ r < 64 ∧ 1 ≤ n ∧ n ≤ 1073741824 := by simp [vldB]
theorem vld_cases (r n : Int) : (r < 0 ∧ vldB r n = false) ∨ ((0 ≤ r ∧ 64 ≤ r) ∧ vldB r n = false) ∨ ((0 ≤ r ∧ r < 64) ∧ n < 1 ∧ vldB r n = false) ∨ ((0 ≤ r ∧ r < 64) ∧ (1 ≤ n ∧ 1073741824 < n) ∧ vldB r n = false) ∨ ((0 ≤ r ∧ r < 64) ∧ (1 ≤ n ∧ n ≤ 1073741824) ∧ vldB r n = true) := by
  have h := vld_iff r n
  cases e : vldB r n with
  | true => have := h.1 e; exact .inr (.inr (.inr (.inr ⟨⟨by omega, by omega⟩, ⟨by omega, by omega⟩, rfl⟩)))
  | false =>
    have : ¬ (0 ≤ r ∧ r < 64 ∧ 1 ≤ n ∧ n ≤ 1073741824) := fun h2 => by rw [h.2 h2] at e; cases e
    simp only [true_and, and_true]
    omega
theorem valid_is (r n : Int) (w : World) : Calls Tryz.prog 64 #[.agg (dcs r n)] w (RetBool w (vldB r n)) := by
  have key := vld_cases r n
  generalize vldB r n = b at key
  unfold dcs
  rcases key with ⟨h1, rfl⟩ | ⟨⟨h1, h2⟩, rfl⟩ | ⟨⟨h1, h2⟩, h3, rfl⟩ | ⟨⟨h1, h2⟩, ⟨h3, h4⟩, rfl⟩ | ⟨⟨h1, h2⟩, ⟨h3, h4⟩, rfl⟩
  all_goals
    go_enter Tryz.func64, Tryz.ntmps64
    go_wp2
    go_ret
    exact ⟨ret_bool (by first | rfl | (simp; done) | (simp; omega)), below_alloc _ _⟩
theorem refValid_is (r n : Int) (w : World) : Calls Tryz.prog 65 #[.agg (dcs r n)] w (RetBool w (vldB r n)) := by
  have key := vld_cases r n
  generalize vldB r n = b at key
  unfold dcs
  rcases key with ⟨h1, rfl⟩ | ⟨⟨h1, h2⟩, rfl⟩ | ⟨⟨h1, h2⟩, h3, rfl⟩ | ⟨⟨h1, h2⟩, ⟨h3, h4⟩, rfl⟩ | ⟨⟨h1, h2⟩, ⟨h3, h4⟩, rfl⟩
  all_goals
    go_enter Tryz.func65, Tryz.ntmps65
    go_wp2
    go_ret
    exact ⟨ret_bool (by first | rfl | (simp; done) | (simp; omega)), below_alloc _ _⟩

def hasB (f : Nat → Int) (r n : Int) : Bool := vldB r n && decide (n ≤ f r.toNat)
theorem has_in (f : Nat → Int) (i : Nat) (n : Int) (h : vldB i n = true) : hasB f i n = decide (n ≤ f i) := by simp [hasB, h]
theorem has_out (f : Nat → Int) (r n : Int) (h : vldB r n = false) : hasB f r n = false := by simp [hasB, h]
def withF (f : Nat → Int) (r n : Int) : Nat → Int := if vldB r n then vset f r.toNat (max (f r.toNat) n) else f
theorem with_in (f : Nat → Int) (i : Nat) (n : Int) (h : vldB i n = true) : withF f i n = vset f i (max (f i) n) := by simp [withF, h]
theorem with_out (f : Nat → Int) (r n : Int) (h : vldB r n = false) : withF f r n = f := by simp [withF, h]

set_option maxHeartbeats 1000000 in
set_option maxRecDepth 100000 in
theorem has_is (f : Nat → Int) (r n : Int) (w : World) : Calls Tryz.prog 43 #[.agg (vf f), .agg (dcs r n)] w (RetBool w (hasB f r n)) := by
  go_enter Tryz.func43, Tryz.ntmps43
  go_wp2_with (refine wpList_vbox vecI rfl _ rfl f rfl ?_)
  intro gv w1 lv rv hb1
  have B1 := Lib.hid hb1; have RV1 := Lib.hid rv
  clear hb1 rv
  go_wp2_with (refine wpList_gbox rfl _ rfl (dcs r n) rfl ?_)
  intro gd w2 ld hD hb2
  have B2 := Lib.hid (thenBelow B1.out hb2); have RV2 := Lib.hid (RV1.out.later hb2)
  have d0 := cell_regrown ((cell_of_row _ gd 0 _ _ _ hD).trans (show _ = some (.int .i64 r) from rfl))
  have d1 := cell_regrown ((cell_of_row _ gd 1 _ _ _ hD).trans (show _ = some (.int .i64 n) from rfl))
  have D0 := Lib.hid hD
  clear hD hb2
  have cV := quiet_call (w := w2) (valid_is r n)
  unfold dcs at cV
  cases e : vldB r n with
  | true =>
    have hv := (vld_iff r n).1 e
    obtain ⟨i, rfl⟩ : ∃ i : Nat, r = (i : Int) := ⟨r.toNat, by omega⟩
    rw [e] at cV
    have HB := Lib.hid (has_in f i n e)
    have hc := cell_regrown (RV2.out.cell i (by omega))
    have hi64 : (i : Int) < 64 := by omega
    clear e hv
    generalize f i = x at hc HB
    go_wp2
    refine wp_region_quiet_below (by kernel_rfl) (by kernel_rfl) ?_
    quiet_step (fail)
    quiet_step (exact cV _ _)
    repeat (quiet_step (fail))
    refine wpQuiet_nil ?_
    rintro _ ⟨⟨dq, osq⟩, rfl⟩
    have B3 := Lib.hid (thenBelow B2.out (below_regrown w2 dq osq))
    generalize Sort.grow (redrawn w2 dq) osq = w3 at B3 ⊢
    clear d0 d1 cV hc
    go_wp2
    go_ret
    exact ⟨ret_bool (by first | (rw [HB.out]; done) | (rw [HB.out]; simp; done) | (rw [HB.out]; simp; omega)), B3.out⟩
  | false =>
    rw [e] at cV
    have HB := Lib.hid (has_out f r n e)
    clear e
    go_wp2
    refine wp_region_quiet_below (by kernel_rfl) (by kernel_rfl) ?_
    quiet_step (fail)
    quiet_step (exact cV _ _)
    repeat (quiet_step (fail))
    refine wpQuiet_nil ?_
    rintro _ ⟨⟨dq, osq⟩, rfl⟩
    have B3 := Lib.hid (thenBelow B2.out (below_regrown w2 dq osq))
    generalize Sort.grow (redrawn w2 dq) osq = w3 at B3 ⊢
    clear d0 d1 cV
    go_wp2
    go_ret
    exact ⟨ret_bool (by rw [HB.out]), B3.out⟩
set_option maxHeartbeats 1000000 in
set_option maxRecDepth 100000 in
theorem refHas_is (f : Nat → Int) (r n : Int) (w : World) : Calls Tryz.prog 47 #[.agg (vf f), .agg (dcs r n)] w (RetBool w (hasB f r n)) := by
  go_enter Tryz.func47, Tryz.ntmps47
  go_wp2_with (refine wpList_vbox vecI rfl _ rfl f rfl ?_)
  intro gv w1 lv rv hb1
  have B1 := Lib.hid hb1; have RV1 := Lib.hid rv
  clear hb1 rv
  go_wp2_with (refine wpList_gbox rfl _ rfl (dcs r n) rfl ?_)
  intro gd w2 ld hD hb2
  have B2 := Lib.hid (thenBelow B1.out hb2); have RV2 := Lib.hid (RV1.out.later hb2)
  have d0 := cell_regrown ((cell_of_row _ gd 0 _ _ _ hD).trans (show _ = some (.int .i64 r) from rfl))
  have d1 := cell_regrown ((cell_of_row _ gd 1 _ _ _ hD).trans (show _ = some (.int .i64 n) from rfl))
  have D0 := Lib.hid hD
  clear hD hb2
  have cV := quiet_call (w := w2) (refValid_is r n)
  unfold dcs at cV
  cases e : vldB r n with
  | true =>
    have hv := (vld_iff r n).1 e
    obtain ⟨i, rfl⟩ : ∃ i : Nat, r = (i : Int) := ⟨r.toNat, by omega⟩
    rw [e] at cV
    have HB := Lib.hid (has_in f i n e)
    have hc := cell_regrown (RV2.out.cell i (by omega))
    have hi64 : (i : Int) < 64 := by omega
    clear e hv
    generalize f i = x at hc HB
    go_wp2
    refine wp_region_quiet_below (by kernel_rfl) (by kernel_rfl) ?_
    quiet_step (fail)
    quiet_step (exact cV _ _)
    repeat (quiet_step (fail))
    refine wpQuiet_nil ?_
    rintro _ ⟨⟨dq, osq⟩, rfl⟩
    have B3 := Lib.hid (thenBelow B2.out (below_regrown w2 dq osq))
    generalize Sort.grow (redrawn w2 dq) osq = w3 at B3 ⊢
    clear d0 d1 cV hc
    go_wp2
    go_ret
    exact ⟨ret_bool (by first | (rw [HB.out]; done) | (rw [HB.out]; simp; done) | (rw [HB.out]; simp; omega)), B3.out⟩
  | false =>
    rw [e] at cV
    have HB := Lib.hid (has_out f r n e)
    clear e
    go_wp2
    refine wp_region_quiet_below (by kernel_rfl) (by kernel_rfl) ?_
    quiet_step (fail)
    quiet_step (exact cV _ _)
    repeat (quiet_step (fail))
    refine wpQuiet_nil ?_
    rintro _ ⟨⟨dq, osq⟩, rfl⟩
    have B3 := Lib.hid (thenBelow B2.out (below_regrown w2 dq osq))
    generalize Sort.grow (redrawn w2 dq) osq = w3 at B3 ⊢
    clear d0 d1 cV
    go_wp2
    go_ret
    exact ⟨ret_bool (by rw [HB.out]), B3.out⟩

set_option maxHeartbeats 1000000 in
set_option maxRecDepth 100000 in
theorem with_is (f : Nat → Int) (r n : Int) (w : World) : Calls Tryz.prog 53 #[.agg (vf f), .agg (dcs r n)] w (RetVec w (withF f r n)) := by
  go_enter Tryz.func53, Tryz.ntmps53
  go_wp2_with (refine wpList_vbox vecI rfl _ rfl f rfl ?_)
  intro gv w1 lv rv hb1
  have B1 := Lib.hid hb1; have RV1 := Lib.hid rv
  clear hb1 rv
  go_wp2_with (refine wpList_gbox rfl _ rfl (dcs r n) rfl ?_)
  intro gd w2 ld hD hb2
  have B2 := Lib.hid (thenBelow B1.out hb2); have RV2 := Lib.hid (RV1.out.later hb2)
  have D2 := Lib.hid ((cell_of_row _ gd 0 _ _ _ hD).trans (show _ = some (.int .i64 r) from rfl))
  have E2 := Lib.hid ((cell_of_row _ gd 1 _ _ _ hD).trans (show _ = some (.int .i64 n) from rfl))
  clear hD hb2
  go_wp2_with (refine wpList_valloc vecI zeroV rfl rfl ?_)
  intro gr w3 lr rr hb3
  have B3 := Lib.hid (thenBelow B2.out hb3); have RV3 := Lib.hid (RV2.out.later hb3); have RR3 := Lib.hid rr
  have D3 := Lib.hid ((hb3.cell (p := ⟨gd, 0, none⟩) (World.block_lt_of_cell? _ _ D2.out)).trans D2.out)
  have E3 := Lib.hid ((hb3.cell (p := ⟨gd, 1, none⟩) (World.block_lt_of_cell? _ _ E2.out)).trans E2.out)
  have hvr : gv < gr := Nat.lt_of_lt_of_le RV2.out.lt lr
  have lwr := Nat.le_trans B2.out.size lr
  have lwv : w.heap.size ≤ gv := lv
  have VA := Lib.hid (valid_is r n w3)
  clear hb3 rr
  have d0 := D3.out; have d1 := E3.out
  go_wp2_with fail
  refine VA.out.mono ?_
  rintro e w4 ⟨rfl, hb4⟩
  have B4 := Lib.hid (thenBelow B3.out hb4); have RV4 := Lib.hid (RV3.out.later hb4); have RR4 := Lib.hid (RR3.out.later hb4)
  have D4 := Lib.hid ((hb4.cell (p := ⟨gd, 0, none⟩) (World.block_lt_of_cell? _ _ D3.out)).trans D3.out)
  have E4 := Lib.hid ((hb4.cell (p := ⟨gd, 1, none⟩) (World.block_lt_of_cell? _ _ E3.out)).trans E3.out)
  clear hb4 VA d0 d1
  cases e : vldB r n with
  | true =>
    have hv := (vld_iff r n).1 e
    obtain ⟨i, rfl⟩ : ∃ i : Nat, r = (i : Int) := ⟨r.toNat, by omega⟩
    have HB := Lib.hid (with_in f i n e)
    have hc := cell_regrown (RV4.out.cell i (by omega))
    have d0 := cell_regrown D4.out; have d1 := cell_regrown E4.out
    have hi64 : (i : Int) < 64 := by omega
    clear e hv
    go_wp2
    refine wp_region_below_tail 10 (by kernel_rfl) (by kernel_rfl) ?_
    simp only [List.take_succ_cons, List.take_zero, List.drop_succ_cons, List.drop_zero]
    repeat (quiet_step (fail))
    refine wpQuiet_nil ?_
    rintro _ ⟨⟨dq, osq⟩, rfl⟩
    have hb5 := below_regrown w4 dq osq
    have B5 := Lib.hid (thenBelow B4.out hb5); have RV5 := Lib.hid (RV4.out.later hb5); have RR5 := Lib.hid (RR4.out.later hb5)
    generalize Sort.grow (redrawn w4 dq) osq = w5 at hb5 B5 RV5 RR5 ⊢
    clear d0 d1 hc hb5
    have hc5 := RV5.out.cell i (by omega)
    have hf5 := RV5.out.free i
    have hS := Lib.hid (RV5.out.set i (max (f i) n))
    have hG := Lib.hid (grown_cell w5 gv i (.int .i64 (max (f i) n)))
    have B6 := Lib.hid (B5.out.trans (grown_below hG.out B5.out.size lwv)); have RR6 := Lib.hid (RR5.out.kept hG.out (by simp; omega))
    go_wp2_with (first | refine wpList_vload vecI rfl _ rfl gv rfl _ _ hS.out ?_ | refine wpList_vstore vecI rfl _ _ rfl gr rfl _ rfl _ _ RR6.out ?_)
    intro w7 r7 g7 _
    have R7 := Lib.hid r7; have B7 := Lib.hid (B6.out.trans (grown_below g7 B6.out.size lwr))
    clear r7 g7
    go_wp2
    exact vec_ret vecI rfl rfl rfl R7.out (fun j _ => by rw [HB.out]) B7.out
  | false =>
    have HB := Lib.hid (with_out f r n e)
    clear e
    go_wp2_with (first | refine wpList_vload vecI rfl _ rfl gv rfl _ _ RV4.out ?_ | refine wpList_vstore vecI rfl _ _ rfl gr rfl _ rfl _ _ RR4.out ?_)
    intro w7 r7 g7 _
    have R7 := Lib.hid r7; have B7 := Lib.hid (B4.out.trans (grown_below g7 B4.out.size lwr))
    clear r7 g7
    go_wp2
    exact vec_ret vecI rfl rfl rfl R7.out (fun j _ => by rw [HB.out]) B7.out

theorem vset_same (f : Nat → Int) (i : Nat) (x : Int) (h : f i = x) : vset f i x = f := by
  funext j
  unfold vset
  by_cases e : j = i
  · subst e; simp [h]
  · simp [e]
end Go.Proofs.YtijmijokgenflaaGreatDoor
/- Which vectors may be; a vector within bounds. -/
namespace Go.Proofs.YtijmijokgenflaaGreatDoor
open Go Go.RowKit
set_option linter.unusedVariables false

def clampF (f : Nat → Int) : Nat → Int := fun i => min (max (f i) 0) 1073741824
set_option maxHeartbeats 1000000 in
set_option maxRecDepth 100000 in
theorem inBounds_is (f : Nat → Int) (w : World) : Calls Tryz.prog 63 #[.agg (vf f)] w (RetVec w (clampF f)) := by
  go_enter Tryz.func63, Tryz.ntmps63
  go_wp2_with (refine wpList_vbox vecI rfl _ rfl f rfl ?_)
  intro ga w1 la ra hb1
  have B1 := Lib.hid hb1; have RA1 := Lib.hid ra
  clear hb1 ra
  go_wp2_with (refine wpList_valloc vecI zeroV rfl rfl ?_)
  intro gr w3 lr rr hb3
  have B3 := Lib.hid (thenBelow B1.out hb3); have RA3 := Lib.hid (RA1.out.later hb3); have RR3 := Lib.hid rr
  have har : ga < gr := Nat.lt_of_lt_of_le RA1.out.lt lr
  have hlow := Nat.le_trans B1.out.size lr
  have hwa : w.heap.size ≤ ga := la
  clear hb3 rr
  go_wp2_with (refine wpList_vload vecI rfl _ rfl ga rfl _ f RA3.out ?_)
  go_wp2
  go_loopw [6] (fun i wr => ∃ k : Nat, k ≤ 64 ∧ i = .int .i64 k ∧ Row wr ga 23 (upto k (clampF f) f) ∧ Row wr gr 23 (fun _ => 0) ∧ Below w.heap.size w wr) (fun i _ => 64 - (intOf i).toNat)
  case atStart => exact ⟨0, by omega, rfl, by rw [upto_zero]; exact RA3.out, RR3.out, B3.out⟩
  case round =>
    obtain ⟨k, hk, rfl, hra, hrr, hb⟩ := hrel
    have RA := Lib.hid hra; have RR := Lib.hid hrr; have B := Lib.hid hb
    clear hra hrr hb
    by_cases hlt : k < 64
    · have hi := vecI.index f .i64 k k rfl hlt
      have hc := RA.out.cell k hlt
      have hfr := RA.out.free k
      have hkI : (k : Int) < 64 := by omega
      have hS : Hid (Row (wr.setCell ⟨ga, k, none⟩ (.int .i64 (min (max (f k) 0) 1073741824))) ga 23 (upto (k + 1) (clampF f) f)) := by
        show Row _ _ _ _
        rw [← upto_set]
        exact RA.out.set k (clampF f k)
      have hG := Lib.hid (grown_cell wr ga k (.int .i64 (min (max (f k) 0) 1073741824)))
      generalize f k = x at hi hS hG
      go_wp2
      go_roundw
      case rel => exact ⟨k + 1, by omega, by go_num, hS.out, RR.out.kept hG.out (by simp; omega), B.out.trans (grown_below hG.out B.out.size hwa)⟩
      case measure => simp [intOf]; omega
    · obtain rfl : k = 64 := by omega
      have RE := Lib.hid (RA.out.congr (upto_all _ _))
      clear RA hk
      go_wp2_with (first | refine wpList_vload vecI rfl _ rfl ga rfl _ _ RE.out ?_ | refine wpList_vstore vecI rfl _ _ rfl gr rfl _ rfl _ _ RR.out ?_)
      intro w5 r5 g5 _
      have R5 := Lib.hid r5; have B5 := Lib.hid (B.out.trans (grown_below g5 B.out.size hlow))
      clear r5 g5
      go_wp2
      exact vec_ret vecI rfl rfl rfl R5.out (fun _ _ => rfl) B5.out
def goodB (f : Nat → Int) : Bool := veq f (clampF f)
theorem good_iff (f : Nat → Int) : goodB f = true ↔ ∀ i, i < 64 → 0 ≤ f i ∧ f i ≤ 1073741824 := by
  unfold goodB clampF
  rw [veq_iff]
  exact ⟨fun h i hi => by have := h i hi; omega, fun h i hi => by have := h i hi; omega⟩
theorem good_no {f : Nat → Int} (i : Nat) (hi : i < 64) (h : f i < 0 ∨ 1073741824 < f i) : goodB f = false := by
  cases e : goodB f with
  | false => rfl
  | true => exact absurd ((good_iff f).1 e i hi) (by omega)
set_option maxHeartbeats 1000000 in
set_option maxRecDepth 100000 in
theorem good_is (f : Nat → Int) (w : World) : Calls Tryz.prog 41 #[.agg (vf f)] w (RetBool w (goodB f)) := by
  have HE := vecI.eql f (clampF f)
  have HE2 := vecI.equalIn 9998 f (clampF f)
  have HG : Hid (goodB f = veq f (clampF f)) := rfl
  generalize veq f (clampF f) = r at HE HE2 HG
  go_enter Tryz.func41, Tryz.ntmps41
  go_wp2_with (refine wpList_vbox vecI rfl _ rfl f rfl ?_)
  intro ga w2 la ra hb1
  have B2 := Lib.hid hb1; have RA2 := Lib.hid ra
  clear hb1 ra
  have cI := quiet_call (w := w2) (inBounds_is f)
  go_wp2
  refine wp_region_quiet_below (by kernel_rfl) (by kernel_rfl) ?_
  refine wpQuiet_vload vecI rfl _ rfl ga rfl _ f (fun _ h => RA2.out.quiet h) ?_
  refine wpQuiet_vload vecI rfl _ rfl ga rfl _ f (fun _ h => RA2.out.quiet h) ?_
  quiet_step (exact cI _ _)
  repeat (quiet_step (fail))
  refine wpQuiet_nil ?_
  intro _ hw'
  obtain ⟨⟨dq, osq⟩, hw''⟩ := hw'
  subst hw''
  go_wp2
  go_ret
  exact ⟨by rw [HG.out]; rfl, B2.out.trans ((below_regrown w2 dq osq).mono B2.out.size)⟩
set_option maxHeartbeats 1000000 in
set_option maxRecDepth 100000 in
theorem refGood_is (f : Nat → Int) (w : World) : Calls Tryz.prog 45 #[.agg (vf f)] w (RetBool w (goodB f)) := by
  go_enter Tryz.func45, Tryz.ntmps45
  go_wp2_with (refine wpList_vbox vecI rfl _ rfl f rfl ?_)
  intro ga w2 la ra hb1
  have B2 := Lib.hid hb1; have RA2 := Lib.hid ra
  clear hb1 ra
  go_wp2_with (refine wpList_vload vecI rfl _ rfl ga rfl _ f RA2.out ?_)
  go_wp2
  go_loop [6] (fun i => ∃ k : Nat, k ≤ 64 ∧ i = .int .i64 k ∧ ∀ i, i < k → 0 ≤ f i ∧ f i ≤ 1073741824) (fun i => 64 - (intOf i).toNat)
  case atStart => exact ⟨0, by omega, rfl, fun i h => by omega⟩
  case round =>
    obtain ⟨k, hk, rfl, hle⟩ := hrel
    have LE := Lib.hid hle
    clear hle
    by_cases hlt : k < 64
    · have hi := vecI.index f .i64 k k rfl hlt
      have hkI : (k : Int) < 64 := by omega
      rcases (show f k < 0 ∨ (0 ≤ f k ∧ 1073741824 < f k) ∨ (0 ≤ f k ∧ f k ≤ 1073741824) by omega) with h1 | ⟨h1, h2⟩ | ⟨h1, h2⟩
      case' inl =>
        have NO := Lib.hid (good_no k hlt (.inl h1))
        generalize f k = y at hi h1
      case' inr.inl =>
        have NO := Lib.hid (good_no k hlt (.inr h2))
        generalize f k = y at hi h1 h2
      case' inr.inr =>
        have hS : Hid (∀ i, i < k + 1 → 0 ≤ f i ∧ f i ≤ 1073741824) := by
          intro i h
          by_cases e : i = k
          · subst e; omega
          · exact LE.out i (by omega)
        generalize f k = y at hi h1 h2
        go_wp2
        go_round
        case rel => exact ⟨k + 1, by omega, by go_num, hS.out⟩
        case measure => simp [intOf]; omega
      all_goals
        go_wp2
        go_ret
        exact ⟨by rw [NO.out]; rfl, B2.out⟩
    · obtain rfl : k = 64 := by omega
      have YES := Lib.hid ((good_iff f).2 LE.out)
      go_wp2
      go_ret
      exact ⟨by rw [YES.out]; rfl, B2.out⟩
open Go

abbrev Dt := Int × Int
def vl (d : Dt) : Bool := vldB d.1 d.2
def ltD (a b : Dt) : Bool := lessD a.1 a.2 b.1 b.2
theorem ltD_iff (a b : Dt) : ltD a b = true ↔ a.1 < b.1 ∨ a.1 = b.1 ∧ a.2 < b.2 := by simp [ltD, lessD]
theorem vl_iff (d : Dt) : vl d = true ↔ 0 ≤ d.1 ∧ d.1 < 64 ∧ 1 ≤ d.2 ∧ d.2 ≤ 1073741824 := vld_iff d.1 d.2
theorem ltD_irrefl (a : Dt) : ltD a a = false := by rw [← Bool.not_eq_true, ltD_iff]; omega
theorem ltD_trans {a b c : Dt} (h : ltD a b = true) (k : ltD b c = true) : ltD a c = true := by rw [ltD_iff] at *; omega
theorem ltD_or (a b : Dt) (h : ltD a b = false) (k : ltD b a = false) : a = b := by
  have h' : ¬ (a.1 < b.1 ∨ a.1 = b.1 ∧ a.2 < b.2) := fun e => by rw [(ltD_iff a b).2 e] at h; cases h
  have k' : ¬ (b.1 < a.1 ∨ b.1 = a.1 ∧ b.2 < a.2) := fun e => by rw [(ltD_iff b a).2 e] at k; cases k
  exact Prod.ext (by omega) (by omega)
/-- in order, each once -/
def Rises (l : List Dt) : Prop := l.Pairwise fun a b => ltD a b = true
theorem rises_eq : ∀ {l l' : List Dt}, Rises l → Rises l' → (∀ d, d ∈ l ↔ d ∈ l') → l = l'
  | [], [], _, _, _ => rfl
  | [], b :: l', _, _, h => by have := (h b).2 (by simp); cases this
  | a :: l, [], _, _, h => by have := (h a).1 (by simp); cases this
  | a :: l, b :: l', h1, h2, h => by
    obtain ⟨p1, p2⟩ := List.pairwise_cons.1 h1
    obtain ⟨q1, q2⟩ := List.pairwise_cons.1 h2
    have hab : a = b := by
      rcases List.mem_cons.1 ((h a).1 (by simp)) with e | e
      · exact e
      · rcases List.mem_cons.1 ((h b).2 (by simp)) with e2 | e2
        · exact e2.symm
        · have := ltD_trans (q1 a e) (p1 b e2)
          rw [ltD_irrefl] at this; cases this
    subst hab
    congr 1
    refine rises_eq p2 q2 fun d => ?_
    constructor
    · intro hd
      rcases List.mem_cons.1 ((h d).1 (by simp [hd])) with e | e
      · have := p1 d hd; rw [e, ltD_irrefl] at this; cases this
      · exact e
    · intro hd
      rcases List.mem_cons.1 ((h d).2 (by simp [hd])) with e | e
      · have := q1 d hd; rw [e, ltD_irrefl] at this; cases this
      · exact e

/-- a context in its one form: the vector G and the dots o behind it, of the vector F and the dots l -/
structure IsTidy (F : Nat → Int) (l : List Dt) (G : Nat → Int) (o : List Dt) : Prop where
  base : ∀ i, i < 64 → clampF F i ≤ G i
  reach : ∀ i, i < 64 → ∀ k : Int, clampF F i < k → k ≤ G i → ((i : Int), k) ∈ l ∧ vl ((i : Int), k) = true
  closed : ∀ d ∈ l, vl d = true → d.2 ≠ G d.1.toNat + 1
  rises : Rises o
  mem : ∀ d, d ∈ o ↔ (d ∈ l ∧ vl d = true ∧ G d.1.toNat < d.2)
theorem clampF_in (F : Nat → Int) (i : Nat) : 0 ≤ clampF F i ∧ clampF F i ≤ 1073741824 := by unfold clampF; omega
theorem IsTidy.le {F F' : Nat → Int} {l l' : List Dt} {G G' : Nat → Int} {o o' : List Dt} (h : IsTidy F l G o) (h' : IsTidy F' l' G' o') (hF : ∀ i, i < 64 → clampF F i = clampF F' i) (hl : ∀ d, vl d = true → (d ∈ l ↔ d ∈ l')) (i : Nat) (hi : i < 64) : G' i ≤ G i := by
  by_cases hle : G' i ≤ G i
  · exact hle
  · exfalso
    have hb := h.base i hi
    rw [hF i hi] at hb
    obtain ⟨h1, h2⟩ := h'.reach i hi (G i + 1) (by omega) (by omega)
    have := h.closed _ ((hl _ h2).2 h1) h2
    simp at this
theorem IsTidy.unique {F F' : Nat → Int} {l l' : List Dt} {G G' : Nat → Int} {o o' : List Dt} (h : IsTidy F l G o) (h' : IsTidy F' l' G' o') (hF : ∀ i, i < 64 → clampF F i = clampF F' i) (hl : ∀ d, vl d = true → (d ∈ l ↔ d ∈ l')) : (∀ i, i < 64 → G i = G' i) ∧ o = o' := by
  have e : ∀ i, i < 64 → G i = G' i := fun i hi => by
    have h1 := h.le h' hF hl i hi
    have h2 := h'.le h (fun i hi => (hF i hi).symm) (fun d hd => (hl d hd).symm) i hi
    omega
  refine ⟨e, rises_eq h.rises h'.rises fun d => ?_⟩
  rw [h.mem, h'.mem]
  constructor
  · rintro ⟨h1, h2, h3⟩
    have hv := (vl_iff d).1 h2
    exact ⟨(hl d h2).1 h1, h2, by rw [← e _ (by omega)]; exact h3⟩
  · rintro ⟨h1, h2, h3⟩
    have hv := (vl_iff d).1 h2
    exact ⟨(hl d h2).2 h1, h2, by rw [e _ (by omega)]; exact h3⟩
/-- does a context have a dot? -/
def knowsB (F : Nat → Int) (l : List Dt) (d : Dt) : Bool := hasB F d.1 d.2 || (vl d && l.contains d)
theorem has_iff (F : Nat → Int) (d : Dt) : hasB F d.1 d.2 = true ↔ vl d = true ∧ d.2 ≤ F d.1.toNat := by simp [hasB, vl]
theorem has_clamp (F : Nat → Int) (d : Dt) : hasB (clampF F) d.1 d.2 = hasB F d.1 d.2 := by
  rw [Bool.eq_iff_iff, has_iff, has_iff]
  constructor
  · rintro ⟨h, k⟩; have := (vl_iff d).1 h; exact ⟨h, by unfold clampF at k; omega⟩
  · rintro ⟨h, k⟩; have := (vl_iff d).1 h; exact ⟨h, by unfold clampF; omega⟩
theorem knows_iff (F : Nat → Int) (l : List Dt) (d : Dt) : knowsB F l d = true ↔ vl d = true ∧ (d.2 ≤ F d.1.toNat ∨ d ∈ l) := by
  unfold knowsB
  rw [Bool.or_eq_true, has_iff, Bool.and_eq_true, List.contains_iff_mem]
  constructor
  · rintro (⟨h, k⟩ | ⟨h, k⟩)
    · exact ⟨h, .inl k⟩
    · exact ⟨h, .inr k⟩
  · rintro ⟨h, k | k⟩
    · exact .inl ⟨h, k⟩
    · exact .inr ⟨h, k⟩
theorem IsTidy.knows {F : Nat → Int} {l : List Dt} {G : Nat → Int} {o : List Dt} (h : IsTidy F l G o) (d : Dt) : knowsB G o d = knowsB F l d := by
  rw [Bool.eq_iff_iff, knows_iff, knows_iff]
  constructor
  · rintro ⟨hv, hk⟩
    refine ⟨hv, ?_⟩
    have hvi := (vl_iff d).1 hv
    rcases hk with hk | hk
    · by_cases hc : d.2 ≤ clampF F d.1.toNat
      · left; unfold clampF at hc; omega
      · right
        have := (h.reach d.1.toNat (by omega) d.2 (by omega) hk).1
        rwa [show ((d.1.toNat : Int), d.2) = d from Prod.ext (by simp; omega) rfl] at this
    · exact .inr ((h.mem d).1 hk).1
  · rintro ⟨hv, hk⟩
    refine ⟨hv, ?_⟩
    have hvi := (vl_iff d).1 hv
    have hb := h.base d.1.toNat (by omega)
    rcases hk with hk | hk
    · left; unfold clampF at hb; omega
    · by_cases hg : d.2 ≤ G d.1.toNat
      · exact .inl hg
      · exact .inr ((h.mem d).2 ⟨hk, hv, by omega⟩)
theorem IsTidy.good {F : Nat → Int} {l : List Dt} {G : Nat → Int} {o : List Dt} (h : IsTidy F l G o) (i : Nat) (hi : i < 64) : 0 ≤ G i ∧ G i ≤ 1073741824 := by
  have hb := h.base i hi
  have hc := clampF_in F i
  refine ⟨by omega, ?_⟩
  by_cases hle : G i ≤ 1073741824
  · exact hle
  · have := (vl_iff _).1 (h.reach i hi (G i) (by omega) (by omega)).2
    simp at this; omega
/-- what is in its one form stays -/
theorem IsTidy.again {F : Nat → Int} {l : List Dt} {G : Nat → Int} {o : List Dt} (h : IsTidy F l G o) : IsTidy G o G o where
  base i hi := by have := h.good i hi; unfold clampF; omega
  reach i hi k h1 h2 := by have := h.good i hi; unfold clampF at h1; omega
  closed d hd hv := h.closed d ((h.mem d).1 hd).1 hv
  rises := h.rises
  mem d := by
    constructor
    · intro hd; exact ⟨hd, ((h.mem d).1 hd).2⟩
    · rintro ⟨hd, _⟩; exact hd
/-- a part of what is in it, joined once more, is nothing new -/
theorem IsTidy.within {F : Nat → Int} {l : List Dt} {G : Nat → Int} {o : List Dt} (h : IsTidy F l G o) {A : Nat → Int} {m : List Dt} (hA : ∀ i, i < 64 → clampF A i ≤ G i) (hm : ∀ d ∈ m, vl d = true → d ∈ l) {Z : Nat → Int} (hZ : ∀ i, i < 64 → Z i = max (G i) (A i)) {k : List Dt} (hk : ∀ d, vl d = true → (d ∈ k ↔ d ∈ o ∨ d ∈ m)) : IsTidy Z k G o where
  base i hi := by have := h.good i hi; have := hA i hi; unfold clampF at *; rw [hZ i hi]; omega
  reach i hi n h1 h2 := by have := h.good i hi; have := hA i hi; unfold clampF at *; rw [hZ i hi] at h1; omega
  closed d hd hv := by
    rcases (hk d hv).1 hd with e | e
    · exact h.closed d ((h.mem d).1 e).1 hv
    · exact h.closed d (hm d e hv) hv
  rises := h.rises
  mem d := by
    constructor
    · intro hd
      have := (h.mem d).1 hd
      exact ⟨(hk d this.2.1).2 (.inl hd), this.2⟩
    · rintro ⟨h1, h2, h3⟩
      rcases (hk d h2).1 h1 with e | e
      · exact e
      · exact (h.mem d).2 ⟨hm d e h2, h2, h3⟩

/-- how far a row in order has been taken in -/
structure Upd (F : Nat → Int) (p : List Dt) (G : Nat → Int) (o : List Dt) : Prop where
  base : ∀ i, i < 64 → clampF F i ≤ G i
  reach : ∀ i, i < 64 → ∀ k : Int, clampF F i < k → k ≤ G i → ((i : Int), k) ∈ p ∧ vl ((i : Int), k) = true
  out : ∀ d ∈ o, d ∈ p ∧ vl d = true ∧ G d.1.toNat + 1 < d.2
  all : ∀ d ∈ p, vl d = true → d.2 ≤ G d.1.toNat ∨ d ∈ o
  rises : Rises o
theorem Upd.start (F : Nat → Int) : Upd F [] (clampF F) [] where
  base i hi := Int.le_refl _
  reach i hi k h1 h2 := by omega
  out d hd := by cases hd
  all d hd := by cases hd
  rises := List.Pairwise.nil
section
variable {F : Nat → Int} {p : List Dt} {G : Nat → Int} {o : List Dt} {d : Dt}
theorem Upd.skip (h : Upd F p G o) (hs : vl d = false ∨ d.2 ≤ G d.1.toNat) : Upd F (p ++ [d]) G o where
  base := h.base
  reach i hi k h1 h2 := by have := h.reach i hi k h1 h2; exact ⟨by simp [this.1], this.2⟩
  out x hx := by have := h.out x hx; exact ⟨by simp [this.1], this.2⟩
  all x hx hv := by
    rcases List.mem_append.1 hx with e | e
    · exact h.all x e hv
    · obtain rfl := List.mem_singleton.1 e
      rcases hs with hs | hs
      · rw [hs] at hv; cases hv
      · exact .inl hs
  rises := h.rises
theorem Upd.more (h : Upd F p G o) (hp : ∀ x ∈ p, ltD x d = true) (hv : vl d = true) (hn : d.2 = G d.1.toNat + 1) : Upd F (p ++ [d]) (vset G d.1.toNat d.2) o where
  base i hi := by
    have := h.base i hi
    unfold vset; split
    · rename_i e; subst e; omega
    · exact this
  reach i hi k h1 h2 := by
    have hvi := (vl_iff d).1 hv
    unfold vset at h2
    split at h2
    · rename_i e
      by_cases hk : k ≤ G i
      · have := h.reach i hi k h1 hk; exact ⟨by simp [this.1], this.2⟩
      · have e2 : ((i : Int), k) = d := Prod.ext (by simp; omega) (by simp; subst e; omega)
        rw [e2]; exact ⟨by simp, hv⟩
    · have := h.reach i hi k h1 h2; exact ⟨by simp [this.1], this.2⟩
  out x hx := by
    obtain ⟨a, b, c⟩ := h.out x hx
    refine ⟨by simp [a], b, ?_⟩
    unfold vset
    split
    · rename_i e
      have hl := (ltD_iff x d).1 (hp x a)
      have hvi := (vl_iff d).1 hv
      have hvx := (vl_iff x).1 b
      rw [e] at c
      omega
    · exact c
  all x hx hvx := by
    rcases List.mem_append.1 hx with e | e
    · rcases h.all x e hvx with e2 | e2
      · left
        unfold vset
        split
        · rename_i e3; rw [e3] at e2; omega
        · exact e2
      · exact .inr e2
    · obtain rfl := List.mem_singleton.1 e
      left; unfold vset; simp
  rises := h.rises
theorem Upd.far (h : Upd F p G o) (hp : ∀ x ∈ p, ltD x d = true) (hv : vl d = true) (hn : G d.1.toNat < d.2) (hn2 : d.2 ≠ G d.1.toNat + 1) : Upd F (p ++ [d]) G (o ++ [d]) where
  base := h.base
  reach i hi k h1 h2 := by have := h.reach i hi k h1 h2; exact ⟨by simp [this.1], this.2⟩
  out x hx := by
    rcases List.mem_append.1 hx with e | e
    · obtain ⟨a, b, c⟩ := h.out x e; exact ⟨by simp [a], b, c⟩
    · obtain rfl := List.mem_singleton.1 e
      exact ⟨by simp, hv, by omega⟩
  all x hx hvx := by
    rcases List.mem_append.1 hx with e | e
    · rcases h.all x e hvx with e2 | e2
      · exact .inl e2
      · exact .inr (by simp [e2])
    · obtain rfl := List.mem_singleton.1 e
      exact .inr (by simp)
  rises := by
    unfold Rises
    rw [List.pairwise_append]
    refine ⟨h.rises, List.pairwise_singleton _ _, fun a ha b hb => ?_⟩
    obtain rfl := List.mem_singleton.1 hb
    exact hp a (h.out a ha).1
theorem Upd.tidy (h : Upd F p G o) {l : List Dt} (hl : ∀ d, d ∈ p ↔ d ∈ l) : IsTidy F l G o where
  base := h.base
  reach i hi k h1 h2 := by have := h.reach i hi k h1 h2; exact ⟨(hl _).1 this.1, this.2⟩
  closed d hd hv := by
    intro e
    rcases h.all d ((hl d).2 hd) hv with e2 | e2
    · omega
    · have := (h.out d e2).2.2; omega
  rises := h.rises
  mem d := by
    constructor
    · intro hd
      obtain ⟨a, b, c⟩ := h.out d hd
      exact ⟨(hl d).1 a, b, by omega⟩
    · rintro ⟨a, b, c⟩
      rcases h.all d ((hl d).2 a) b with e | e
      · omega
      · exact e
end
theorem rises_take {L : List Dt} (h : Rises L) (k : Nat) (hk : k < L.length) : ∀ x ∈ L.take k, ltD x L[k] = true := by
  intro x hx
  obtain ⟨i, hi, rfl⟩ := List.getElem_of_mem hx
  simp only [List.length_take] at hi
  rw [List.getElem_take]
  exact List.pairwise_iff_getElem.1 h i k (by omega) hk (by omega)
theorem take_next (L : List Dt) (k : Nat) (hk : k < L.length) : L.take (k + 1) = L.take k ++ [L[k]] := by
  rw [List.take_add_one, List.getElem?_eq_getElem hk]; rfl

/-- neighbours that are one: once -/
def dedup : List Dt → List Dt
  | [] => []
  | [a] => [a]
  | a :: b :: r => if a = b then dedup (b :: r) else a :: dedup (b :: r)
theorem dedup_mem : ∀ (l : List Dt) (d : Dt), d ∈ dedup l ↔ d ∈ l
  | [], d => by simp [dedup]
  | [a], d => by simp [dedup]
  | a :: b :: r, d => by
    unfold dedup
    split
    · rename_i e; subst e
      rw [dedup_mem (a :: r) d]; simp
    · rw [List.mem_cons, dedup_mem (b :: r) d, List.mem_cons, List.mem_cons, List.mem_cons]
theorem dedup_rises : ∀ (l : List Dt), l.Pairwise (fun a b => ltD b a = false) → Rises (dedup l)
  | [], _ => by unfold dedup; exact List.Pairwise.nil
  | [a], _ => by unfold dedup; exact List.pairwise_singleton _ _
  | a :: b :: r, h => by
    obtain ⟨h1, h2⟩ := List.pairwise_cons.1 h
    have ih := dedup_rises (b :: r) h2
    unfold dedup
    split
    · exact ih
    · rename_i e
      refine List.pairwise_cons.2 ⟨fun x hx => ?_, ih⟩
      have hx' : x ∈ b :: r := (dedup_mem _ _).1 hx
      have hax := h1 x hx'
      have hab := h1 b (by simp)
      have lab : ltD a b = true := by
        cases hl : ltD a b with
        | true => rfl
        | false => exact absurd (ltD_or a b hl hab) e
      rcases List.mem_cons.1 hx' with rfl | hxr
      · exact lab
      · have hbx := (List.pairwise_cons.1 h2).1 x hxr
        cases hl : ltD b x with
        | true => exact ltD_trans lab hl
        | false =>
          obtain rfl := ltD_or b x hl hbx
          exact lab
end Go.Proofs.YtijmijokgenflaaGreatDoor
/- Rows of dots in memory. -/
namespace Go.Proofs.YtijmijokgenflaaGreatDoor
open Go Go.RowKit
set_option linter.unusedVariables false

def dvs (d : Dt) : List Value := [.int .i64 d.1, .int .i64 d.2]
def dcl (l : List Dt) : List Value := l.flatMap dvs
theorem dcl_cons (d : Dt) (l : List Dt) : dcl (d :: l) = .int .i64 d.1 :: .int .i64 d.2 :: dcl l := rfl
theorem dcl_length : ∀ l : List Dt, (dcl l).length = l.length * 2
  | [] => rfl
  | d :: l => by rw [dcl_cons, List.length_cons, List.length_cons, dcl_length l, List.length_cons]; omega
theorem dcl_append (a b : List Dt) : dcl (a ++ b) = dcl a ++ dcl b := by simp [dcl]
theorem dcl_get : ∀ (l : List Dt) (i : Nat) (hi : i < l.length), (dcl l)[i * 2]? = some (.int .i64 l[i].1) ∧ (dcl l)[i * 2 + 1]? = some (.int .i64 l[i].2)
  | d :: l, 0, _ => ⟨rfl, rfl⟩
  | d :: l, i + 1, hi => by
    have := dcl_get l i (by simpa using hi)
    rw [dcl_cons, show (i + 1) * 2 = i * 2 + 1 + 1 from by omega, show i * 2 + 1 + 1 + 1 = (i * 2 + 1) + 1 + 1 from rfl]
    simpa using this
theorem dcl_one (l : List Dt) : ∀ u ∈ dcl l, u.oneCell' = true := by
  intro u hu
  obtain ⟨d, _, h⟩ := List.mem_flatMap.1 hu
  simp [dvs] at h
  rcases h with rfl | rfl <;> rfl
theorem dcl_at (l : List Dt) (j : Nat) (u : Value) (h : (dcl l)[j]? = some u) : ∃ i, ∃ hi : i < l.length, (j = i * 2 ∧ u = .int .i64 l[i].1) ∨ (j = i * 2 + 1 ∧ u = .int .i64 l[i].2) := by
  have hj : j < l.length * 2 := by rw [← dcl_length]; exact (List.getElem?_eq_some_iff.1 h).1
  refine ⟨j / 2, by omega, ?_⟩
  obtain ⟨g1, g2⟩ := dcl_get l (j / 2) (by omega)
  rcases Nat.mod_two_eq_zero_or_one j with e | e
  · left
    have e2 : j / 2 * 2 = j := by omega
    rw [e2, h] at g1
    exact ⟨e2.symm, Option.some.inj g1⟩
  · right
    have e2 : j / 2 * 2 + 1 = j := by omega
    rw [e2, h] at g2
    exact ⟨e2.symm, Option.some.inj g2⟩

/-- dots that lie at p -/
def DRow (w : World) (p : Option Addr) (l : List Dt) : Prop := l ≠ [] → ∃ b o, p = some ⟨b, o, none⟩ ∧ w.rangeAt b o (dcl l)
theorem range_lt {w : World} {b o : Nat} {l : List Dt} (h : w.rangeAt b o (dcl l)) (hn : l ≠ []) : b < w.heap.size := by
  cases l with
  | nil => exact absurd rfl hn
  | cons d l => exact World.block_lt_of_cell? w _ (h 0 _ rfl)
theorem DRow.below {w w' : World} {p : Option Addr} {l : List Dt} (h : DRow w p l) (hb : Below w.heap.size w w') : DRow w' p l := fun hn => by
  obtain ⟨b, o, rfl, hr⟩ := h hn
  exact ⟨b, o, rfl, range_below hr hb⟩
theorem DRow.nil (w : World) (p : Option Addr) : DRow w p [] := fun h => absurd rfl h
/-- a row of dots, one's own -/
structure OwnD (w : World) (g : Nat) (l : List Dt) : Prop where
  range : w.rangeAt g 0 (dcl l)
  free : ∀ j, j < l.length * 2 → w.frozen? ⟨g, j, none⟩ = false
  lt : g < w.heap.size
theorem OwnD.later {w w' : World} {g : Nat} {l : List Dt} (h : OwnD w g l) (hb : Below w.heap.size w w') : OwnD w' g l :=
  ⟨range_below h.range hb, fun j hj => (hb.frozen (p := ⟨g, j, none⟩) h.lt).trans (h.free j hj), Nat.lt_of_lt_of_le h.lt hb.size⟩
theorem OwnD.kept {w w' : World} {g : Nat} {l : List Dt} (h : OwnD w g l) {row : Option Nat} (hg : w.grownBy w' row) (hne : some g ≠ row) : OwnD w' g l :=
  ⟨fun j u hu => by
    have h1 := h.range j u hu
    rw [World.cell?_of_block (w := w) (a := ⟨g, 0 + j, none⟩) (hg.block g h.lt hne)]; exact h1,
  fun j hj => by rw [World.frozen?_of_block (w := w) (a := ⟨g, j, none⟩) (hg.block g h.lt hne)]; exact h.free j hj, Nat.lt_of_lt_of_le h.lt hg.size⟩
theorem OwnD.row {w : World} {g : Nat} {l : List Dt} (h : OwnD w g l) : DRow w (some ⟨g, 0, none⟩) l := fun _ => ⟨g, 0, rfl, h.range⟩
theorem OwnD.cells {w : World} {g : Nat} {l : List Dt} (h : OwnD w g l) (i : Nat) (hi : i < l.length) : w.cell? ⟨g, i * 2, none⟩ = some (.int .i64 l[i].1) ∧ w.cell? ⟨g, i * 2 + 1, none⟩ = some (.int .i64 l[i].2) := by
  obtain ⟨g1, g2⟩ := dcl_get l i hi
  have h1 := h.range _ _ g1
  have h2 := h.range _ _ g2
  rw [Nat.zero_add] at h1 h2
  exact ⟨h1, h2⟩

theorem infoDt : (Tryz.prog.info? 37).map (fun i => (i.zero, i.size, i.bytes)) = some (some (.agg #[.int .i64 0, .int .i64 0]), 2, 16) := by kernel_rfl
/-- what a call owns lies where it is -/
theorem own_drow {w : World} {B : Nat} {v : Value} {n : Nat} {l : List Dt} (h : w.ownsRow B 37 2 v n (dcl l)) :
    n = l.length ∧ ∃ p cap, v = .slice p l.length cap ∧ l.length ≤ cap ∧ DRow w p l ∧ (p = none → l = [] ∧ cap = 0) ∧ (∀ a, p = some a → ∃ g, a = ⟨g, 0, none⟩ ∧ B ≤ g ∧ OwnD w g l) := by
  have hlen : n = l.length := by have := h.1; rw [dcl_length] at this; omega
  subst hlen
  refine ⟨rfl, ?_⟩
  rcases h.2 with ⟨rfl, hn⟩ | ⟨g, cap, cur, rfl, hle, hcur, hnc, hcm, hsz, htk⟩
  · obtain rfl := List.eq_nil_of_length_eq_zero hn
    exact ⟨none, 0, rfl, Nat.le_refl _, DRow.nil _ _, fun _ => ⟨rfl, rfl⟩, fun a ha => by cases ha⟩
  · have hO : OwnD w g l := by
      refine ⟨fun j u hu => ?_, fun j _ => frozen_of_row _ _ _ _ _ hcur, (Array.getElem?_eq_some_iff.1 hcur).1⟩
      have hj : j < l.length * 2 := by rw [← dcl_length]; exact (List.getElem?_eq_some_iff.1 hu).1
      have := congrArg (·[j]?) htk
      simp only [List.getElem?_take, if_pos hj, Array.getElem?_toList] at this
      rw [Nat.zero_add, cell_of_row _ g j _ _ _ hcur, this]; exact hu
    exact ⟨some ⟨g, 0, none⟩, cap, rfl, hnc, hO.row, fun e => (by cases e), fun a ha => by
      obtain rfl := Option.some.inj ha
      exact ⟨g, rfl, hle, hO⟩⟩

end Go.Proofs.YtijmijokgenflaaGreatDoor
