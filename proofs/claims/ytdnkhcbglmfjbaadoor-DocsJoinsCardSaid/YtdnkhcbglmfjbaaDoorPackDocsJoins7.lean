/- The statement DocsJoins, proved for every input that its row reads: part 7 of 54. -/
import Derived.Test.YtdnkhcbglmfjbaaDoorPackDocsJoins4
import Derived.Test.YtdnkhcbglmfjbaaDoorPackDocsJoins6
/- How two dots stand. -/
namespace Go.Proofs.YtdnkhcbglmfjbaaDoor
open Go Go.RowKit
set_option linter.unusedVariables false

/-- -1, 0, 1 -/
def cmpI (x y : Int) : Int := if x < y then -1 else if x > y then 1 else 0
theorem isNaN_is (x : Int) (w : World) : Calls Tryd.prog 61 #[.int .i64 x] w fun e w' => e = .returned (.bool false) ∧ w = w' := by
  go_enter Tryd.func61, Tryd.ntmps61
  go_wp2
  go_ret
  exact ⟨ret_bool (by simp), rfl⟩
theorem compare_is (x y : Int) (w : World) : Calls Tryd.prog 44 #[.int .i64 x, .int .i64 y] w fun e w' => e = .returned (.int .i64 (cmpI x y)) ∧ w = w' := by
  have Nx := Lib.hid (isNaN_is x w); have Ny := Lib.hid (isNaN_is y w)
  unfold cmpI
  by_cases h : x < y
  · rw [if_pos h]
    go_enter Tryd.func44, Tryd.ntmps44
    go_wp2_with fail
    refine Nx.out.mono ?_
    rintro e w' ⟨rfl, rfl⟩
    go_wp2_with fail
    refine Ny.out.mono ?_
    rintro e w' ⟨rfl, rfl⟩
    go_wp2
    go_ret
    exact ⟨rfl, rfl⟩
  · rw [if_neg h]
    by_cases h2 : x > y
    · rw [if_pos h2]
      go_enter Tryd.func44, Tryd.ntmps44
      go_wp2_with fail
      refine Nx.out.mono ?_
      rintro e w' ⟨rfl, rfl⟩
      go_wp2_with fail
      refine Ny.out.mono ?_
      rintro e w' ⟨rfl, rfl⟩
      go_wp2
      go_ret
      exact ⟨rfl, rfl⟩
    · rw [if_neg h2]
      go_enter Tryd.func44, Tryd.ntmps44
      go_wp2_with fail
      refine Nx.out.mono ?_
      rintro e w' ⟨rfl, rfl⟩
      go_wp2_with fail
      refine Ny.out.mono ?_
      rintro e w' ⟨rfl, rfl⟩
      go_wp2
      go_ret
      exact ⟨rfl, rfl⟩
/-- the first one that is not nought -/
def orI (x y : Int) : Int := if x = 0 then y else x
theorem or_is (G : Nat) (x y : Int) (w : World) (h0 : w.cell? ⟨G, 0, none⟩ = some (.int .i64 x)) (h1 : w.cell? ⟨G, 1, none⟩ = some (.int .i64 y)) :
    Calls Tryd.prog 42 #[.slice (some ⟨G, 0, none⟩) 2 2] w fun e w' => e = .returned (.int .i64 (orI x y)) ∧ w = w' := by
  have e00 : orI 0 y = y := by simp [orI]
  have HO := Lib.hid e00
  clear e00
  go_enter Tryd.func42, Tryd.ntmps42
  go_wp2
  go_loop [8] (fun i => (i = .int .i64 0) ∨ (i = .int .i64 1 ∧ x = 0) ∨ (i = .int .i64 2 ∧ x = 0 ∧ y = 0)) (fun i => 2 - (intOf i).toNat)
  case atStart => exact .inl rfl
  case round =>
    rcases hrel with rfl | ⟨rfl, rfl⟩ | ⟨rfl, rfl, rfl⟩
    · by_cases hx : x = 0
      · subst hx
        go_wp2
        go_round
        case rel => exact .inr (.inl (by simp))
        case measure => simp [intOf]
      · have e1 : (x != 0) = true := by simpa using hx
        have HX : Hid (orI x y = x) := by show orI x y = x; simp [orI, hx]
        clear hx
        go_wp2
        go_ret
        exact ⟨by rw [HX.out]; rfl, rfl⟩
    · by_cases hy : y = 0
      · subst hy
        go_wp2
        go_round
        case rel => exact .inr (.inr (by simp))
        case measure => simp [intOf]
      · have e1 : (y != 0) = true := by simpa using hy
        clear hy
        go_wp2
        go_ret
        exact ⟨by rw [HO.out]; rfl, rfl⟩
    · go_wp2
      go_ret
      exact ⟨by rw [HO.out]; rfl, rfl⟩

/-- how two dots stand -/
def cmpD (r n r' n' : Int) : Int := orI (cmpI r r') (cmpI n n')
def lessD (r n r' n' : Int) : Bool := decide (r < r') || (decide (r = r') && decide (n < n'))
theorem cmpD_lt (r n r' n' : Int) : decide (cmpD r n r' n' < 0) = lessD r n r' n' := by
  unfold cmpD lessD orI cmpI
  by_cases h1 : r < r'
  · simp [h1]
  · by_cases h2 : r' < r
    · have : r ≠ r' := by omega
      simp [h1, h2, this]
    · have : r = r' := by omega
      subst this
      by_cases h3 : n < n'
      · simp [h3]
      · by_cases h4 : n' < n <;> simp [h3, h4]
theorem cmpD_gt (r n r' n' : Int) : decide (cmpD r n r' n' > 0) = lessD r' n' r n := by
  unfold cmpD lessD orI cmpI
  by_cases h1 : r < r'
  · have : ¬ r' < r := by omega
    have h5 : r' ≠ r := by omega
    simp [h1, this, h5]
  · by_cases h2 : r' < r
    · simp [h1, h2]
    · have : r = r' := by omega
      subst this
      by_cases h3 : n < n'
      · have : ¬ n' < n := by omega
        simp [h3, this]
      · by_cases h4 : n' < n <;> simp [h3, h4]
set_option maxHeartbeats 1000000 in
set_option maxRecDepth 100000 in
theorem dotCompare_is (r n r' n' : Int) (w : World) : Calls Tryd.prog 45 #[.agg #[.int .i64 r, .int .i64 n], .agg #[.int .i64 r', .int .i64 n']] w fun e w' => e = .returned (.int .i64 (cmpD r n r' n')) ∧ Below w.heap.size w w' := by
  go_enter Tryd.func45, Tryd.ntmps45
  go_wp2
  have hA := heap_alloc_new w (.cells #[.int .i64 r, .int .i64 n] 32)
  have hB := heap_alloc_new (w.alloc (.cells #[.int .i64 r, .int .i64 n] 32)) (.cells #[.int .i64 r', .int .i64 n'] 32)
  have hbel : Below w.heap.size w ((w.alloc (.cells #[.int .i64 r, .int .i64 n] 32)).alloc (.cells #[.int .i64 r', .int .i64 n'] 32)) := thenBelow (below_alloc _ _) (below_alloc _ _)
  have hz : (w.alloc (.cells #[.int .i64 r, .int .i64 n] 32)).heap.size = w.heap.size + 1 := by simp
  rw [hz] at hB
  have a0 := cell_alloc (.cells #[.int .i64 r', .int .i64 n'] 32) ((cell_of_row _ w.heap.size 0 _ _ _ hA).trans (show _ = some (.int .i64 r) from rfl))
  have a1 := cell_alloc (.cells #[.int .i64 r', .int .i64 n'] 32) ((cell_of_row _ w.heap.size 1 _ _ _ hA).trans (show _ = some (.int .i64 n) from rfl))
  have b0 := (cell_of_row _ (w.heap.size + 1) 0 _ _ _ hB).trans (show _ = some (.int .i64 r') from rfl)
  have b1 := (cell_of_row _ (w.heap.size + 1) 1 _ _ _ hB).trans (show _ = some (.int .i64 n') from rfl)
  generalize (w.alloc (.cells #[.int .i64 r, .int .i64 n] 32)).alloc (.cells #[.int .i64 r', .int .i64 n'] 32) = w2 at hbel a0 a1 b0 b1 ⊢
  clear hA hB hz
  have B2 := Lib.hid hbel
  have a0 := cell_regrown a0; have a1 := cell_regrown a1; have b0 := cell_regrown b0; have b1 := cell_regrown b1
  have c1 := quiet_call (w := w2) (fun W => (compare_is r r' W).mono fun e w' ⟨h1, h2⟩ => ⟨h1, by subst h2; exact Below.refl _ _⟩)
  have c2 := quiet_call (w := w2) (fun W => (compare_is n n' W).mono fun e w' ⟨h1, h2⟩ => ⟨h1, by subst h2; exact Below.refl _ _⟩)
  have HD : Hid (cmpD r n r' n' = orI (cmpI r r') (cmpI n n')) := rfl
  generalize cmpI r r' = x at c1 HD
  generalize cmpI n n' = y at c2 HD
  refine wp_region_below_tail 10 (by kernel_rfl) (by kernel_rfl) ?_
  simp only [List.take_succ_cons, List.take_zero, List.drop_succ_cons, List.drop_zero]
  iterate 4 (quiet_step (fail))
  quiet_step (exact c1 _ _)
  iterate 4 (quiet_step (fail))
  quiet_step (exact c2 _ _)
  refine wpQuiet_nil ?_
  rintro _ ⟨⟨dq, osq⟩, rfl⟩
  have B3 := Lib.hid (thenBelow B2.out (below_regrown w2 dq osq))
  generalize Sort.grow (redrawn w2 dq) osq = w3 at B3 ⊢
  clear a0 a1 b0 b1 c1 c2
  have hO := Lib.hid (or_is w3.heap.size x y (w3.alloc (.cells #[.int .i64 x, .int .i64 y] 3)) ((cell_of_row _ w3.heap.size 0 _ _ _ (heap_alloc_new w3 _)).trans rfl) ((cell_of_row _ w3.heap.size 1 _ _ _ (heap_alloc_new w3 _)).trans rfl))
  have B4 := Lib.hid (thenBelow B3.out (below_alloc w3 (.cells #[.int .i64 x, .int .i64 y] 3)))
  go_wp2_with fail
  refine hO.out.mono ?_
  rintro e w' ⟨rfl, rfl⟩
  go_wp2
  go_ret
  exact ⟨by rw [HD.out]; rfl, B4.out⟩
theorem less_is (r n r' n' : Int) (w : World) : Calls Tryd.prog 27 #[.agg #[.int .i64 r, .int .i64 n], .agg #[.int .i64 r', .int .i64 n']] w fun e w' => e = .returned (.bool (lessD r n r' n')) ∧ Below w.heap.size w w' := by
  have L0 : Hid (lessD r n r' n' = (decide (r < r') || (decide (r = r') && decide (n < n')))) := rfl
  by_cases h1 : r < r'
  · go_enter Tryd.func27, Tryd.ntmps27
    go_wp2
    go_ret
    exact ⟨ret_bool (by rw [L0.out]; simp [h1]), thenBelow (below_alloc _ _) (below_alloc _ _)⟩
  · by_cases h2 : r = r'
    · subst h2
      go_enter Tryd.func27, Tryd.ntmps27
      go_wp2
      go_ret
      exact ⟨ret_bool (by rw [L0.out]; simp), thenBelow (below_alloc _ _) (below_alloc _ _)⟩
    · have h3 : (r == r') = false := by simpa using h2
      go_enter Tryd.func27, Tryd.ntmps27
      go_wp2
      go_ret
      exact ⟨ret_bool (by rw [L0.out]; simp [h1, h2]), thenBelow (below_alloc _ _) (below_alloc _ _)⟩

/-- a dot's cells -/
def dcs (r n : Int) : Array Value := #[.int .i64 r, .int .i64 n]
def vldB (r n : Int) : Bool := decide (0 ≤ r ∧ r < 64 ∧ 1 ≤ n ∧ n ≤ 1073741824)
theorem vld_iff (r n : Int) : vldB r n = true ↔ 0 ≤ r ∧ r < 64 ∧ 1 ≤ n ∧ n ≤ 1073741824 := by simp [vldB]
theorem vld_cases (r n : Int) : (r < 0 ∧ vldB r n = false) ∨ ((0 ≤ r ∧ 64 ≤ r) ∧ vldB r n = false) ∨ ((0 ≤ r ∧ r < 64) ∧ n < 1 ∧ vldB r n = false) ∨ ((0 ≤ r ∧ r < 64) ∧ (1 ≤ n ∧ 1073741824 < n) ∧ vldB r n = false) ∨ ((0 ≤ r ∧ r < 64) ∧ (1 ≤ n ∧ n ≤ 1073741824) ∧ vldB r n = true) := by
  have h := vld_iff r n
  cases e : vldB r n with
  | true => have := h.1 e; exact .inr (.inr (.inr (.inr ⟨⟨by omega, by omega⟩, ⟨by omega, by omega⟩, rfl⟩)))
  | false =>
    have : ¬ (0 ≤ r ∧ r < 64 ∧ 1 ≤ n ∧ n ≤ 1073741824) := fun h2 => by rw [h.2 h2] at e; cases e
    simp only [true_and, and_true]
    omega
theorem valid_is (r n : Int) (w : World) : Calls Tryd.prog 49 #[.agg (dcs r n)] w (RetBool w (vldB r n)) := by
  have key := vld_cases r n
  generalize vldB r n = b at key
  unfold dcs
  rcases key with ⟨h1, rfl⟩ | ⟨⟨h1, h2⟩, rfl⟩ | ⟨⟨h1, h2⟩, h3, rfl⟩ | ⟨⟨h1, h2⟩, ⟨h3, h4⟩, rfl⟩ | ⟨⟨h1, h2⟩, ⟨h3, h4⟩, rfl⟩
  all_goals
    go_enter Tryd.func49, Tryd.ntmps49
    go_wp2
    go_ret
    exact ⟨ret_bool (by first | rfl | (simp; done) | (simp; omega)), below_alloc _ _⟩
theorem refValid_is (r n : Int) (w : World) : Calls Tryd.prog 25 #[.agg (dcs r n)] w (RetBool w (vldB r n)) := by
  have key := vld_cases r n
  generalize vldB r n = b at key
  unfold dcs
  rcases key with ⟨h1, rfl⟩ | ⟨⟨h1, h2⟩, rfl⟩ | ⟨⟨h1, h2⟩, h3, rfl⟩ | ⟨⟨h1, h2⟩, ⟨h3, h4⟩, rfl⟩ | ⟨⟨h1, h2⟩, ⟨h3, h4⟩, rfl⟩
  all_goals
    go_enter Tryd.func25, Tryd.ntmps25
    go_wp2
    go_ret
    exact ⟨ret_bool (by first | rfl | (simp; done) | (simp; omega)), below_alloc _ _⟩

def hasB (f : Nat → Int) (r n : Int) : Bool := vldB r n && decide (n ≤ f r.toNat)
theorem has_in (f : Nat → Int) (i : Nat) (n : Int) (h : vldB i n = true) : hasB f i n = decide (n ≤ f i) := by simp [hasB, h]
theorem has_out (f : Nat → Int) (r n : Int) (h : vldB r n = false) : hasB f r n = false := by simp [hasB, h]
def withF (f : Nat → Int) (r n : Int) : Nat → Int := if vldB r n then vset f r.toNat (max (f r.toNat) n) else f
theorem with_in (f : Nat → Int) (i : Nat) (n : Int) (h : vldB i n = true) : withF f i n = vset f i (max (f i) n) := by simp [withF, h]
theorem with_out (f : Nat → Int) (r n : Int) (h : vldB r n = false) : withF f r n = f := by simp [withF, h]

set_option maxHeartbeats 1000000 in
set_option maxRecDepth 100000 in
theorem has_is (f : Nat → Int) (r n : Int) (w : World) : Calls Tryd.prog 30 #[.agg (vf f), .agg (dcs r n)] w (RetBool w (hasB f r n)) := by
  go_enter Tryd.func30, Tryd.ntmps30
  go_wp2_with (refine wpList_vbox vecI rfl _ rfl f rfl ?_)
  intro gv w1 lv rv hb1
  have B1 := Lib.hid hb1; have RV1 := Lib.hid rv
  clear hb1 rv
  go_wp2_with (refine wpList_gbox rfl _ rfl (dcs r n) rfl ?_)
  intro gd w2 ld hD hb2
  have B2 := Lib.hid (thenBelow B1.out hb2); have RV2 := Lib.hid (RV1.out.later hb2)
  have d0 := cell_regrown ((cell_of_row _ gd 0 _ _ _ hD).trans (show _ = some (.int .i64 r) from rfl))
  have d1 := cell_regrown ((cell_of_row _ gd 1 _ _ _ hD).trans (show _ = some (.int .i64 n) from rfl))
  have D0 := Lib.hid hD
  clear hD hb2
  have cV := quiet_call (w := w2) (valid_is r n)
  unfold dcs at cV
  cases e : vldB r n with
  | true =>
    have hv := (vld_iff r n).1 e
    obtain ⟨i, rfl⟩ : ∃ i : Nat, r = (i : Int) := ⟨r.toNat, by omega⟩
    rw [e] at cV
    have HB := Lib.hid (has_in f i n e)
    have hc := cell_regrown (RV2.out.cell i (by omega))
    have hi64 : (i : Int) < 64 := by omega
    clear e hv
    generalize f i = x at hc HB
    go_wp2
    refine wp_region_quiet_below (by kernel_rfl) (by kernel_rfl) ?_
    quiet_step (fail)
    quiet_step (exact cV _ _)
    repeat (quiet_step (fail))
    refine wpQuiet_nil ?_
    rintro _ ⟨⟨dq, osq⟩, rfl⟩
    have B3 := Lib.hid (thenBelow B2.out (below_regrown w2 dq osq))
    generalize Sort.grow (redrawn w2 dq) osq = w3 at B3 ⊢
    clear d0 d1 cV hc
    go_wp2
    go_ret
    exact ⟨ret_bool (by first | (rw [HB.out]; done) | (rw [HB.out]; simp; done) | (rw [HB.out]; simp; omega)), B3.out⟩
  | false =>
    rw [e] at cV
    have HB := Lib.hid (has_out f r n e)
    clear e
    go_wp2
    refine wp_region_quiet_below (by kernel_rfl) (by kernel_rfl) ?_
    quiet_step (fail)
    quiet_step (exact cV _ _)
    repeat (quiet_step (fail))
    refine wpQuiet_nil ?_
    rintro _ ⟨⟨dq, osq⟩, rfl⟩
    have B3 := Lib.hid (thenBelow B2.out (below_regrown w2 dq osq))
    generalize Sort.grow (redrawn w2 dq) osq = w3 at B3 ⊢
    clear d0 d1 cV
    go_wp2
    go_ret
    exact ⟨ret_bool (by rw [HB.out]), B3.out⟩
set_option maxHeartbeats 1000000 in
set_option maxRecDepth 100000 in
theorem refHas_is (f : Nat → Int) (r n : Int) (w : World) : Calls Tryd.prog 12 #[.agg (vf f), .agg (dcs r n)] w (RetBool w (hasB f r n)) := by
  go_enter Tryd.func12, Tryd.ntmps12
  go_wp2_with (refine wpList_vbox vecI rfl _ rfl f rfl ?_)
  intro gv w1 lv rv hb1
  have B1 := Lib.hid hb1; have RV1 := Lib.hid rv
  clear hb1 rv
  go_wp2_with (refine wpList_gbox rfl _ rfl (dcs r n) rfl ?_)
  intro gd w2 ld hD hb2
  have B2 := Lib.hid (thenBelow B1.out hb2); have RV2 := Lib.hid (RV1.out.later hb2)
  have d0 := cell_regrown ((cell_of_row _ gd 0 _ _ _ hD).trans (show _ = some (.int .i64 r) from rfl))
  have d1 := cell_regrown ((cell_of_row _ gd 1 _ _ _ hD).trans (show _ = some (.int .i64 n) from rfl))
  have D0 := Lib.hid hD
  clear hD hb2
  have cV := quiet_call (w := w2) (refValid_is r n)
  unfold dcs at cV
  cases e : vldB r n with
  | true =>
    have hv := (vld_iff r n).1 e
    obtain ⟨i, rfl⟩ : ∃ i : Nat, r = (i : Int) := ⟨r.toNat, by omega⟩
    rw [e] at cV
    have HB := Lib.hid (has_in f i n e)
    have hc := cell_regrown (RV2.out.cell i (by omega))
    have hi64 : (i : Int) < 64 := by omega
    clear e hv
    generalize f i = x at hc HB
    go_wp2
    refine wp_region_quiet_below (by kernel_rfl) (by kernel_rfl) ?_
    quiet_step (fail)
    quiet_step (exact cV _ _)
    repeat (quiet_step (fail))
    refine wpQuiet_nil ?_
    rintro _ ⟨⟨dq, osq⟩, rfl⟩
    have B3 := Lib.hid (thenBelow B2.out (below_regrown w2 dq osq))
    generalize Sort.grow (redrawn w2 dq) osq = w3 at B3 ⊢
    clear d0 d1 cV hc
    go_wp2
    go_ret
    exact ⟨ret_bool (by first | (rw [HB.out]; done) | (rw [HB.out]; simp; done) | (rw [HB.out]; simp; omega)), B3.out⟩
  | false =>
    rw [e] at cV
    have HB := Lib.hid (has_out f r n e)
    clear e
    go_wp2
    refine wp_region_quiet_below (by kernel_rfl) (by kernel_rfl) ?_
    quiet_step (fail)
    quiet_step (exact cV _ _)
    repeat (quiet_step (fail))
    refine wpQuiet_nil ?_
    rintro _ ⟨⟨dq, osq⟩, rfl⟩
    have B3 := Lib.hid (thenBelow B2.out (below_regrown w2 dq osq))
    generalize Sort.grow (redrawn w2 dq) osq = w3 at B3 ⊢
    clear d0 d1 cV
    go_wp2
    go_ret
    exact ⟨ret_bool (by rw [HB.out]), B3.out⟩

set_option maxHeartbeats 1000000 in
set_option maxRecDepth 100000 in
theorem with_is (f : Nat → Int) (r n : Int) (w : World) : Calls Tryd.prog 36 #[.agg (vf f), .agg (dcs r n)] w (RetVec w (withF f r n)) := by
  go_enter Tryd.func36, Tryd.ntmps36
  go_wp2_with (refine wpList_vbox vecI rfl _ rfl f rfl ?_)
  intro gv w1 lv rv hb1
  have B1 := Lib.hid hb1; have RV1 := Lib.hid rv
  clear hb1 rv
  go_wp2_with (refine wpList_gbox rfl _ rfl (dcs r n) rfl ?_)
  intro gd w2 ld hD hb2
  have B2 := Lib.hid (thenBelow B1.out hb2); have RV2 := Lib.hid (RV1.out.later hb2)
  have D2 := Lib.hid ((cell_of_row _ gd 0 _ _ _ hD).trans (show _ = some (.int .i64 r) from rfl))
  have E2 := Lib.hid ((cell_of_row _ gd 1 _ _ _ hD).trans (show _ = some (.int .i64 n) from rfl))
  clear hD hb2
  go_wp2_with (refine wpList_valloc vecI zeroV rfl rfl ?_)
  intro gr w3 lr rr hb3
  have B3 := Lib.hid (thenBelow B2.out hb3); have RV3 := Lib.hid (RV2.out.later hb3); have RR3 := Lib.hid rr
  have D3 := Lib.hid ((hb3.cell (p := ⟨gd, 0, none⟩) (World.block_lt_of_cell? _ _ D2.out)).trans D2.out)
  have E3 := Lib.hid ((hb3.cell (p := ⟨gd, 1, none⟩) (World.block_lt_of_cell? _ _ E2.out)).trans E2.out)
  have hvr : gv < gr := Nat.lt_of_lt_of_le RV2.out.lt lr
  have lwr := Nat.le_trans B2.out.size lr
  have lwv : w.heap.size ≤ gv := lv
  have VA := Lib.hid (valid_is r n w3)
  clear hb3 rr
  have d0 := D3.out; have d1 := E3.out
  go_wp2_with fail
  refine VA.out.mono ?_
  rintro e w4 ⟨rfl, hb4⟩
  have B4 := Lib.hid (thenBelow B3.out hb4); have RV4 := Lib.hid (RV3.out.later hb4); have RR4 := Lib.hid (RR3.out.later hb4)
  have D4 := Lib.hid ((hb4.cell (p := ⟨gd, 0, none⟩) (World.block_lt_of_cell? _ _ D3.out)).trans D3.out)
  have E4 := Lib.hid ((hb4.cell (p := ⟨gd, 1, none⟩) (World.block_lt_of_cell? _ _ E3.out)).trans E3.out)
  clear hb4 VA d0 d1
  cases e : vldB r n with
  | true =>
    have hv := (vld_iff r n).1 e
    obtain ⟨i, rfl⟩ : ∃ i : Nat, r = (i : Int) := ⟨r.toNat, by omega⟩
    have HB := Lib.hid (with_in f i n e)
    have hc := cell_regrown (RV4.out.cell i (by omega))
    have d0 := cell_regrown D4.out; have d1 := cell_regrown E4.out
    have hi64 : (i : Int) < 64 := by omega
    clear e hv
    go_wp2
    refine wp_region_below_tail 10 (by kernel_rfl) (by kernel_rfl) ?_
    simp only [List.take_succ_cons, List.take_zero, List.drop_succ_cons, List.drop_zero]
    repeat (quiet_step (fail))
    refine wpQuiet_nil ?_
    rintro _ ⟨⟨dq, osq⟩, rfl⟩
    have hb5 := below_regrown w4 dq osq
    have B5 := Lib.hid (thenBelow B4.out hb5); have RV5 := Lib.hid (RV4.out.later hb5); have RR5 := Lib.hid (RR4.out.later hb5)
    generalize Sort.grow (redrawn w4 dq) osq = w5 at hb5 B5 RV5 RR5 ⊢
    clear d0 d1 hc hb5
    have hc5 := RV5.out.cell i (by omega)
    have hf5 := RV5.out.free i
    have hS := Lib.hid (RV5.out.set i (max (f i) n))
    have hG := Lib.hid (grown_cell w5 gv i (.int .i64 (max (f i) n)))
    have B6 := Lib.hid (B5.out.trans (grown_below hG.out B5.out.size lwv)); have RR6 := Lib.hid (RR5.out.kept hG.out (by simp; omega))
    go_wp2_with (first | refine wpList_vload vecI rfl _ rfl gv rfl _ _ hS.out ?_ | refine wpList_vstore vecI rfl _ _ rfl gr rfl _ rfl _ _ RR6.out ?_)
    intro w7 r7 g7 _
    have R7 := Lib.hid r7; have B7 := Lib.hid (B6.out.trans (grown_below g7 B6.out.size lwr))
    clear r7 g7
    go_wp2
    exact vec_ret vecI rfl rfl rfl R7.out (fun j _ => by rw [HB.out]) B7.out
  | false =>
    have HB := Lib.hid (with_out f r n e)
    clear e
    go_wp2_with (first | refine wpList_vload vecI rfl _ rfl gv rfl _ _ RV4.out ?_ | refine wpList_vstore vecI rfl _ _ rfl gr rfl _ rfl _ _ RR4.out ?_)
    intro w7 r7 g7 _
    have R7 := Lib.hid r7; have B7 := Lib.hid (B4.out.trans (grown_below g7 B4.out.size lwr))
    clear r7 g7
    go_wp2
    exact vec_ret vecI rfl rfl rfl R7.out (fun j _ => by rw [HB.out]) B7.out

theorem vset_same (f : Nat → Int) (i : Nat) (x : Int) (h : f i = x) : vset f i x = f := by
  funext j
  unfold vset
  by_cases e : j = i
  · subst e; simp [h]
  · simp [e]
end Go.Proofs.YtdnkhcbglmfjbaaDoor
