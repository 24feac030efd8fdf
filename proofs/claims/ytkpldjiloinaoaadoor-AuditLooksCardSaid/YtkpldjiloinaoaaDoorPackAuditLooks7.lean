/- The statement AuditLooks, proved for every input that its row reads: part 7 of 54. -/
import Derived.Test.YtkpldjiloinaoaaDoorPackAuditLooks4
import Derived.Test.YtkpldjiloinaoaaDoorPackAuditLooks6
/- How two dots stand. -/
namespace Go.Proofs.YtkpldjiloinaoaaDoor
open Go Go.RowKit
set_option linter.unusedVariables false

/-- -1, 0, 1 -/
def cmpI (x y : Int) : Int := if x < y then -1 else if x > y then 1 else 0
theorem isNaN_is (x : Int) (w : World) : Calls Tryd.prog 58 #[.int .i64 x] w fun e w' => e = .returned (.bool false) ∧ w = w' := by
  go_enter Tryd.func58, Tryd.ntmps58
  go_wp2
  go_ret
  exact ⟨ret_bool (by simp), rfl⟩
theorem compare_is (x y : Int) (w : World) : Calls Tryd.prog 44 #[.int .i64 x, .int .i64 y] w fun e w' => e = .returned (.int .i64 (cmpI x y)) ∧ w = w' := by
  have Nx := Lib.hid (isNaN_is x w); have Ny := Lib.hid (isNaN_is y w)
  unfold cmpI
  by_cases h : x < y
  · rw [if_pos h]
    go_enter Tryd.func44, Tryd.ntmps44
    go_wp2_with fail
    refine Nx.out.mono ?_
    rintro e w' ⟨rfl, rfl⟩
    go_wp2_with fail
    refine Ny.out.mono ?_
    rintro e w' ⟨rfl, rfl⟩
    go_wp2
    go_ret
    exact ⟨rfl, rfl⟩
  · rw [if_neg h]
    by_cases h2 : x > y
    · rw [if_pos h2]
      go_enter Tryd.func44, Tryd.ntmps44
      go_wp2_with fail
      refine Nx.out.mono ?_
      rintro e w' ⟨rfl, rfl⟩
      go_wp2_with fail
      refine Ny.out.mono ?_
      rintro e w' ⟨rfl, rfl⟩
      go_wp2
      go_ret
      exact ⟨rfl, rfl⟩
    · rw [if_neg h2]
      go_enter Tryd.func44, Tryd.ntmps44
      go_wp2_with fail
      refine Nx.out.mono ?_
      rintro e w' ⟨rfl, rfl⟩
      go_wp2_with fail
      refine Ny.out.mono ?_
      rintro e w' ⟨rfl, rfl⟩
      go_wp2
      go_ret
      exact ⟨rfl, rfl⟩
/-- the first one that is not nought -/
def orI (x y : Int) : Int := if x = 0 then y else x
theorem or_is (G : Nat) (x y : Int) (w : World) (h0 : w.cell? ⟨G, 0, none⟩ = some (.int .i64 x)) (h1 : w.cell? ⟨G, 1, none⟩ = some (.int .i64 y)) :
    Calls Tryd.prog 42 #[.slice (some ⟨G, 0, none⟩) 2 2] w fun e w' => e = .returned (.int .i64 (orI x y)) ∧ w = w' := by
  have e00 : orI 0 y = y := by simp [orI]
  have HO := Lib.hid e00
  clear e00
  go_enter Tryd.func42, Tryd.ntmps42
  go_wp2
  go_loop [8] (fun i => (i = .int .i64 0) ∨ (i = .int .i64 1 ∧ x = 0) ∨ (i = .int .i64 2 ∧ x = 0 ∧ y = 0)) (fun i => 2 - (intOf i).toNat)
  case atStart => exact .inl rfl
  case round =>
    rcases hrel with rfl | ⟨rfl, rfl⟩ | ⟨rfl, rfl, rfl⟩
    · by_cases hx : x = 0
      · subst hx
        go_wp2
        go_round
        case rel => exact .inr (.inl (by simp))
        case measure => simp [intOf]
      · have e1 : (x != 0) = true := by simpa using hx
        have HX : Hid (orI x y = x) := by show orI x y = x; simp [orI, hx]
        clear hx
        go_wp2
        go_ret
        exact ⟨by rw [HX.out]; rfl, rfl⟩
    · by_cases hy : y = 0
      · subst hy
        go_wp2
        go_round
        case rel => exact .inr (.inr (by simp))
        case measure => simp [intOf]
      · have e1 : (y != 0) = true := by simpa using hy
        clear hy
        go_wp2
        go_ret
        exact ⟨by rw [HO.out]; rfl, rfl⟩
    · go_wp2
      go_ret
      exact ⟨by rw [HO.out]; rfl, rfl⟩

/-- how two dots stand -/
def cmpD (r n r' n' : Int) : Int := orI (cmpI r r') (cmpI n n')
def lessD (r n r' n' : Int) : Bool := decide (r < r') || (decide (r = r') && decide (n < n'))
theorem cmpD_lt (r n r' n' : Int) : decide (cmpD r n r' n' < 0) = lessD r n r' n' := by
  unfold cmpD lessD orI cmpI
  by_cases h1 : r < r'
  · simp [h1]
  · by_cases h2 : r' < r
    · have : r ≠ r' := by omega
      simp [h1, h2, this]
    · have : r = r' := by omega
      subst this
      by_cases h3 : n < n'
      · simp [h3]
      · by_cases h4 : n' < n <;> simp [h3, h4]
theorem cmpD_gt (r n r' n' : Int) : decide (cmpD r n r' n' > 0) = lessD r' n' r n := by
  unfold cmpD lessD orI cmpI
  by_cases h1 : r < r'
  · have : ¬ r' < r := by omega
    have h5 : r' ≠ r := by omega
    simp [h1, this, h5]
  · by_cases h2 : r' < r
    · simp [h1, h2]
    · have : r = r' := by omega
      subst this
      by_cases h3 : n < n'
      · have : ¬ n' < n := by omega
        simp [h3, this]
      · by_cases h4 : n' < n <;> simp [h3, h4]
set_option maxHeartbeats 1000000 in
set_option maxRecDepth 100000 in
theorem dotCompare_is (r n r' n' : Int) (w : World) : Calls Tryd.prog 45 #[.agg #[.int .i64 r, .int .i64 n], .agg #[.int .i64 r', .int .i64 n']] w fun e w' => e = .returned (.int .i64 (cmpD r n r' n')) ∧ Below w.heap.size w w' := by
  go_enter Tryd.func45, Tryd.ntmps45
  go_wp2
  have hA := heap_alloc_new w (.cells #[.int .i64 r, .int .i64 n] 37)
  have hB := heap_alloc_new (w.alloc (.cells #[.int .i64 r, .int .i64 n] 37)) (.cells #[.int .i64 r', .int .i64 n'] 37)
  have hbel : Below w.heap.size w ((w.alloc (.cells #[.int .i64 r, .int .i64 n] 37)).alloc (.cells #[.int .i64 r', .int .i64 n'] 37)) := thenBelow (below_alloc _ _) (below_alloc _ _)
  have hz : (w.alloc (.cells #[.int .i64 r, .int .i64 n] 37)).heap.size = w.heap.size + 1 := by simp
  rw [hz] at hB
  have a0 := cell_alloc (.cells #[.int .i64 r', .int .i64 n'] 37) ((cell_of_row _ w.heap.size 0 _ _ _ hA).trans (show _ = some (.int .i64 r) from rfl))
  have a1 := cell_alloc (.cells #[.int .i64 r', .int .i64 n'] 37) ((cell_of_row _ w.heap.size 1 _ _ _ hA).trans (show _ = some (.int .i64 n) from rfl))
  have b0 := (cell_of_row _ (w.heap.size + 1) 0 _ _ _ hB).trans (show _ = some (.int .i64 r') from rfl)
  have b1 := (cell_of_row _ (w.heap.size + 1) 1 _ _ _ hB).trans (show _ = some (.int .i64 n') from rfl)
  generalize (w.alloc (.cells #[.int .i64 r, .int .i64 n] 37)).alloc (.cells #[.int .i64 r', .int .i64 n'] 37) = w2 at hbel a0 a1 b0 b1 ⊢
  clear hA hB hz
  have B2 := Lib.hid hbel
  have a0 := cell_regrown a0; have a1 := cell_regrown a1; have b0 := cell_regrown b0; have b1 := cell_regrown b1
  have c1 := quiet_call (w := w2) (fun W => (compare_is r r' W).mono fun e w' ⟨h1, h2⟩ => ⟨h1, by subst h2; exact Below.refl _ _⟩)
  have c2 := quiet_call (w := w2) (fun W => (compare_is n n' W).mono fun e w' ⟨h1, h2⟩ => ⟨h1, by subst h2; exact Below.refl _ _⟩)
  have HD : Hid (cmpD r n r' n' = orI (cmpI r r') (cmpI n n')) := rfl
  generalize cmpI r r' = x at c1 HD
  generalize cmpI n n' = y at c2 HD
  refine wp_region_below_tail 10 (by kernel_rfl) (by kernel_rfl) ?_
  simp only [List.take_succ_cons, List.take_zero, List.drop_succ_cons, List.drop_zero]
  iterate 4 (quiet_step (fail))
  quiet_step (exact c1 _ _)
  iterate 4 (quiet_step (fail))
  quiet_step (exact c2 _ _)
  refine wpQuiet_nil ?_
  rintro _ ⟨⟨dq, osq⟩, rfl⟩
  have B3 := Lib.hid (thenBelow B2.out (below_regrown w2 dq osq))
  generalize Sort.grow (redrawn w2 dq) osq = w3 at B3 ⊢
  clear a0 a1 b0 b1 c1 c2
  have hO := Lib.hid (or_is w3.heap.size x y (w3.alloc (.cells #[.int .i64 x, .int .i64 y] 3)) ((cell_of_row _ w3.heap.size 0 _ _ _ (heap_alloc_new w3 _)).trans rfl) ((cell_of_row _ w3.heap.size 1 _ _ _ (heap_alloc_new w3 _)).trans rfl))
  have B4 := Lib.hid (thenBelow B3.out (below_alloc w3 (.cells #[.int .i64 x, .int .i64 y] 3)))
  go_wp2_with fail
  refine hO.out.mono ?_
  rintro e w' ⟨rfl, rfl⟩
  go_wp2
  go_ret
  exact ⟨by rw [HD.out]; rfl, B4.out⟩
theorem less_is (r n r' n' : Int) (w : World) : Calls Tryd.prog 54 #[.agg #[.int .i64 r, .int .i64 n], .agg #[.int .i64 r', .int .i64 n']] w fun e w' => e = .returned (.bool (lessD r n r' n')) ∧ Below w.heap.size w w' := by
  have L0 : Hid (lessD r n r' n' = (decide (r < r') || (decide (r = r') && decide (n < n')))) := rfl
  by_cases h1 : r < r'
  · go_enter Tryd.func54, Tryd.ntmps54
    go_wp2
    go_ret
    exact ⟨ret_bool (by rw [L0.out]; simp [h1]), thenBelow (below_alloc _ _) (below_alloc _ _)⟩
  · by_cases h2 : r = r'
    · subst h2
      go_enter Tryd.func54, Tryd.ntmps54
      go_wp2
      go_ret
      exact ⟨ret_bool (by rw [L0.out]; simp), thenBelow (below_alloc _ _) (below_alloc _ _)⟩
    · have h3 : (r == r') = false := by simpa using h2
      go_enter Tryd.func54, Tryd.ntmps54
      go_wp2
      go_ret
      exact ⟨ret_bool (by rw [L0.out]; simp [h1, h2]), thenBelow (below_alloc _ _) (below_alloc _ _)⟩

/-- a dot's cells -/
def dcs (r n : Int) : Array Value := #[.int .i64 r, .int .i64 n]
def vldB (r n : Int) : Bool := decide (0 ≤ r ∧ r < 64 ∧ 1 ≤ n ∧ n ≤ 1073741824)
theorem vld_iff (r n : Int) : vldB r n = true ↔ 0 ≤ r ∧ r < 64 ∧ 1 ≤ n ∧ n ≤ 1073741824 := by simp [vldB]
theorem vld_cases (r n : Int) : (r < 0 ∧ vldB r n = false) ∨ ((0 ≤ r ∧ 64 ≤ r) ∧ vldB r n = false) ∨ ((0 ≤ r ∧ r < 64) ∧ n < 1 ∧ vldB r n = false) ∨ ((0 ≤ r ∧ r < 64) ∧ (1 ≤ n ∧ 1073741824 < n) ∧ vldB r n = false) ∨ ((0 ≤ r ∧ r < 64) ∧ (1 ≤ n ∧ n ≤ 1073741824) ∧ vldB r n = true) := by
  have h := vld_iff r n
  cases e : vldB r n with
  | true => have := h.1 e; exact .inr (.inr (.inr (.inr ⟨⟨by omega, by omega⟩, ⟨by omega, by omega⟩, rfl⟩)))
  | false =>
    have : ¬ (0 ≤ r ∧ r < 64 ∧ 1 ≤ n ∧ n ≤ 1073741824) := fun h2 => by rw [h.2 h2] at e; cases e
    simp only [true_and, and_true]
    omega
theorem valid_is (r n : Int) (w : World) : Calls Tryd.prog 41 #[.agg (dcs r n)] w (RetBool w (vldB r n)) := by
  have key := vld_cases r n
  generalize vldB r n = b at key
  unfold dcs
  rcases key with ⟨h1, rfl⟩ | ⟨⟨h1, h2⟩, rfl⟩ | ⟨⟨h1, h2⟩, h3, rfl⟩ | ⟨⟨h1, h2⟩, ⟨h3, h4⟩, rfl⟩ | ⟨⟨h1, h2⟩, ⟨h3, h4⟩, rfl⟩
  all_goals
    go_enter Tryd.func41, Tryd.ntmps41
    go_wp2
    go_ret
    exact ⟨ret_bool (by first | rfl | (simp; done) | (simp; omega)), below_alloc _ _⟩
theorem refValid_is (r n : Int) (w : World) : Calls Tryd.prog 52 #[.agg (dcs r n)] w (RetBool w (vldB r n)) := by
  have key := vld_cases r n
  generalize vldB r n = b at key
  unfold dcs
  rcases key with ⟨h1, rfl⟩ | ⟨⟨h1, h2⟩, rfl⟩ | ⟨⟨h1, h2⟩, h3, rfl⟩ | ⟨⟨h1, h2⟩, ⟨h3, h4⟩, rfl⟩ | ⟨⟨h1, h2⟩, ⟨h3, h4⟩, rfl⟩
  all_goals
    go_enter Tryd.func52, Tryd.ntmps52
    go_wp2
    go_ret
    exact ⟨ret_bool (by first | rfl | (simp; done) | (simp; omega)), below_alloc _ _⟩

def hasB (f : Nat → Int) (r n : Int) : Bool := vldB r n && decide (n ≤ f r.toNat)
theorem has_in (f : Nat → Int) (i : Nat) (n : Int) (h : vldB i n = true) : hasB f i n = decide (n ≤ f i) := by simp [hasB, h]
theorem has_out (f : Nat → Int) (r n : Int) (h : vldB r n = false) : hasB f r n = false := by simp [hasB, h]
def withF (f : Nat → Int) (r n : Int) : Nat → Int := if vldB r n then vset f r.toNat (max (f r.toNat) n) else f
theorem with_in (f : Nat → Int) (i : Nat) (n : Int) (h : vldB i n = true) : withF f i n = vset f i (max (f i) n) := by simp [withF, h]
theorem with_out (f : Nat → Int) (r n : Int) (h : vldB r n = false) : withF f r n = f := by simp [withF, h]

set_option maxHeartbeats 1000000 in
set_option maxRecDepth 100000 in
theorem has_is (f : Nat → Int) (r n : Int) (w : World) : Calls Tryd.prog 26 #[.agg (vf f), .agg (dcs r n)] w (RetBool w (hasB f r n)) := by
  go_enter Tryd.func26, Tryd.ntmps26
  go_wp2_with (refine wpList_vbox vecI rfl _ rfl f rfl ?_)
  intro gv w1 lv rv hb1
  have B1 := Lib.hid hb1; have RV1 := Lib.hid rv
  clear hb1 rv
  go_wp2_with (refine wpList_gbox rfl _ rfl (dcs r n) rfl ?_)
  intro gd w2 ld hD hb2
  have B2 := Lib.hid (thenBelow B1.out hb2); have RV2 := Lib.hid (RV1.out.later hb2)
  have d0 := cell_regrown ((cell_of_row _ gd 0 _ _ _ hD).trans (show _ = some (.int .i64 r) from rfl))
  have d1 := cell_regrown ((cell_of_row _ gd 1 _ _ _ hD).trans (show _ = some (.int .i64 n) from rfl))
  have D0 := Lib.hid hD
  clear hD hb2
  have cV := quiet_call (w := w2) (valid_is r n)
  unfold dcs at cV
  cases e : vldB r n with
  | true =>
    have hv := (vld_iff r n).1 e
    obtain ⟨i, rfl⟩ : ∃ i : Nat, r = (i : Int) := ⟨r.toNat, by omega⟩
    rw [e] at cV
    have HB := Lib.hid (has_in f i n e)
    have hc := cell_regrown (RV2.out.cell i (by omega))
    have hi64 : (i : Int) < 64 := by omega
    clear e hv
    generalize f i = x at hc HB
    go_wp2
    refine wp_region_quiet_below (by kernel_rfl) (by kernel_rfl) ?_
    quiet_step (fail)
    quiet_step (exact cV _ _)
    repeat (quiet_step (fail))
    refine wpQuiet_nil ?_
    rintro _ ⟨⟨dq, osq⟩, rfl⟩
    have B3 := Lib.hid (thenBelow B2.out (below_regrown w2 dq osq))
    generalize Sort.grow (redrawn w2 dq) osq = w3 at B3 ⊢
    clear d0 d1 cV hc
    go_wp2
    go_ret
    exact ⟨ret_bool (by first | (rw [HB.out]; done) | (rw [HB.out]; simp; done) | (rw [HB.out]; simp; omega)), B3.out⟩
  | false =>
    rw [e] at cV
    have HB := Lib.hid (has_out f r n e)
    clear e
    go_wp2
    refine wp_region_quiet_below (by kernel_rfl) (by kernel_rfl) ?_
    quiet_step (fail)
    quiet_step (exact cV _ _)
    repeat (quiet_step (fail))
    refine wpQuiet_nil ?_
    rintro _ ⟨⟨dq, osq⟩, rfl⟩
    have B3 := Lib.hid (thenBelow B2.out (below_regrown w2 dq osq))
    generalize Sort.grow (redrawn w2 dq) osq = w3 at B3 ⊢
    clear d0 d1 cV
    go_wp2
    go_ret
    exact ⟨ret_bool (by rw [HB.out]), B3.out⟩
set_option maxHeartbeats 1000000 in
set_option maxRecDepth 100000 in
theorem refHas_is (f : Nat → Int) (r n : Int) (w : World) : Calls Tryd.prog 36 #[.agg (vf f), .agg (dcs r n)] w (RetBool w (hasB f r n)) := by
  go_enter Tryd.func36, Tryd.ntmps36
  go_wp2_with (refine wpList_vbox vecI rfl _ rfl f rfl ?_)
  intro gv w1 lv rv hb1
  have B1 := Lib.hid hb1; have RV1 := Lib.hid rv
  clear hb1 rv
  go_wp2_with (refine wpList_gbox rfl _ rfl (dcs r n) rfl ?_)
  intro gd w2 ld hD hb2
  have B2 := Lib.hid (thenBelow B1.out hb2); have RV2 := Lib.hid (RV1.out.later hb2)
  have d0 := cell_regrown ((cell_of_row _ gd 0 _ _ _ hD).trans (show _ = some (.int .i64 r) from rfl))
  have d1 := cell_regrown ((cell_of_row _ gd 1 _ _ _ hD).trans (show _ = some (.int .i64 n) from rfl))
  have D0 := Lib.hid hD
  clear hD hb2
  have cV := quiet_call (w := w2) (refValid_is r n)
  unfold dcs at cV
  cases e : vldB r n with
  | true =>
    have hv := (vld_iff r n).1 e
    obtain ⟨i, rfl⟩ : ∃ i : Nat, r = (i : Int) := ⟨r.toNat, by omega⟩
    rw [e] at cV
    have HB := Lib.hid (has_in f i n e)
    have hc := cell_regrown (RV2.out.cell i (by omega))
    have hi64 : (i : Int) < 64 := by omega
    clear e hv
    generalize f i = x at hc HB
    go_wp2
    refine wp_region_quiet_below (by kernel_rfl) (by kernel_rfl) ?_
    quiet_step (fail)
    quiet_step (exact cV _ _)
    repeat (quiet_step (fail))
    refine wpQuiet_nil ?_
    rintro _ ⟨⟨dq, osq⟩, rfl⟩
    have B3 := Lib.hid (thenBelow B2.out (below_regrown w2 dq osq))
    generalize Sort.grow (redrawn w2 dq) osq = w3 at B3 ⊢
    clear d0 d1 cV hc
    go_wp2
    go_ret
    exact ⟨ret_bool (by first | (rw [HB.out]; done) | (rw [HB.out]; simp; done) | (rw [HB.out]; simp; omega)), B3.out⟩
  | false =>
    rw [e] at cV
    have HB := Lib.hid (has_out f r n e)
    clear e
    go_wp2
    refine wp_region_quiet_below (by kernel_rfl) (by kernel_rfl) ?_
    quiet_step (fail)
    quiet_step (exact cV _ _)
    repeat (quiet_step (fail))
    refine wpQuiet_nil ?_
    rintro _ ⟨⟨dq, osq⟩, rfl⟩
    have B3 := Lib.hid (thenBelow B2.out (below_regrown w2 dq osq))
    generalize Sort.grow (redrawn w2 dq) osq = w3 at B3 ⊢
    clear d0 d1 cV
    go_wp2
    go_ret
    exact ⟨ret_bool (by rw [HB.out]), B3.out⟩

theorem vset_same (f : Nat → Int) (i : Nat) (x : Int) (h : f i = x) : vset f i x = f := by
  funext j
  unfold vset
  by_cases e : j = i
  · subst e; simp [h]
  · simp [e]
end Go.Proofs.YtkpldjiloinaoaaDoor
