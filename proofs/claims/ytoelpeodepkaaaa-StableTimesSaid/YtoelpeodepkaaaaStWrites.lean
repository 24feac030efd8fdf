/- How two writes stand, the program's word and the document's; the latest of some. -/
import Derived.Test.YtoelpeodepkaaaaStTimes
import Derived.Test.YtoelpeodepkaaaaGen
namespace Go.Proofs.Ytoelpeodepkaaaa
open Go Go.RowKit
set_option linter.unusedVariables false

/-- a write's cells -/
def wcs (r n t f : Int) (d x : ByteArray) : Array Value := #[.int .i64 r, .int .i64 n, .int .i64 t, .string d, .int .i64 f, .string x]
def cmpW (r n t r' n' t' : Int) : Int := orI (cmpI t t') (cmpD r n r' n')
def aheadW (r n t r' n' t' : Int) : Bool := decide (t < t') || (decide (t = t') && lessD r n r' n')
theorem cmpW_lt (r n t r' n' t' : Int) : decide (cmpW r n t r' n' t' < 0) = aheadW r n t r' n' t' := by
  unfold cmpW aheadW orI cmpI
  by_cases h1 : t < t'
  · simp [h1]
  · by_cases h2 : t' < t
    · have : t ≠ t' := by omega
      simp [h1, h2, this]
    · have : t = t' := by omega
      subst this
      simp [cmpD_lt]
theorem cmpW_gt (r n t r' n' t' : Int) : decide (cmpW r n t r' n' t' > 0) = aheadW r' n' t' r n t := by
  have h0 := cmpD_gt r n r' n'
  unfold cmpW aheadW orI cmpI
  by_cases h1 : t < t'
  · have : ¬ t' < t := by omega
    have h5 : t' ≠ t := by omega
    simp [h1, this, h5]
  · by_cases h2 : t' < t
    · simp [h1, h2]
    · have : t = t' := by omega
      subst this
      simpa using h0

set_option maxHeartbeats 1000000 in
set_option maxRecDepth 100000 in
theorem writeCompare_is (r n t f r' n' t' f' : Int) (d x d' x' : ByteArray) (w : World) :
    Calls Try.prog 9 #[.agg (wcs r n t f d x), .agg (wcs r' n' t' f' d' x')] w fun e w' => e = .returned (.int .i64 (cmpW r n t r' n' t')) ∧ Below w.heap.size w w' := by
  go_enter Try.func9, Try.ntmps9
  go_wp2_with (refine wpList_gbox rfl _ rfl (wcs r n t f d x) rfl ?_)
  intro ga w1 la hA hb1
  have B1 := Lib.hid hb1
  have a0 := (cell_of_row _ ga 0 _ _ _ hA).trans (show _ = some (.int .i64 r) from rfl)
  have a1 := (cell_of_row _ ga 1 _ _ _ hA).trans (show _ = some (.int .i64 n) from rfl)
  have a2 := (cell_of_row _ ga 2 _ _ _ hA).trans (show _ = some (.int .i64 t) from rfl)
  have A0 := Lib.hid a0; have A1 := Lib.hid a1; have A2 := Lib.hid a2
  clear hA hb1 a0 a1 a2
  go_wp2_with (refine wpList_gbox rfl _ rfl (wcs r' n' t' f' d' x') rfl ?_)
  intro gb w2 lb hB hb2
  have B2 := Lib.hid (thenBelow B1.out hb2)
  have b0 := cell_regrown ((cell_of_row _ gb 0 _ _ _ hB).trans (show _ = some (.int .i64 r') from rfl))
  have b1 := cell_regrown ((cell_of_row _ gb 1 _ _ _ hB).trans (show _ = some (.int .i64 n') from rfl))
  have b2 := cell_regrown ((cell_of_row _ gb 2 _ _ _ hB).trans (show _ = some (.int .i64 t') from rfl))
  have a0 := cell_regrown ((hb2.cell (p := ⟨ga, 0, none⟩) (World.block_lt_of_cell? _ _ A0.out)).trans A0.out)
  have a1 := cell_regrown ((hb2.cell (p := ⟨ga, 1, none⟩) (World.block_lt_of_cell? _ _ A1.out)).trans A1.out)
  have a2 := cell_regrown ((hb2.cell (p := ⟨ga, 2, none⟩) (World.block_lt_of_cell? _ _ A2.out)).trans A2.out)
  clear hB hb2
  have c1 := quiet_call (w := w2) (fun W => (compare_is t t' W).mono fun e w' ⟨h1, h2⟩ => ⟨h1, by subst h2; exact Below.refl _ _⟩)
  have c2 := quiet_call (w := w2) (dotCompare_is r n r' n')
  have HD : Hid (cmpW r n t r' n' t' = orI (cmpI t t') (cmpD r n r' n')) := rfl
  generalize cmpI t t' = y1 at c1 HD
  generalize cmpD r n r' n' = y2 at c2 HD
  go_wp2
  refine wp_region_below_tail 10 (by kernel_rfl) (by kernel_rfl) ?_
  simp only [List.take_succ_cons, List.take_zero, List.drop_succ_cons, List.drop_zero]
  iterate 4 (quiet_step (fail))
  quiet_step (exact c1 _ _)
  iterate 4 (quiet_step (fail))
  quiet_step (exact c2 _ _)
  refine wpQuiet_nil ?_
  rintro _ ⟨⟨dq, osq⟩, rfl⟩
  have B3 := Lib.hid (thenBelow B2.out (below_regrown w2 dq osq))
  generalize Sort.grow (redrawn w2 dq) osq = w3 at B3 ⊢
  clear a0 a1 b0 b1 c1 c2 a2 b2
  have hO := Lib.hid (or_is w3.heap.size y1 y2 (w3.alloc (.cells #[.int .i64 y1, .int .i64 y2] 3)) ((cell_of_row _ w3.heap.size 0 _ _ _ (heap_alloc_new w3 _)).trans rfl) ((cell_of_row _ w3.heap.size 1 _ _ _ (heap_alloc_new w3 _)).trans rfl))
  have B4 := Lib.hid (thenBelow B3.out (below_alloc w3 (.cells #[.int .i64 y1, .int .i64 y2] 3)))
  go_wp2_with fail
  refine hO.out.mono ?_
  rintro e w' ⟨rfl, rfl⟩
  go_wp2
  go_ret
  exact ⟨by rw [HD.out]; rfl, B4.out⟩

theorem less_is (r n r' n' : Int) (w : World) : Calls Try.prog 26 #[.agg #[.int .i64 r, .int .i64 n], .agg #[.int .i64 r', .int .i64 n']] w fun e w' => e = .returned (.bool (lessD r n r' n')) ∧ Below w.heap.size w w' := by
  have L0 : Hid (lessD r n r' n' = (decide (r < r') || (decide (r = r') && decide (n < n')))) := rfl
  by_cases h1 : r < r'
  · go_enter Try.func26, Try.ntmps26
    go_wp2
    go_ret
    exact ⟨ret_bool (by rw [L0.out]; simp [h1]), thenBelow (below_alloc _ _) (below_alloc _ _)⟩
  · by_cases h2 : r = r'
    · subst h2
      go_enter Try.func26, Try.ntmps26
      go_wp2
      go_ret
      exact ⟨ret_bool (by rw [L0.out]; simp), thenBelow (below_alloc _ _) (below_alloc _ _)⟩
    · have h3 : (r == r') = false := by simpa using h2
      go_enter Try.func26, Try.ntmps26
      go_wp2
      go_ret
      exact ⟨ret_bool (by rw [L0.out]; simp [h1, h2]), thenBelow (below_alloc _ _) (below_alloc _ _)⟩

set_option maxHeartbeats 1000000 in
set_option maxRecDepth 100000 in
theorem ahead_is (r n t f r' n' t' f' : Int) (d x d' x' : ByteArray) (w : World) :
    Calls Try.prog 10 #[.agg (wcs r n t f d x), .agg (wcs r' n' t' f' d' x')] w fun e w' => e = .returned (.bool (aheadW r n t r' n' t')) ∧ Below w.heap.size w w' := by
  have L0 : Hid (aheadW r n t r' n' t' = (decide (t < t') || (decide (t = t') && lessD r n r' n'))) := rfl
  go_enter Try.func10, Try.ntmps10
  go_wp2_with (refine wpList_gbox rfl _ rfl (wcs r n t f d x) rfl ?_)
  intro ga w1 la hA hb1
  have B1 := Lib.hid hb1
  have A0 := Lib.hid ((cell_of_row _ ga 0 _ _ _ hA).trans (show _ = some (.int .i64 r) from rfl))
  have A1 := Lib.hid ((cell_of_row _ ga 1 _ _ _ hA).trans (show _ = some (.int .i64 n) from rfl))
  have A2 := Lib.hid ((cell_of_row _ ga 2 _ _ _ hA).trans (show _ = some (.int .i64 t) from rfl))
  clear hA hb1
  go_wp2_with (refine wpList_gbox rfl _ rfl (wcs r' n' t' f' d' x') rfl ?_)
  intro gb w2 lb hB hb2
  have B2 := Lib.hid (thenBelow B1.out hb2)
  have b0 := (cell_of_row _ gb 0 _ _ _ hB).trans (show _ = some (.int .i64 r') from rfl)
  have b1 := (cell_of_row _ gb 1 _ _ _ hB).trans (show _ = some (.int .i64 n') from rfl)
  have b2 := (cell_of_row _ gb 2 _ _ _ hB).trans (show _ = some (.int .i64 t') from rfl)
  have a0 := (hb2.cell (p := ⟨ga, 0, none⟩) (World.block_lt_of_cell? _ _ A0.out)).trans A0.out
  have a1 := (hb2.cell (p := ⟨ga, 1, none⟩) (World.block_lt_of_cell? _ _ A1.out)).trans A1.out
  have a2 := (hb2.cell (p := ⟨ga, 2, none⟩) (World.block_lt_of_cell? _ _ A2.out)).trans A2.out
  clear hB hb2
  have LE := Lib.hid (less_is r n r' n' w2)
  by_cases h1 : t < t'
  · go_wp2
    go_ret
    exact ⟨ret_bool (by rw [L0.out]; simp [h1]), B2.out⟩
  · by_cases h2 : t = t'
    · subst h2
      have L1 : Hid (aheadW r n t r' n' t = lessD r n r' n') := by show _ = _; rw [L0.out]; simp
      generalize lessD r n r' n' = y at LE L1
      clear L0
      go_wp2_with fail
      refine LE.out.mono ?_
      rintro e w3 ⟨rfl, hb3⟩
      have B3 := Lib.hid (thenBelow B2.out hb3)
      clear hb3 a0 a1 a2 b0 b1 b2
      go_wp2
      go_ret
      exact ⟨ret_bool (by first | (rw [L1.out]; done) | (rw [L1.out]; simp)), B3.out⟩
    · have h3 : (t == t') = false := by simpa using h2
      have L1 : Hid (aheadW r n t r' n' t' = false) := by show _ = _; rw [L0.out]; simp [h1, h2]
      clear L0
      go_wp2
      go_ret
      exact ⟨ret_bool (by first | (rw [L1.out]; done) | (rw [L1.out]; simp)), B2.out⟩

/-- the greatest of the first k times, 0 at least -/
def lat (T : Nat → Int) : Nat → Int
  | 0 => 0
  | k + 1 => max (lat T k) (T k)
/-- writes that came in, and their times -/
structure CameW (w : World) (p : Option Addr) (n c : Nat) (T : Nat → Int) : Prop where
  le : n ≤ c
  max : c ≤ maxLen
  nil : p = none → n = 0 ∧ c = 0
  lies : 0 < n → ∃ b o, p = some ⟨b, o, none⟩ ∧ ∀ i, i < n → ∃ (r m f : Int) (d x : ByteArray), w.rangeAt b (o + i * 6) (wcs r m (T i) f d x).toList
theorem CameR.writes {w : World} {p : Option Addr} {n c : Nat} {E : Nat → List Value} (h : CameR w p n c 6 IsWrite E) : ∃ T, CameW w p n c T := by
  have each : ∀ i, ∃ t : Int, i < n → ∃ (r m f : Int) (d x : ByteArray), E i = (wcs r m t f d x).toList := by
    intro i
    by_cases hi : i < n
    · obtain ⟨r, m, t, f, d, x, e, _⟩ := (h.each i hi).1
      exact ⟨t, fun _ => ⟨r, m, f, d, x, e⟩⟩
    · exact ⟨0, fun h => absurd h hi⟩
  obtain ⟨T, hT⟩ := Classical.axiomOfChoice each
  refine ⟨T, h.le, h.max, h.nil, fun h0 => ?_⟩
  obtain ⟨b, o, rfl, hc⟩ := h.lies h0
  refine ⟨b, o, rfl, fun i hi => ?_⟩
  obtain ⟨r, m, f, d, x, e⟩ := hT i hi
  exact ⟨r, m, f, d, x, by rw [← e]; exact hc i hi⟩
theorem CameW.later {w w' : World} {p : Option Addr} {n c : Nat} {T : Nat → Int} (h : CameW w p n c T) (hb : Below w.heap.size w w') : CameW w' p n c T :=
  ⟨h.le, h.max, h.nil, fun h0 => by
    obtain ⟨b, o, rfl, hc⟩ := h.lies h0
    exact ⟨b, o, rfl, fun i hi => by obtain ⟨r, m, f, d, x, e⟩ := hc i hi; exact ⟨r, m, f, d, x, range_below e hb⟩⟩⟩
theorem zeroW (w : World) : (zeroValue 25).run Try.prog w = .ok (.agg (wcs 0 0 0 0 ByteArray.empty ByteArray.empty)) w := by kernel_rfl
theorem sizeW : (Try.prog.info? 25).map (·.size) = some 6 := by kernel_rfl
theorem wcs_one (r n t f : Int) (d x : ByteArray) : ∀ v ∈ (wcs r n t f d x).toList, v.oneCell' = true := by
  intro v hv; simp [wcs] at hv; rcases hv with rfl | rfl | rfl | rfl | rfl | rfl <;> rfl

set_option maxHeartbeats 1000000 in
set_option maxRecDepth 100000 in
theorem latest_is (p : Option Addr) (n c : Nat) (T : Nat → Int) (w : World) (h : CameW w p n c T) :
    Calls Try.prog 11 #[.slice p n c] w fun e w' => e = .returned (.int .i64 (lat T n)) ∧ Below w.heap.size w w' := by
  have H := Lib.hid h
  have hle := h.le; have hmx := h.max
  unfold maxLen at hmx
  clear h
  go_enter Try.func11, Try.ntmps11
  go_wp2
  go_loopw [3, 8] (fun v i wr => ∃ k : Nat, k ≤ n ∧ i = .int .i64 k ∧ v = .int .i64 (lat T k) ∧ Below w.heap.size w wr) (fun _ i _ => n - (intOf i).toNat)
  case atStart => exact ⟨0, by omega, rfl, rfl, Below.refl _ _⟩
  case round =>
    obtain ⟨k, hk, rfl, rfl, hb⟩ := hrel
    have B := Lib.hid hb
    clear hb
    by_cases hlt : k < n
    · obtain ⟨b, o, rfl, hc⟩ := (H.out.later B.out).lies (by omega)
      obtain ⟨r, m, f, d, x, hr⟩ := hc k hlt
      have HR := Lib.hid hr
      have hkI : (k : Int) < n := by omega
      have LT : Hid (lat T (k + 1) = max (lat T k) (T k)) := rfl
      generalize lat T k = y at LT
      clear hr hc
      go_wp2_with (first | refine wpList_gload rfl _ rfl b (o + k * 6) rfl _ HR.out _ Try.underlying25 rfl sizeW ?_ | refine wpList_galloc _ zeroW rfl rfl ?_)
      intro g w2 lg hg hb2
      have B2 := Lib.hid (thenBelow B.out hb2); have lwg := Nat.le_trans B.out.size lg
      clear hb2
      go_wp2_with (refine wpList_gstore rfl _ _ rfl g rfl _ rfl _ _ hg sizeW rfl (wcs_one _ _ _ _ _ _) ?_)
      intro w3 h3 g3
      have B3 := Lib.hid (B2.out.trans (grown_below g3 B2.out.size lwg))
      have ct := (cell_of_row _ g 2 _ _ _ h3).trans (show _ = some (.int .i64 (T k)) from rfl)
      clear h3 g3 hg
      go_wp2
      go_roundw
      case rel => exact ⟨k + 1, by omega, by go_num, by rw [LT.out], B3.out⟩
      case measure => simp [intOf]; omega
    · obtain rfl : k = n := by omega
      go_wp2
      go_ret
      exact ⟨rfl, B.out⟩
end Go.Proofs.Ytoelpeodepkaaaa
