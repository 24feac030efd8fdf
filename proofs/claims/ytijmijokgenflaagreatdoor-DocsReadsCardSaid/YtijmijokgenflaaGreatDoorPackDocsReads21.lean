/- The statement DocsReads, proved for every input that its row reads: part 21 of 54. -/
import Derived.Test.YtijmijokgenflaaGreatDoorPackDocsReads20
import Derived.Test.YtijmijokgenflaaGreatDoorTabSPlain
import Derived.Test.YtijmijokgenflaaGreatDoorPackDocsReads7
/- How two writes stand: docs.compare; stable.Compare. -/
namespace Go.Proofs.YtijmijokgenflaaGreatDoor
open Go Go.RowKit
set_option linter.unusedVariables false
set_option maxRecDepth 1000000

/-- how two texts stand -/
def cmpS (a b : ByteArray) : Int := if ltB a b then -1 else if ltB b a then 1 else 0
theorem isNaNS_is (x : ByteArray) (w : World) : Calls Tryz.prog 62 #[.string x] w fun e w' => e = .returned (.bool false) ∧ w = w' := by
  go_enter Tryz.func62, Tryz.ntmps62
  go_wp2
  go_ret
  exact ⟨ret_bool (by simp), rfl⟩
theorem compareS_is (x y : ByteArray) (w : World) : Calls Tryz.prog 39 #[.string x, .string y] w fun e w' => e = .returned (.int .i64 (cmpS x y)) ∧ w = w' := by
  have Nx := Lib.hid (isNaNS_is x w); have Ny := Lib.hid (isNaNS_is y w)
  unfold cmpS
  cases h : ltB x y with
  | true =>
    have h' : Op.bytesLess x.toList y.toList = true := h
    rw [if_pos rfl]
    clear h
    go_enter Tryz.func39, Tryz.ntmps39
    go_wp2_with fail
    refine Nx.out.mono ?_
    rintro e w' ⟨rfl, rfl⟩
    go_wp2_with fail
    refine Ny.out.mono ?_
    rintro e w' ⟨rfl, rfl⟩
    go_wp2
    go_ret
    exact ⟨rfl, rfl⟩
  | false =>
    have h' : Op.bytesLess x.toList y.toList = false := h
    rw [if_neg (by decide)]
    clear h
    cases h2 : ltB y x with
    | true =>
      have h2' : Op.bytesLess y.toList x.toList = true := h2
      have hne : (x.toList == y.toList) = false := by
        rw [beq_eq_false_iff_ne]
        intro e
        have e2 : ltB x y = ltB y x := by unfold ltB; rw [e]
        rw [h2] at e2
        have e3 : ltB x y = false := h'
        rw [e3] at e2
        cases e2
      rw [if_pos rfl]
      clear h2
      go_enter Tryz.func39, Tryz.ntmps39
      go_wp2_with fail
      refine Nx.out.mono ?_
      rintro e w' ⟨rfl, rfl⟩
      go_wp2_with fail
      refine Ny.out.mono ?_
      rintro e w' ⟨rfl, rfl⟩
      go_wp2
      go_ret
      exact ⟨rfl, rfl⟩
    | false =>
      have h2' : Op.bytesLess y.toList x.toList = false := h2
      have hne : (x.toList == y.toList) = true := by
        have e3 : ltB x y = false := h'
        rw [lin_B.tot x y e3 h2]
        simp
      rw [if_neg (by decide)]
      clear h2
      go_enter Tryz.func39, Tryz.ntmps39
      go_wp2_with fail
      refine Nx.out.mono ?_
      rintro e w' ⟨rfl, rfl⟩
      go_wp2_with fail
      refine Ny.out.mono ?_
      rintro e w' ⟨rfl, rfl⟩
      go_wp2
      go_ret
      exact ⟨rfl, rfl⟩
/-- the first one that is not nought -/
def orL : List Int → Int
  | [] => 0
  | x :: l => if x = 0 then orL l else x
theorem orL_drop (l : List Int) (k : Nat) (h : k < l.length) : orL (l.drop k) = if l[k] = 0 then orL (l.drop (k + 1)) else l[k] := by
  rw [List.drop_eq_getElem_cons h]; rfl
theorem orL_is (G : Nat) (l : List Int) (w : World) (h : ∀ i (hi : i < l.length), w.cell? ⟨G, i, none⟩ = some (.int .i64 l[i])) (hn : l.length ≤ 10) :
    Calls Tryz.prog 58 #[.slice (some ⟨G, 0, none⟩) l.length l.length] w fun e w' => e = .returned (.int .i64 (orL l)) ∧ w = w' := by
  have H := Lib.hid h; clear h
  obtain ⟨x, hx⟩ : ∃ x, orL l = x := ⟨_, rfl⟩
  rw [hx]
  have HX := Lib.hid hx
  clear hx
  go_enter Tryz.func58, Tryz.ntmps58
  go_wp2
  go_loop [8] (fun i => ∃ k : Nat, k ≤ l.length ∧ i = .int .i64 k ∧ orL (l.drop k) = x) (fun i => l.length - (intOf i).toNat)
  case atStart => exact ⟨0, Nat.zero_le _, rfl, by simpa using HX.out⟩
  case round =>
    obtain ⟨k, hk, rfl, ho⟩ := hrel
    have HO := Lib.hid ho
    clear ho
    by_cases hkl : k < l.length
    · have hkl' : (k : Int) < l.length := by omega
      have hc := H.out k hkl
      have HS := Lib.hid (orL_drop l k hkl)
      obtain ⟨y, hy⟩ : ∃ y, l[k] = y := ⟨_, rfl⟩
      rw [hy] at hc HS
      clear hy
      by_cases h0 : y = 0
      · subst h0
        have HN : Hid (orL (l.drop (k + 1)) = x) := Lib.hid (by have := HS.out; rw [if_pos rfl] at this; rw [← this]; exact HO.out)
        go_wp2
        go_round
        case rel => exact ⟨k + 1, by omega, by go_num, HN.out⟩
        case measure => simp [intOf]; omega
      · have h1 : (y != 0) = true := by simpa using h0
        have HN : Hid (y = x) := Lib.hid (by have := HS.out; rw [if_neg h0] at this; rw [← this]; exact HO.out)
        clear h0
        go_wp2
        go_ret
        exact ⟨by rw [← HN.out]; rfl, rfl⟩
    · obtain rfl : k = l.length := by omega
      have hkl' : ¬ ((l.length : Nat) : Int) < l.length := by omega
      have HN : Hid (x = 0) := Lib.hid (by have := HO.out; rw [List.drop_length] at this; exact this.symm)
      go_wp2
      go_ret
      exact ⟨by rw [HN.out]; rfl, rfl⟩
/-- how two writes stand in a state: by document, field and dot -/
def cmpW (x y : Wr) : Int := orL [cmpS x.doc y.doc, cmpI x.field y.field, cmpD x.rep x.n y.rep y.n]
set_option maxHeartbeats 4000000 in
theorem docCompare_is (x y : Wr) (w : World) : Calls Tryz.prog 44 #[.agg x.cells.toArray, .agg y.cells.toArray] w fun e w' => e = .returned (.int .i64 (cmpW x y)) ∧ Below w.heap.size w w' := by
  have HD : Hid (cmpW x y = orL [cmpS x.doc y.doc, cmpI x.field y.field, cmpD x.rep x.n y.rep y.n]) := rfl
  go_enter Tryz.func44, Tryz.ntmps44
  go_wp2_with (refine wpList_gbox rfl _ rfl x.cells.toArray rfl ?_)
  intro g2 w1 l2 h2 hb1
  go_wp2_with (refine wpList_gbox rfl _ rfl y.cells.toArray rfl ?_)
  intro g3 w2 l3 h3 hb2
  have B2 := Lib.hid (thenBelow hb1 hb2)
  have rx : w2.rangeAt g2 0 x.cells := range_below (by simpa using range_of_block h2) hb2
  have ry : w2.rangeAt g3 0 y.cells := by simpa using range_of_block h3
  clear h2 h3 hb1 hb2
  obtain ⟨a0, a1, a2, a3, a4, a5⟩ := wr_cells rx
  obtain ⟨b0, b1, b2, b3, b4, b5⟩ := wr_cells ry
  clear rx ry
  obtain ⟨r, n, t, d, f, tx⟩ := x
  obtain ⟨r', n', t', d', f', tx'⟩ := y
  simp only [Nat.zero_add] at a0 a1 a2 a3 a4 a5 b0 b1 b2 b3 b4 b5 HD
  have a0 := cell_regrown a0; have a1 := cell_regrown a1; have b0 := cell_regrown b0; have b1 := cell_regrown b1
  have a3 := cell_regrown a3; have a4 := cell_regrown a4; have b3 := cell_regrown b3; have b4 := cell_regrown b4
  clear a2 a5 b2 b5
  have q1 := quiet_call (w := w2) (fun W => (compareS_is d d' W).mono fun e w' ⟨h1, h2⟩ => ⟨h1, by subst h2; exact Below.refl _ _⟩)
  have q2 := quiet_call (w := w2) (fun W => (compare_is f f' W).mono fun e w' ⟨h1, h2⟩ => ⟨h1, by subst h2; exact Below.refl _ _⟩)
  have q3 := quiet_call (w := w2) (fun W => dotCompare_is r n r' n' W)
  generalize cmpS d d' = x1 at q1 HD
  generalize cmpI f f' = x2 at q2 HD
  generalize cmpD r n r' n' = x3 at q3 HD
  go_wp2_with fail
  refine wp_region_below_tail 15 (by kernel_rfl) (by kernel_rfl) ?_
  simp only [List.take_succ_cons, List.take_zero, List.drop_succ_cons, List.drop_zero]
  iterate 4 (quiet_step (fail))
  quiet_step (exact q1 _ _)
  iterate 4 (quiet_step (fail))
  quiet_step (exact q2 _ _)
  iterate 4 (quiet_step (fail))
  quiet_step (exact q3 _ _)
  refine wpQuiet_nil ?_
  rintro _ ⟨⟨dq, osq⟩, rfl⟩
  have B3 := Lib.hid (thenBelow B2.out (below_regrown w2 dq osq))
  generalize Sort.grow (redrawn w2 dq) osq = w3 at B3 ⊢
  clear a0 a1 a3 a4 b0 b1 b3 b4 q1 q2 q3
  have hn := heap_alloc_new w3 (.cells #[.int .i64 x1, .int .i64 x2, .int .i64 x3] 3)
  have hO := Lib.hid (orL_is w3.heap.size [x1, x2, x3] (w3.alloc (.cells #[.int .i64 x1, .int .i64 x2, .int .i64 x3] 3)) (fun i hi => by
    have hi3 : i < 3 := hi
    match i, hi3 with
    | 0, _ => exact (cell_of_row _ w3.heap.size 0 _ _ _ hn).trans rfl
    | 1, _ => exact (cell_of_row _ w3.heap.size 1 _ _ _ hn).trans rfl
    | 2, _ => exact (cell_of_row _ w3.heap.size 2 _ _ _ hn).trans rfl) (by simp))
  have B4 := Lib.hid (thenBelow B3.out (below_alloc w3 (.cells #[.int .i64 x1, .int .i64 x2, .int .i64 x3] 3)))
  clear hn
  go_wp2_with fail
  refine hO.out.mono ?_
  rintro e w' ⟨rfl, rfl⟩
  go_wp2
  go_ret
  exact ⟨by rw [HD.out]; rfl, B4.out⟩
/-- how two writes stand by time -/
def cmpT (x y : Wr) : Int := orL [cmpI x.time y.time, cmpD x.rep x.n y.rep y.n]
set_option maxHeartbeats 4000000 in
theorem stCompare_is (x y : Wr) (w : World) : Calls Tryz.prog 73 #[.agg x.cells.toArray, .agg y.cells.toArray] w fun e w' => e = .returned (.int .i64 (cmpT x y)) ∧ Below w.heap.size w w' := by
  have HD : Hid (cmpT x y = orL [cmpI x.time y.time, cmpD x.rep x.n y.rep y.n]) := rfl
  go_enter Tryz.func73, Tryz.ntmps73
  go_wp2_with (refine wpList_gbox rfl _ rfl x.cells.toArray rfl ?_)
  intro g2 w1 l2 h2 hb1
  go_wp2_with (refine wpList_gbox rfl _ rfl y.cells.toArray rfl ?_)
  intro g3 w2 l3 h3 hb2
  have B2 := Lib.hid (thenBelow hb1 hb2)
  have rx : w2.rangeAt g2 0 x.cells := range_below (by simpa using range_of_block h2) hb2
  have ry : w2.rangeAt g3 0 y.cells := by simpa using range_of_block h3
  clear h2 h3 hb1 hb2
  obtain ⟨a0, a1, a2, a3, a4, a5⟩ := wr_cells rx
  obtain ⟨b0, b1, b2, b3, b4, b5⟩ := wr_cells ry
  clear rx ry
  obtain ⟨r, n, t, d, f, tx⟩ := x
  obtain ⟨r', n', t', d', f', tx'⟩ := y
  simp only [Nat.zero_add] at a0 a1 a2 a3 a4 a5 b0 b1 b2 b3 b4 b5 HD
  have a0 := cell_regrown a0; have a1 := cell_regrown a1; have b0 := cell_regrown b0; have b1 := cell_regrown b1
  have a2 := cell_regrown a2; have b2 := cell_regrown b2
  clear a3 a4 a5 b3 b4 b5
  have q2 := quiet_call (w := w2) (fun W => (compare_is t t' W).mono fun e w' ⟨h1, h2⟩ => ⟨h1, by subst h2; exact Below.refl _ _⟩)
  have q3 := quiet_call (w := w2) (fun W => dotCompare_is r n r' n' W)
  generalize cmpI t t' = x2 at q2 HD
  generalize cmpD r n r' n' = x3 at q3 HD
  go_wp2_with fail
  refine wp_region_below_tail 10 (by kernel_rfl) (by kernel_rfl) ?_
  simp only [List.take_succ_cons, List.take_zero, List.drop_succ_cons, List.drop_zero]
  iterate 4 (quiet_step (fail))
  quiet_step (exact q2 _ _)
  iterate 4 (quiet_step (fail))
  quiet_step (exact q3 _ _)
  refine wpQuiet_nil ?_
  rintro _ ⟨⟨dq, osq⟩, rfl⟩
  have B3 := Lib.hid (thenBelow B2.out (below_regrown w2 dq osq))
  generalize Sort.grow (redrawn w2 dq) osq = w3 at B3 ⊢
  clear a0 a1 a2 b0 b1 b2 q2 q3
  have hn := heap_alloc_new w3 (.cells #[.int .i64 x2, .int .i64 x3] 3)
  have hO := Lib.hid (orL_is w3.heap.size [x2, x3] (w3.alloc (.cells #[.int .i64 x2, .int .i64 x3] 3)) (fun i hi => by
    have hi3 : i < 2 := hi
    match i, hi3 with
    | 0, _ => exact (cell_of_row _ w3.heap.size 0 _ _ _ hn).trans rfl
    | 1, _ => exact (cell_of_row _ w3.heap.size 1 _ _ _ hn).trans rfl) (by simp))
  have B4 := Lib.hid (thenBelow B3.out (below_alloc w3 (.cells #[.int .i64 x2, .int .i64 x3] 3)))
  clear hn
  go_wp2_with fail
  refine hO.out.mono ?_
  rintro e w' ⟨rfl, rfl⟩
  go_wp2
  go_ret
  exact ⟨by rw [HD.out]; rfl, B4.out⟩
end Go.Proofs.YtijmijokgenflaaGreatDoor
