/- The statement DocsReads, proved for every input that its row reads: part 25 of 54. -/
import Derived.Test.YtijmijokgenflaaGreatDoorPackDocsReads24
import Derived.Test.YtijmijokgenflaaGreatDoorPackDocsReads21
/- docs.Of, latest: a state's writes of a document, of a field; what was written last. -/
namespace Go.Proofs.YtijmijokgenflaaGreatDoor
open Go Go.RowKit
set_option linter.unusedVariables false
set_option maxRecDepth 1000000

/-- is it not of a document, or not of a field? -/
def notOf (doc : ByteArray) (field : Int) (y : Wr) : Bool := !(y.doc.toList == doc.toList) || (decide (field ≥ 0) && (y.field != field))
def OfIn (G H : Nat) (doc : ByteArray) (field : Int) (w : World) : Prop := w.cell? ⟨G, 0, none⟩ = some (.string doc) ∧ w.cell? ⟨H, 0, none⟩ = some (.int .i64 field)
set_option maxHeartbeats 4000000 in
theorem of_tell (G H : Nat) (doc : ByteArray) (field : Int) (y : Wr) (w : World) (h : OfIn G H doc field w) : Calls Tryz.prog 28 #[.agg y.cells.toArray, .pointer (some ⟨G, 0, none⟩), .pointer (some ⟨H, 0, none⟩)] w (RetBool w (notOf doc field y)) := by
  obtain ⟨h1, h2⟩ := h
  obtain ⟨b, hb⟩ : ∃ b, notOf doc field y = b := ⟨_, rfl⟩
  rw [hb]
  unfold notOf at hb
  obtain ⟨r, n, t, d, fl, tx⟩ := y
  simp only at hb
  show Calls Tryz.prog 28 #[.agg #[.int .i64 r, .int .i64 n, .int .i64 t, .string d, .int .i64 fl, .string tx], .pointer (some ⟨G, 0, none⟩), .pointer (some ⟨H, 0, none⟩)] w _
  have bA := below_alloc w (.cells #[.int .i64 r, .int .i64 n, .int .i64 t, .string d, .int .i64 fl, .string tx] 39)
  have h1' := cell_hold2 h1 bA; have h2' := cell_hold2 h2 bA
  have BA := Lib.hid bA
  clear h1 h2 bA
  cases e1 : (d.toList == doc.toList) with
  | false =>
    rw [e1] at hb
    simp only [Bool.not_false, Bool.true_or] at hb
    subst hb
    go_enter Tryz.func28, Tryz.ntmps28
    go_wp2
    go_ret
    exact ⟨rfl, BA.out⟩
  | true =>
    rw [e1] at hb
    simp only [Bool.not_true, Bool.false_or] at hb
    by_cases h0 : field ≥ 0
    · rw [decide_eq_true h0, Bool.true_and] at hb
      by_cases hf : fl = field
      · subst hf
        have hb' : false = b := by rw [← hb]; simp
        subst hb'
        clear hb
        go_enter Tryz.func28, Tryz.ntmps28
        go_wp2
        go_ret
        exact ⟨rfl, BA.out⟩
      · have hf' : (fl != field) = true := by simp [hf]
        rw [hf'] at hb
        subst hb
        go_enter Tryz.func28, Tryz.ntmps28
        go_wp2
        go_ret
        exact ⟨rfl, BA.out⟩
    · rw [decide_eq_false h0, Bool.false_and] at hb
      subst hb
      go_enter Tryz.func28, Tryz.ntmps28
      go_wp2
      go_ret
      exact ⟨rfl, BA.out⟩
theorem of_enter (args : Array Value) (w : World) : (callFunc 28 args).run Tryz.prog w = .ok (.enter 28 args) w := by kernel_rfl
theorem of_tells (G H : Nat) (doc : ByteArray) (field : Int) (B : Nat) (w0 : World) (h : OfIn G H doc field w0) (hB : B = w0.heap.size) : TellW 28 #[.pointer (some ⟨G, 0, none⟩), .pointer (some ⟨H, 0, none⟩)] (notOf doc field) B (fun w => Below B w0 w) where
  enter := of_enter
  tell := fun y w hw => of_tell G H doc field y w (by subst hB; exact ⟨cell_hold2 h.1 hw, cell_hold2 h.2 hw⟩)
  keep := fun w w' h1 h2 => h1.trans h2
/-- a state's writes of a document (of a field) -/
def ofW (L : List Wr) (doc : ByteArray) (field : Int) : List Wr := L.filter (fun y => !notOf doc field y)
set_option maxHeartbeats 4000000 in
theorem docOf_is (F : Nat → Int) (p : Option Addr) (c : Nat) (L : List Wr) (doc : ByteArray) (field : Int) (w : World) (h : WrsAt w p L) (ho : ∀ a, p = some a → ∃ b o, a = ⟨b, o, none⟩) (hn : L.length ≤ 10000) :
    Calls Tryz.prog 8 #[.agg (scs F (.slice p L.length c)), .string doc, .int .i64 field] w (LeftW w (ofW L doc field)) := by
  have HW := Lib.hid h; have HP := Lib.hid ho
  clear h ho
  go_enter Tryz.func8, Tryz.ntmps8
  go_wp2_with (refine wpList_gbox rfl _ rfl (scs F (.slice p L.length c)) rfl ?_)
  intro g2 w1 l2 h2 hb1
  have S1 : Hid (Sx w1 g2 F (.slice p L.length c)) := Lib.hid h2
  have B1 := Lib.hid hb1
  clear h2 hb1
  have ba := below_alloc w1 (.cells #[.string doc] 9)
  have bb := below_alloc (w1.alloc (.cells #[.string doc] 9)) (.cells #[.int .i64 field] 3)
  have na := heap_alloc_new w1 (.cells #[.string doc] 9)
  have nb := heap_alloc_new (w1.alloc (.cells #[.string doc] 9)) (.cells #[.int .i64 field] 3)
  have S3 := Lib.hid ((S1.out.later (thenBelow ba bb)).slot)
  have B3 := Lib.hid (thenBelow B1.out (thenBelow ba bb))
  have OI : OfIn w1.heap.size (w1.heap.size + 1) doc field ((w1.alloc (.cells #[.string doc] 9)).alloc (.cells #[.int .i64 field] 3)) :=
    ⟨(cell_of_row _ _ 0 _ _ _ ((bb.block _ (Array.getElem?_eq_some_iff.1 na).1).trans na)).trans rfl, (cell_of_row _ _ 0 _ _ _ (by simpa [World.size_alloc] using nb)).trans rfl⟩
  have WO := Lib.hid (withoutW_is 28 #[.pointer (some ⟨w1.heap.size, 0, none⟩), .pointer (some ⟨w1.heap.size + 1, 0, none⟩)] (notOf doc field) (fun U => Below ((w1.alloc (.cells #[.string doc] 9)).alloc (.cells #[.int .i64 field] 3)).heap.size ((w1.alloc (.cells #[.string doc] 9)).alloc (.cells #[.int .i64 field] 3)) U) p c L _ (of_tells _ _ doc field _ _ OI rfl) (Below.refl _ _) (HW.out.below B3.out) HP.out hn)
  clear ba bb na nb OI
  have s3 := S3.out
  go_wp2_with fail
  refine WO.out.mono ?_
  rintro e w4 ⟨v, rfl, h1, h2⟩
  have O4 := Lib.hid (own_base h1 B3.out.size); have B4 := Lib.hid (thenBelow B3.out h2)
  clear h1 h2 WO
  go_wp2
  go_ret
  exact ⟨v, rfl, O4.out, B4.out⟩
def noWr : Wr := ⟨0, 0, 0, ByteArray.empty, 0, ByteArray.empty⟩
/-- what was written last, going through writes -/
def stepL (field : Int) (s : Wr × Bool) (y : Wr) : Wr × Bool := if y.field = field ∧ (s.2 = false ∨ cmpT y s.1 ≥ 0) then (y, true) else s
def lastL (l : List Wr) (field : Int) : Wr × Bool := l.foldl (stepL field) (noWr, false)
theorem lastL_take (l : List Wr) (field : Int) (k : Nat) (h : k < l.length) : lastL (l.take (k + 1)) field = stepL field (lastL (l.take k) field) l[k] := by
  unfold lastL
  rw [List.take_succ_eq_append_getElem h, List.foldl_append]; rfl
def latestOf (l : List Wr) (field : Int) : ByteArray := (lastL l field).1.text
set_option maxHeartbeats 8000000 in
theorem latest_is (p : Option Addr) (c : Nat) (l : List Wr) (field : Int) (w : World) (h : WrsAt w p l) (hn : l.length ≤ 10000) :
    Calls Tryz.prog 54 #[.slice p l.length c, .int .i64 field] w fun e w' => e = .returned (.string (latestOf l field)) ∧ Below w.heap.size w w' := by
  have HW := Lib.hid h
  clear h
  go_enter Tryz.func54, Tryz.ntmps54
  go_wp2_with (refine wpList_galloc _ (fun w => show (zeroValue 39).run Tryz.prog w = .ok (.agg noWr.cells.toArray) w by kernel_rfl) rfl rfl ?_)
  intro g5 w1 l5 h5 hb1
  have B1 := Lib.hid hb1
  have N1 : Hid (w1.heap[g5]? = some (.cells noWr.cells.toArray 39 (0, 0))) := Lib.hid h5
  have lw5 : w.heap.size ≤ g5 := l5
  clear hb1 h5 l5
  go_wp2
  go_loopw [6, 11] (fun fd i wr => ∃ (k : Nat) (last : Wr) (f : Bool), k ≤ l.length ∧ i = .int .i64 k ∧ fd = .bool f ∧ Hid ((last, f) = lastL (l.take k) field) ∧ wr.heap[g5]? = some (.cells last.cells.toArray 39 (0, 0)) ∧ Below w.heap.size w wr) (fun _ i _ => l.length - (intOf i).toNat)
  case atStart => exact ⟨0, noWr, false, Nat.zero_le _, rfl, rfl, Lib.hid rfl, N1.out, B1.out⟩
  case round =>
    obtain ⟨k, last, f, hk, rfl, rfl, HLS, hg5, hb⟩ := hrel
    have H5 := Lib.hid hg5; have BB := Lib.hid hb
    clear hg5 hb
    by_cases hkl : k < l.length
    · have hkl' : (k : Int) < l.length := by omega
      obtain ⟨b, o, rfl, hlt, hr⟩ := (HW.out.below BB.out).at hkl
      obtain ⟨c0, c1, c2, c3, c4, c5⟩ := wr_cells hr
      have HS := Lib.hid (lastL_take l field k hkl)
      rw [← HLS.out] at HS
      clear hr hlt
      obtain ⟨y, hy⟩ : ∃ y, l[k] = y := ⟨_, rfl⟩
      rw [hy] at c0 c1 c2 c3 c4 c5 HS
      clear hy
      obtain ⟨r, n, t, d, fl, tx⟩ := y
      simp only at c0 c1 c2 c3 c4 c5
      have ba := below_alloc wr (.cells #[.int .i64 r, .int .i64 n, .int .i64 t, .string d, .int .i64 fl, .string tx] 39)
      have H6 := Lib.hid ((ba.block g5 (Array.getElem?_eq_some_iff.1 H5.out).1).trans H5.out)
      have BA := Lib.hid (thenBelow BB.out ba)
      have ST := Lib.hid (stCompare_is ⟨r, n, t, d, fl, tx⟩ last (wr.alloc (.cells #[.int .i64 r, .int .i64 n, .int .i64 t, .string d, .int .i64 fl, .string tx] 39)))
      have rl : (wr.alloc (.cells #[.int .i64 r, .int .i64 n, .int .i64 t, .string d, .int .i64 fl, .string tx] 39)).rangeAt g5 0 last.cells := by simpa using range_of_block H6.out
      obtain ⟨a0, a1, a2, a3, a4, a5⟩ := wr_cells rl
      simp only [Nat.zero_add] at a0 a1 a2 a3 a4 a5
      clear ba rl
      by_cases hf : fl = field
      · subst hf
        cases f with
        | false =>
          have HN : Hid (((⟨r, n, t, d, fl, tx⟩ : Wr), true) = lastL (l.take (k + 1)) fl) := Lib.hid (by rw [HS.out]; unfold stepL; rw [if_pos ⟨rfl, .inl rfl⟩])
          clear ST HS
          go_wp2_with (refine wpList_gstore rfl _ _ rfl g5 rfl (Wr.cells ⟨r, n, t, d, fl, tx⟩).toArray rfl _ _ H6.out (by rw [List.size_toArray]; exact sizeWr _) rfl (fun v hv => Wr.cells_one _ v (by simpa using hv)) ?_)
          intro w9 h9 g9
          have H9 := Lib.hid h9
          have B9 := Lib.hid (BA.out.trans (grown_below g9 BA.out.size lw5))
          clear h9 g9
          go_wp2
          go_roundw
          case rel => exact ⟨k + 1, ⟨r, n, t, d, fl, tx⟩, true, by omega, by go_num, rfl, HN, H9.out, B9.out⟩
          case measure => simp [intOf]; omega
        | true =>
          obtain ⟨cm, hcm⟩ : ∃ cm, cmpT ⟨r, n, t, d, fl, tx⟩ last = cm := ⟨_, rfl⟩
          rw [hcm] at ST
          have HCM := Lib.hid hcm
          clear hcm
          obtain ⟨lr, ln, lt, ld, lf, lx⟩ := last
          simp only [Wr.cells] at a0 a1 a2 a3 a4 a5 ST
          go_wp2_with fail
          refine ST.out.mono ?_
          rintro e w7 ⟨rfl, hb7⟩
          have H7 := Lib.hid ((hb7.block g5 (Array.getElem?_eq_some_iff.1 H6.out).1).trans H6.out)
          have B7 := Lib.hid (thenBelow BA.out hb7)
          have n8 := (hb7.block _ (Array.getElem?_eq_some_iff.1 (heap_alloc_new wr (.cells #[.int .i64 r, .int .i64 n, .int .i64 t, .string d, .int .i64 fl, .string tx] 39))).1).trans (heap_alloc_new wr (.cells #[.int .i64 r, .int .i64 n, .int .i64 t, .string d, .int .i64 fl, .string tx] 39))
          have y0 := (cell_of_row w7 wr.heap.size 0 _ _ _ n8).trans (show _ = some (Value.int .i64 r) from rfl)
          have y1 := (cell_of_row w7 wr.heap.size 1 _ _ _ n8).trans (show _ = some (Value.int .i64 n) from rfl)
          have y2 := (cell_of_row w7 wr.heap.size 2 _ _ _ n8).trans (show _ = some (Value.int .i64 t) from rfl)
          have y3 := (cell_of_row w7 wr.heap.size 3 _ _ _ n8).trans (show _ = some (Value.string d) from rfl)
          have y4 := (cell_of_row w7 wr.heap.size 4 _ _ _ n8).trans (show _ = some (Value.int .i64 fl) from rfl)
          have y5 := (cell_of_row w7 wr.heap.size 5 _ _ _ n8).trans (show _ = some (Value.string tx) from rfl)
          clear hb7 ST a0 a1 a2 a3 a4 a5 c0 c1 c2 c3 c4 c5 n8
          by_cases h0 : cm ≥ 0
          · have HN : Hid (((⟨r, n, t, d, fl, tx⟩ : Wr), true) = lastL (l.take (k + 1)) fl) := Lib.hid (by rw [HS.out]; unfold stepL; rw [if_pos ⟨rfl, .inr (by simp only; rw [HCM.out]; exact h0)⟩])
            clear HS
            go_wp2_with (refine wpList_gstore rfl _ _ rfl g5 rfl (Wr.cells ⟨r, n, t, d, fl, tx⟩).toArray rfl _ _ H7.out (by rw [List.size_toArray]; exact sizeWr _) rfl (fun v hv => Wr.cells_one _ v (by simpa using hv)) ?_)
            intro w9 h9 g9
            have H9 := Lib.hid h9
            have B9 := Lib.hid (B7.out.trans (grown_below g9 B7.out.size lw5))
            clear h9 g9
            go_wp2
            go_roundw
            case rel => exact ⟨k + 1, ⟨r, n, t, d, fl, tx⟩, true, by omega, by go_num, rfl, HN, H9.out, B9.out⟩
            case measure => simp [intOf]; omega
          · have HN : Hid (((⟨lr, ln, lt, ld, lf, lx⟩ : Wr), true) = lastL (l.take (k + 1)) fl) := Lib.hid (by rw [HS.out]; unfold stepL; rw [if_neg (fun h => by rcases h.2 with h | h; cases h; rw [HCM.out] at h; exact h0 h)])
            clear HS
            go_wp2
            go_roundw
            case rel => exact ⟨k + 1, ⟨lr, ln, lt, ld, lf, lx⟩, true, by omega, by go_num, rfl, HN, H7.out, B7.out⟩
            case measure => simp [intOf]; omega
      · have hf' : (fl == field) = false := by simp [hf]
        have HN : Hid ((last, f) = lastL (l.take (k + 1)) field) := Lib.hid (by rw [HS.out]; unfold stepL; rw [if_neg (fun h => hf h.1)])
        clear ST HS a0 a1 a2 a3 a4 a5
        go_wp2
        go_roundw
        case rel => exact ⟨k + 1, last, f, by omega, by go_num, rfl, HN, H6.out, BA.out⟩
        case measure => simp [intOf]; omega
    · obtain rfl : k = l.length := by omega
      have hkl' : ¬ ((l.length : Nat) : Int) < l.length := by omega
      have HT : Hid (last.text = latestOf l field) := Lib.hid (by unfold latestOf; have := HLS.out; rw [List.take_length] at this; rw [← this])
      have c5 := (wr_cells (x := last) (o := 0) (by simpa using range_of_block H5.out)).2.2.2.2.2
      simp only [Nat.zero_add] at c5
      go_wp2
      go_ret
      exact ⟨by rw [← HT.out]; rfl, BB.out⟩
set_option maxRecDepth 1000000

/-- a document's cells -/
def dcv (id : ByteArray) (t : Nat → ByteArray) : Array Value := #[.string id, .string (t 0), .string (t 1), .string (t 2), .string (t 3)]
theorem dcv_one (id : ByteArray) (t : Nat → ByteArray) : ∀ u ∈ (dcv id t).toList, u.oneCell' = true := by
  intro u hu
  simp [dcv] at hu
  rcases hu with rfl | rfl | rfl | rfl | rfl <;> rfl
theorem sizeDoc (id : ByteArray) (t : Nat → ByteArray) : (Tryz.prog.info? 31).map (·.size) = some (dcv id t).size := by kernel_rfl
theorem sizeDocl (id : ByteArray) (t : Nat → ByteArray) : (Tryz.prog.info? 31).map (·.size) = some (dcv id t).toList.length := by kernel_rfl
theorem zeroDoc (w : World) : (zeroValue 31).run Tryz.prog w = .ok (.agg (dcv ByteArray.empty fun _ => ByteArray.empty)) w := by kernel_rfl
theorem builtDoc (id : ByteArray) (w : World) : (Instr.build 31 #[(0, .string id)]).run Tryz.prog w = .ok (.agg (dcv id fun _ => ByteArray.empty)) w := run_build w _ _ _ (by kernel_rfl)
theorem builtDoc0 (w : World) : (Instr.build 31 #[]).run Tryz.prog w = .ok (.agg (dcv ByteArray.empty fun _ => ByteArray.empty)) w := run_build w _ _ _ (by kernel_rfl)
def DocR (w : World) (id : ByteArray) (t : Nat → ByteArray) (e : Ending) (w' : World) : Prop := e = .returned (.agg (dcv id t)) ∧ Below w.heap.size w w'
theorem dcv_set (id : ByteArray) (t t' : Nat → ByteArray) (k : Nat) (x : ByteArray) (hk : k < 4) (h : ∀ i, i < 4 → t' i = if i = k then x else t i) : (dcv id t).setIfInBounds (k + 1) (.string x) = dcv id t' := by
  unfold dcv
  rw [h 0 (by omega), h 1 (by omega), h 2 (by omega), h 3 (by omega)]
  match k, hk with
  | 0, _ => rfl
  | 1, _ => rfl
  | 2, _ => rfl
  | 3, _ => rfl
theorem dcv_congr (id : ByteArray) (t t' : Nat → ByteArray) (h : ∀ i, i < 4 → t i = t' i) : dcv id t = dcv id t' := by
  unfold dcv; rw [h 0 (by omega), h 1 (by omega), h 2 (by omega), h 3 (by omega)]
set_option maxHeartbeats 8000000 in
theorem readOf_is (p : Option Addr) (c : Nat) (y : Wr) (l : List Wr) (w : World) (h : WrsAt w p (y :: l)) (hn : (y :: l).length ≤ 10000) :
    Calls Tryz.prog 25 #[.slice p (y :: l).length c] w (DocR w y.doc (fun i => latestOf (y :: l) (i + 1 : Nat))) := by
  have HW := Lib.hid h
  have LT : Hid (∀ (V : World) (k : Int), Below w.heap.size w V → Calls Tryz.prog 54 #[.slice p (y :: l).length c, .int .i64 k] V fun e w' => e = .returned (.string (latestOf (y :: l) k)) ∧ Below V.heap.size V w') := Lib.hid fun V k hV => latest_is p c (y :: l) k V (h.below hV) hn
  obtain ⟨b, o, hp, hlt, hr⟩ := h.at (show 0 < (y :: l).length by simp)
  subst hp
  have HR := Lib.hid hr
  have hpos : (0 : Int) < ((y :: l).length : Int) := by simp only [List.length_cons]; omega
  obtain ⟨lt, hltt⟩ : ∃ lt : Int → ByteArray, (fun k => latestOf (y :: l) k) = lt := ⟨_, rfl⟩
  have LT : Hid (∀ (V : World) (k : Int), Below w.heap.size w V → Calls Tryz.prog 54 #[.slice (some ⟨b, o, none⟩) (y :: l).length c, .int .i64 k] V fun e w' => e = .returned (.string (lt k)) ∧ Below V.heap.size V w') := by rw [← hltt]; exact LT
  have HLT : Hid ((fun i : Nat => latestOf (y :: l) (i + 1 : Nat)) = fun i : Nat => lt ((i + 1 : Nat) : Int)) := Lib.hid (by rw [← hltt])
  obtain ⟨n, hn2⟩ : ∃ n, (y :: l).length = n := ⟨_, rfl⟩
  rw [HLT.out]
  rw [hn2] at LT hpos hn ⊢
  clear h hlt hr hn2 hltt HLT
  go_enter Tryz.func25, Tryz.ntmps25
  go_wp2_with (refine wpList_galloc _ zeroDoc rfl rfl ?_)
  intro g2 w1 l2 h2 hb1
  have B1 := Lib.hid hb1
  have D1 := Lib.hid h2
  clear h2 hb1
  obtain ⟨c0, c1, c2, c3, c4, c5⟩ := wr_cells (range_below HR.out B1.out)
  simp only [Nat.zero_mul, Nat.add_zero] at c0 c1 c2 c3 c4 c5
  simp only [List.getElem_cons_zero] at c3
  clear c0 c1 c2 c4 c5
  go_wp2_with (first | refine wpList_pbuild (by rfl) _ rfl (dcv y.doc fun _ => ByteArray.empty) (by simp only [List.map_toArray, List.map_cons, List.map_nil]; exact builtDoc _ _) ?_ | refine wpList_galloc _ zeroDoc rfl rfl ?_)
  intro g3 w2 l3 h3 hb2
  have B2 := Lib.hid (thenBelow B1.out hb2)
  have D2 := Lib.hid ((hb2.block g2 (Array.getElem?_eq_some_iff.1 D1.out).1).trans D1.out)
  have E2 := Lib.hid h3
  have n23 : g2 < g3 := Nat.lt_of_lt_of_le (Array.getElem?_eq_some_iff.1 D1.out).1 l3
  have lw3 : w.heap.size ≤ g3 := Nat.le_trans B1.out.size l3
  clear h3 hb2 c3
  go_wp2_with (refine wpList_gstore rfl _ _ rfl g3 rfl (dcv y.doc fun _ => ByteArray.empty) rfl _ _ E2.out (sizeDoc _ _) rfl (dcv_one _ _) ?_)
  intro w3 h3 g3'
  have B3 := Lib.hid (B2.out.trans (grown_below g3' B2.out.size lw3))
  have D3 := Lib.hid ((g3'.block g2 (Array.getElem?_eq_some_iff.1 D2.out).1 (by simp; omega)).trans D2.out)
  have E3 := Lib.hid h3
  clear h3 g3' E2 D2
  go_wp2
  go_loopw [10] (fun i wr => ∃ (k : Nat) (t : Nat → ByteArray), k ≤ 4 ∧ i = .int .i64 k ∧ Hid (∀ i, i < 4 → t i = if i < k then lt ((i + 1 : Nat) : Int) else ByteArray.empty) ∧ wr.heap[g3]? = some (.cells (dcv y.doc t) 31 (0, 0)) ∧ wr.heap[g2]? = some (.cells (dcv ByteArray.empty fun _ => ByteArray.empty) 31 (0, 0)) ∧ Below w.heap.size w wr) (fun i _ => 4 - (intOf i).toNat)
  case atStart => exact ⟨0, fun _ => ByteArray.empty, by omega, rfl, Lib.hid (fun i hi => by rw [if_neg (by omega)]), E3.out, D3.out, B3.out⟩
  case round =>
    obtain ⟨k, t, hk, rfl, HT, e3, d3, hb⟩ := hrel
    have EE := Lib.hid e3; have DD := Lib.hid d3; have BB := Lib.hid hb
    clear e3 d3 hb
    have g3lt := (Array.getElem?_eq_some_iff.1 EE.out).1
    rcases (show k = 0 ∨ k = 1 ∨ k = 2 ∨ k = 3 ∨ k = 4 by omega) with rfl | rfl | rfl | rfl | rfl
    · have LK := Lib.hid (LT.out wr 1 BB.out)
      go_wp2_with fail
      refine LK.out.mono ?_
      rintro e w5 ⟨rfl, hb5⟩
      have E5 := Lib.hid ((hb5.block g3 g3lt).trans EE.out)
      have D5 := Lib.hid ((hb5.block g2 (Array.getElem?_eq_some_iff.1 DD.out).1).trans DD.out)
      have B5 := Lib.hid (thenBelow BB.out hb5)
      have k1 := (cell_of_row w5 g3 1 _ _ _ E5.out).trans (show _ = some (Value.string (t 0)) from rfl)
      have k2 := frozen_of_row w5 g3 1 _ _ E5.out
      have gS := grown_cell w5 g3 1 (.string (lt 1))
      have hS := heap_setCell_same w5 g3 1 _ _ (.string (lt 1)) E5.out
      have HS : Hid ((w5.setCell ⟨g3, 1, none⟩ (.string (lt 1))).heap[g3]? = some (.cells (dcv y.doc (fun i => if i = 0 then lt 1 else t i)) 31 (0, 0))) := Lib.hid (by rw [hS]; congr 2)
      have DS := Lib.hid ((gS.block g2 (Array.getElem?_eq_some_iff.1 D5.out).1 (by simp; omega)).trans D5.out)
      have BS := Lib.hid (B5.out.trans (grown_below gS B5.out.size lw3))
      have HN : Hid (∀ i, i < 4 → (fun i => if i = 0 then lt 1 else t i) i = if i < 1 then lt ((i + 1 : Nat) : Int) else ByteArray.empty) := Lib.hid (fun i hi => by
        simp only
        by_cases h1 : i = 0
        · subst h1; rw [if_pos rfl, if_pos (by omega)]; rfl
        · rw [if_neg h1, HT.out i hi]
          by_cases h2 : i < 0
          · rw [if_pos h2, if_pos (by omega)]
          · rw [if_neg h2, if_neg (by omega)])
      clear hb5 gS hS LK
      go_wp2
      go_roundw
      case rel => exact ⟨1, _, by omega, by go_num, HN, HS.out, DS.out, BS.out⟩
      case measure => simp [intOf]
    · have LK := Lib.hid (LT.out wr 2 BB.out)
      go_wp2_with fail
      refine LK.out.mono ?_
      rintro e w5 ⟨rfl, hb5⟩
      have E5 := Lib.hid ((hb5.block g3 g3lt).trans EE.out)
      have D5 := Lib.hid ((hb5.block g2 (Array.getElem?_eq_some_iff.1 DD.out).1).trans DD.out)
      have B5 := Lib.hid (thenBelow BB.out hb5)
      have k1 := (cell_of_row w5 g3 2 _ _ _ E5.out).trans (show _ = some (Value.string (t 1)) from rfl)
      have k2 := frozen_of_row w5 g3 2 _ _ E5.out
      have gS := grown_cell w5 g3 2 (.string (lt 2))
      have hS := heap_setCell_same w5 g3 2 _ _ (.string (lt 2)) E5.out
      have HS : Hid ((w5.setCell ⟨g3, 2, none⟩ (.string (lt 2))).heap[g3]? = some (.cells (dcv y.doc (fun i => if i = 1 then lt 2 else t i)) 31 (0, 0))) := Lib.hid (by rw [hS]; congr 2)
      have DS := Lib.hid ((gS.block g2 (Array.getElem?_eq_some_iff.1 D5.out).1 (by simp; omega)).trans D5.out)
      have BS := Lib.hid (B5.out.trans (grown_below gS B5.out.size lw3))
      have HN : Hid (∀ i, i < 4 → (fun i => if i = 1 then lt 2 else t i) i = if i < 2 then lt ((i + 1 : Nat) : Int) else ByteArray.empty) := Lib.hid (fun i hi => by
        simp only
        by_cases h1 : i = 1
        · subst h1; rw [if_pos rfl, if_pos (by omega)]; rfl
        · rw [if_neg h1, HT.out i hi]
          by_cases h2 : i < 1
          · rw [if_pos h2, if_pos (by omega)]
          · rw [if_neg h2, if_neg (by omega)])
      clear hb5 gS hS LK
      go_wp2
      go_roundw
      case rel => exact ⟨2, _, by omega, by go_num, HN, HS.out, DS.out, BS.out⟩
      case measure => simp [intOf]
    · have LK := Lib.hid (LT.out wr 3 BB.out)
      go_wp2_with fail
      refine LK.out.mono ?_
      rintro e w5 ⟨rfl, hb5⟩
      have E5 := Lib.hid ((hb5.block g3 g3lt).trans EE.out)
      have D5 := Lib.hid ((hb5.block g2 (Array.getElem?_eq_some_iff.1 DD.out).1).trans DD.out)
      have B5 := Lib.hid (thenBelow BB.out hb5)
      have k1 := (cell_of_row w5 g3 3 _ _ _ E5.out).trans (show _ = some (Value.string (t 2)) from rfl)
      have k2 := frozen_of_row w5 g3 3 _ _ E5.out
      have gS := grown_cell w5 g3 3 (.string (lt 3))
      have hS := heap_setCell_same w5 g3 3 _ _ (.string (lt 3)) E5.out
      have HS : Hid ((w5.setCell ⟨g3, 3, none⟩ (.string (lt 3))).heap[g3]? = some (.cells (dcv y.doc (fun i => if i = 2 then lt 3 else t i)) 31 (0, 0))) := Lib.hid (by rw [hS]; congr 2)
      have DS := Lib.hid ((gS.block g2 (Array.getElem?_eq_some_iff.1 D5.out).1 (by simp; omega)).trans D5.out)
      have BS := Lib.hid (B5.out.trans (grown_below gS B5.out.size lw3))
      have HN : Hid (∀ i, i < 4 → (fun i => if i = 2 then lt 3 else t i) i = if i < 3 then lt ((i + 1 : Nat) : Int) else ByteArray.empty) := Lib.hid (fun i hi => by
        simp only
        by_cases h1 : i = 2
        · subst h1; rw [if_pos rfl, if_pos (by omega)]; rfl
        · rw [if_neg h1, HT.out i hi]
          by_cases h2 : i < 2
          · rw [if_pos h2, if_pos (by omega)]
          · rw [if_neg h2, if_neg (by omega)])
      clear hb5 gS hS LK
      go_wp2
      go_roundw
      case rel => exact ⟨3, _, by omega, by go_num, HN, HS.out, DS.out, BS.out⟩
      case measure => simp [intOf]
    · have LK := Lib.hid (LT.out wr 4 BB.out)
      go_wp2_with fail
      refine LK.out.mono ?_
      rintro e w5 ⟨rfl, hb5⟩
      have E5 := Lib.hid ((hb5.block g3 g3lt).trans EE.out)
      have D5 := Lib.hid ((hb5.block g2 (Array.getElem?_eq_some_iff.1 DD.out).1).trans DD.out)
      have B5 := Lib.hid (thenBelow BB.out hb5)
      have k1 := (cell_of_row w5 g3 4 _ _ _ E5.out).trans (show _ = some (Value.string (t 3)) from rfl)
      have k2 := frozen_of_row w5 g3 4 _ _ E5.out
      have gS := grown_cell w5 g3 4 (.string (lt 4))
      have hS := heap_setCell_same w5 g3 4 _ _ (.string (lt 4)) E5.out
      have HS : Hid ((w5.setCell ⟨g3, 4, none⟩ (.string (lt 4))).heap[g3]? = some (.cells (dcv y.doc (fun i => if i = 3 then lt 4 else t i)) 31 (0, 0))) := Lib.hid (by rw [hS]; congr 2)
      have DS := Lib.hid ((gS.block g2 (Array.getElem?_eq_some_iff.1 D5.out).1 (by simp; omega)).trans D5.out)
      have BS := Lib.hid (B5.out.trans (grown_below gS B5.out.size lw3))
      have HN : Hid (∀ i, i < 4 → (fun i => if i = 3 then lt 4 else t i) i = if i < 4 then lt ((i + 1 : Nat) : Int) else ByteArray.empty) := Lib.hid (fun i hi => by
        simp only
        by_cases h1 : i = 3
        · subst h1; rw [if_pos rfl, if_pos (by omega)]; rfl
        · rw [if_neg h1, HT.out i hi]
          by_cases h2 : i < 3
          · rw [if_pos h2, if_pos (by omega)]
          · rw [if_neg h2, if_neg (by omega)])
      clear hb5 gS hS LK
      go_wp2
      go_roundw
      case rel => exact ⟨4, _, by omega, by go_num, HN, HS.out, DS.out, BS.out⟩
      case measure => simp [intOf]
    · have HV : Hid (dcv y.doc t = dcv y.doc fun i : Nat => lt ((i + 1 : Nat) : Int)) := Lib.hid (dcv_congr _ _ _ (fun i hi => by rw [HT.out i hi, if_pos hi]))
      rw [HV.out] at EE
      have RE : Hid (wr.rangeAt g3 0 (dcv y.doc fun i : Nat => lt ((i + 1 : Nat) : Int)).toList) := Lib.hid (range_of_block EE.out)
      have lw2 : w.heap.size ≤ g2 := l2
      go_wp2_with (first | refine wpList_gload rfl _ rfl g3 0 rfl _ RE.out _ Tryz.underlying31 rfl (sizeDocl _ _) ?_ | refine wpList_gstore rfl _ _ rfl g2 rfl (dcv y.doc fun i : Nat => lt ((i + 1 : Nat) : Int)) rfl _ _ DD.out (sizeDoc _ _) rfl (dcv_one _ _) ?_)
      intro w9 h9 g9
      have H9 := Lib.hid h9
      have B9 := Lib.hid (BB.out.trans (grown_below g9 BB.out.size lw2))
      clear h9 g9
      go_wp2
      exact bodyPost_ret (v := .agg (dcv y.doc fun i : Nat => lt ((i + 1 : Nat) : Int))) (results_cell_row rfl _ w9 g2 _ _ (0, 0) _ rfl H9.out Tryz.underlying31 rfl (sizeDoc _ _)) rfl ⟨rfl, B9.out⟩
/-- what Read comes to -/
def ReadR (w : World) (b : Bool) (id : ByteArray) (t : Nat → ByteArray) (e : Ending) (w' : World) : Prop := e = .returned (.tuple #[.agg (dcv id t), .bool b]) ∧ Below w.heap.size w w'
set_option maxHeartbeats 8000000 in
theorem docRead_is (F : Nat → Int) (p : Option Addr) (c : Nat) (L : List Wr) (doc : ByteArray) (y : Wr) (l : List Wr) (w : World) (h : WrsAt w p L) (ho : ∀ a, p = some a → ∃ b o, a = ⟨b, o, none⟩) (hn : L.length ≤ 10000) (hl : ofW L doc (-1) = y :: l) :
    Calls Tryz.prog 6 #[.agg (scs F (.slice p L.length c)), .string doc] w (ReadR w true y.doc (fun i => latestOf (y :: l) (i + 1 : Nat))) := by
  have OF := Lib.hid (fun (V : World) (hV : Below w.heap.size w V) => docOf_is F p c L doc (-1) V (h.below hV) ho hn)
  rw [hl] at OF
  have hln : (y :: l).length ≤ 10000 := by
    rw [← hl]; unfold ofW
    have := List.length_filter_le (fun z : Wr => !notOf doc (-1) z) L
    omega
  clear h ho hl
  go_enter Tryz.func6, Tryz.ntmps6
  go_wp2_with (refine wpList_gbox rfl _ rfl (scs F (.slice p L.length c)) rfl ?_)
  intro g2 w1 l2 h2 hb1
  have S1 : Hid (Sx w1 g2 F (.slice p L.length c)) := Lib.hid h2
  have B1 := Lib.hid hb1
  clear h2 hb1
  go_wp2_with (refine wpList_galloc _ zeroDoc rfl rfl ?_)
  intro g4 w2 l4 h4 hb2
  have S2 := Lib.hid (S1.out.later hb2); have B2 := Lib.hid (thenBelow B1.out hb2); have D2 := Lib.hid h4
  have lw4 : w.heap.size ≤ g4 := Nat.le_trans B1.out.size l4
  clear h4 hb2
  have SW := Lib.hid (S2.out.whole)
  go_wp2_with (refine wpList_gload rfl _ rfl g2 0 rfl _ SW.out _ Tryz.underlying26 rfl (sizeStl _ _) ?_)
  refine (OF.out w2 B2.out).mono ?_
  rintro e w3 ⟨v, rfl, o3, hb3⟩
  obtain ⟨p3, c3, hv, _, hw3, _⟩ := own_wat o3
  subst hv
  have B3 := Lib.hid (thenBelow B2.out hb3)
  have D3 := Lib.hid ((hb3.block g4 (Array.getElem?_eq_some_iff.1 D2.out).1).trans D2.out)
  have RO := Lib.hid (readOf_is p3 c3 y l w3 hw3 hln)
  clear o3 hb3 hw3 OF SW
  have hz : (((y :: l).length : Int) == 0) = false := beq_eq_false_iff_ne.2 (by simp; omega)
  obtain ⟨n, hn2⟩ : ∃ n, (y :: l).length = n := ⟨_, rfl⟩
  rw [hn2] at RO hz ⊢
  clear hn2 hln
  go_wp2_with fail
  refine RO.out.mono ?_
  rintro e w4 ⟨rfl, hb4⟩
  have D4 := Lib.hid ((hb4.block g4 (Array.getElem?_eq_some_iff.1 D3.out).1).trans D3.out)
  have B4 := Lib.hid (thenBelow B3.out hb4)
  clear hb4
  obtain ⟨t, ht⟩ : ∃ t : Nat → ByteArray, (fun i : Nat => latestOf (y :: l) (i + 1 : Nat)) = t := ⟨_, rfl⟩
  rw [ht]
  go_wp2_with (refine wpList_gstore rfl _ _ rfl g4 rfl (dcv y.doc t) rfl _ _ D4.out (sizeDoc _ _) rfl (dcv_one _ _) ?_)
  intro w9 h9 g9
  have H9 := Lib.hid h9
  have B9 := Lib.hid (B4.out.trans (grown_below g9 B4.out.size lw4))
  clear h9 g9
  go_wp2
  exact bodyPost_ret (v := .tuple #[.agg (dcv y.doc t), .bool true]) (results_cell_two (p := 4) (q := 5) rfl _ w9 g4 _ _ (0, 0) _ rfl H9.out Tryz.underlying31 rfl (sizeDoc _ _) (.bool true) rfl) rfl ⟨by rw [ht], B9.out⟩
end Go.Proofs.YtijmijokgenflaaGreatDoor
/- rotateCmpFunc: two neighbouring pieces of a row changed about. -/
namespace Go.Proofs.YtijmijokgenflaaGreatDoor
open Go Go.RowKit
set_option linter.unusedVariables false
set_option maxRecDepth 1000000

set_option maxHeartbeats 1000000 in
theorem rotW_is (B g c N : Nat) (P X Y S : List Wr) (a m b : Nat) (fv : Value) (w : World) (hN : (P ++ (X ++ (Y ++ S))).length = N) (h : RowW w B g c (P ++ (X ++ (Y ++ S)))) (ha : a = P.length) (hm : m = P.length + X.length) (hb : b = P.length + X.length + Y.length) (hX : 0 < X.length) (hY : 0 < Y.length) (hbig : N ≤ 1000000) :
    Calls Tryz.prog 110 #[.slice (some ⟨g, 0, none⟩) N c, .int .i64 (a : Int), .int .i64 (m : Int), .int .i64 (b : Int), fv] w (SwW w B g c (P ++ (Y ++ (X ++ S)))) := by
  obtain ⟨i0, hi0⟩ : ∃ i, X.length = i := ⟨_, rfl⟩
  obtain ⟨j0, hj0⟩ : ∃ i, Y.length = i := ⟨_, rfl⟩
  obtain ⟨TT, hTT⟩ : ∃ T, P ++ (Y ++ (X ++ S)) = T := ⟨_, rfl⟩
  have m1 : (m : Int) - (a : Int) = (i0 : Int) := by omega
  have m2 : (b : Int) - (m : Int) = (j0 : Int) := by omega
  have lm : m + j0 ≤ N := by rw [← hN, hm, ← hj0]; simp; omega
  have START : Hid (∃ P' X' Y' S', X'.length = i0 ∧ Y'.length = j0 ∧ P'.length + i0 = m ∧ (P' ++ (X' ++ (Y' ++ S'))).length = N ∧ RowW w B g c (P' ++ (X' ++ (Y' ++ S'))) ∧ P' ++ (Y' ++ (X' ++ S')) = TT) := Lib.hid ⟨P, X, Y, S, hi0, hj0, by omega, hN, h, hTT⟩
  have hi1 : 0 < i0 := by omega
  have hj1 : 0 < j0 := by omega
  have hm0 : i0 ≤ m := by omega
  rw [hTT]
  have ba : b ≤ 1000000 := by omega
  have aa : a ≤ 1000000 := by omega
  clear h ha hm hb hX hY hi0 hj0 hTT hN
  go_enter Tryz.func110, Tryz.ntmps110
  go_wp2
  go_loopw [10, 11] (fun u v wr => ∃ i j : Nat, u = .int .i64 i ∧ v = .int .i64 j ∧ 0 < i ∧ 0 < j ∧ i ≤ m ∧ m + j ≤ N ∧ i + j ≤ i0 + j0 ∧ Hid (∃ P' X' Y' S', X'.length = i ∧ Y'.length = j ∧ P'.length + i = m ∧ (P' ++ (X' ++ (Y' ++ S'))).length = N ∧ RowW wr B g c (P' ++ (X' ++ (Y' ++ S'))) ∧ P' ++ (Y' ++ (X' ++ S')) = TT) ∧ w.grownBy wr (some g)) (fun u v _ => (RowKit.intOf u).toNat + (RowKit.intOf v).toNat)
  case atStart => exact ⟨i0, j0, rfl, rfl, hi1, hj1, hm0, lm, Nat.le_refl _, START, grRW _ _⟩
  case round =>
    obtain ⟨i, j, rfl, rfl, hi, hj, him, hmj, hij, ST, hg⟩ := hrel
    have GR := Lib.hid hg
    clear hg START m1 m2
    have e1 : (m : Int) - (i : Int) = ((m - i : Nat) : Int) := by omega
    rcases Nat.lt_trichotomy i j with h1 | h1 | h1
    · have n1 : ¬ (i : Int) = (j : Int) := by omega
      have n2 : ¬ (i : Int) > (j : Int) := by omega
      have e2 : (m : Int) + (j : Int) - (i : Int) = ((m + j - i : Nat) : Int) := by omega
      have e3 : (j : Int) - (i : Int) = ((j - i : Nat) : Int) := by omega
      have CC : Hid (∃ P' X' Y' S', X'.length = i ∧ Y'.length = j - i ∧ P'.length + i = m ∧ (P' ++ (X' ++ (Y' ++ S'))).length = N ∧ P' ++ (Y' ++ (X' ++ S')) = TT ∧ Calls Tryz.prog 116 #[.slice (some ⟨g, 0, none⟩) N c, .int .i64 ((m - i : Nat) : Int), .int .i64 ((m + j - i : Nat) : Int), .int .i64 (i : Int), fv] wr (SwW wr B g c (P' ++ (X' ++ (Y' ++ S'))))) := Lib.hid (by
        obtain ⟨P', X', Y', S', l1, l2, l3, l4, hr, ht⟩ := ST.out
        have sp : Y' = Y'.take (j - i) ++ Y'.drop (j - i) := (List.take_append_drop _ _).symm
        have lt1 : (Y'.take (j - i)).length = j - i := by rw [List.length_take]; omega
        have ld1 : (Y'.drop (j - i)).length = i := by rw [List.length_drop]; omega
        generalize Y'.take (j - i) = Y1 at sp lt1
        generalize Y'.drop (j - i) = Y2 at sp ld1
        subst sp
        refine ⟨P', Y2, Y1, X' ++ S', ld1, lt1, l3, by rw [← l4]; simp; omega, by rw [← ht]; simp only [List.append_assoc], ?_⟩
        have hc := swapRW_is B g c N P' X' Y1 Y2 S' (m - i) (m + j - i) i fv wr (by rw [← l4]; simp only [List.append_assoc]) (by simpa only [List.append_assoc] using hr) (by omega) (by omega) l1.symm (by omega) hbig
        exact hc)
      clear ST
      obtain ⟨P', X', Y', S', l1, l2, l3, l4, ht, hc⟩ := CC.out
      have HC := Lib.hid hc
      clear hc CC
      go_wp2_with fail
      refine HC.out.mono ?_
      rintro e w2 ⟨rfl, hr, hg⟩
      have SS : Hid (∃ P' X' Y' S', X'.length = i ∧ Y'.length = j - i ∧ P'.length + i = m ∧ (P' ++ (X' ++ (Y' ++ S'))).length = N ∧ RowW w2 B g c (P' ++ (X' ++ (Y' ++ S'))) ∧ P' ++ (Y' ++ (X' ++ S')) = TT) := Lib.hid ⟨P', X', Y', S', l1, l2, l3, l4, hr, ht⟩
      have G2 := Lib.hid (grTW GR.out hg)
      clear hr hg HC ht l1 l2 l3 l4 GR
      dsimp only
      go_wp2
      go_roundw
      case rel => exact ⟨i, j - i, rfl, rfl, hi, by omega, him, by omega, by omega, SS, G2.out⟩
      case measure => simp [intOf]; omega
    · subst h1
      have CC : Hid (Calls Tryz.prog 116 #[.slice (some ⟨g, 0, none⟩) N c, .int .i64 ((m - i : Nat) : Int), .int .i64 (m : Int), .int .i64 (i : Int), fv] wr (SwW wr B g c TT)) := Lib.hid (by
        obtain ⟨P', X', Y', S', l1, l2, l3, l4, hr, ht⟩ := ST.out
        have hc := swapRW_is B g c N P' X' [] Y' S' (m - i) m i fv wr (by rw [← l4]; rfl) hr (by omega) (by simp; omega) l1.symm (by omega) hbig
        rw [List.nil_append, ht] at hc
        exact hc)
      clear ST
      go_wp2_with fail
      refine CC.out.mono ?_
      rintro e w2 ⟨rfl, hr, hg⟩
      have R2 := Lib.hid hr; have G2 := Lib.hid (grTW GR.out hg)
      clear hr hg CC GR
      dsimp only
      go_wp2
      exact bodyPost_end (results_none rfl _ _ _) rfl ⟨rfl, R2.out, G2.out⟩
    · have n1 : ¬ (i : Int) = (j : Int) := by omega
      have n2 : (i : Int) > (j : Int) := by omega
      have e3 : (i : Int) - (j : Int) = ((i - j : Nat) : Int) := by omega
      have CC : Hid (∃ P' X' Y' S', X'.length = i - j ∧ Y'.length = j ∧ P'.length + (i - j) = m ∧ (P' ++ (X' ++ (Y' ++ S'))).length = N ∧ P' ++ (Y' ++ (X' ++ S')) = TT ∧ Calls Tryz.prog 116 #[.slice (some ⟨g, 0, none⟩) N c, .int .i64 ((m - i : Nat) : Int), .int .i64 (m : Int), .int .i64 (j : Int), fv] wr (SwW wr B g c (P' ++ (X' ++ (Y' ++ S'))))) := Lib.hid (by
        obtain ⟨P', X', Y', S', l1, l2, l3, l4, hr, ht⟩ := ST.out
        have sp : X' = X'.take j ++ X'.drop j := (List.take_append_drop _ _).symm
        have lt1 : (X'.take j).length = j := by rw [List.length_take]; omega
        have ld1 : (X'.drop j).length = i - j := by rw [List.length_drop]; omega
        generalize X'.take j = X1 at sp lt1
        generalize X'.drop j = X2 at sp ld1
        subst sp
        refine ⟨P' ++ Y', X2, X1, S', ld1, lt1, by rw [List.length_append]; omega, by rw [← l4]; simp; omega, by rw [← ht]; simp only [List.append_assoc], ?_⟩
        have hc := swapRW_is B g c N P' X1 X2 Y' S' (m - i) m j fv wr (by rw [← l4]; simp only [List.append_assoc]) (by simpa only [List.append_assoc] using hr) (by omega) (by omega) lt1.symm (by omega) hbig
        simpa only [List.append_assoc] using hc)
      clear ST
      obtain ⟨P', X', Y', S', l1, l2, l3, l4, ht, hc⟩ := CC.out
      have HC := Lib.hid hc
      clear hc CC
      go_wp2_with fail
      refine HC.out.mono ?_
      rintro e w2 ⟨rfl, hr, hg⟩
      have SS : Hid (∃ P' X' Y' S', X'.length = i - j ∧ Y'.length = j ∧ P'.length + (i - j) = m ∧ (P' ++ (X' ++ (Y' ++ S'))).length = N ∧ RowW w2 B g c (P' ++ (X' ++ (Y' ++ S'))) ∧ P' ++ (Y' ++ (X' ++ S')) = TT) := Lib.hid ⟨P', X', Y', S', l1, l2, l3, l4, hr, ht⟩
      have G2 := Lib.hid (grTW GR.out hg)
      clear hr hg HC ht l1 l2 l3 l4 GR
      dsimp only
      go_wp2
      go_roundw
      case rel => exact ⟨i - j, j, rfl, rfl, by omega, hj, by omega, hmj, by omega, SS, G2.out⟩
      case measure => simp [intOf]; omega
end Go.Proofs.YtijmijokgenflaaGreatDoor
/- The example that each law of layer 12 ends with. -/
namespace Go.Proofs.YtijmijokgenflaaGreatDoor
open Go Go.RowKit
set_option linter.unusedVariables false
set_option maxRecDepth 1000000

def exE1 : Ev := ⟨0, 1, 1, 1, ⟨#[97]⟩, 1, ⟨#[120]⟩, []⟩
def exE2 : Ev := ⟨0, 2, 2, 2, ⟨#[97]⟩, 0, ByteArray.empty, [(0, 1)]⟩
def exW : Wr := ⟨0, 1, 1, ⟨#[97]⟩, 1, ⟨#[120]⟩⟩
def exF1 : Nat → Int := withF (fun _ => 0) 0 1
def exF2 : Nat → Int := withF exF1 0 2
theorem exHead1 : headB exE1 = true := (head_iff exE1).2 ⟨by decide, by decide, by decide +kernel, goB_iff.2 ⟨by decide, fun i h => absurd h (by simp [exE1]), fun i h => absurd h (by simp [exE1])⟩⟩
theorem exHead2 : headB exE2 = true := (head_iff exE2).2 ⟨by decide, by decide, by decide +kernel, goB_iff.2 ⟨by decide, fun i h => by
  have : i = 0 := by simpa [exE2] using h
  subst this
  show vl (0, 1) = true ∧ ((0, 1) : Dt) ≠ (0, 2)
  exact ⟨by decide, by decide⟩, fun i h => absurd h (by simp [exE2])⟩⟩
theorem exChk1 : chk exE1 = 0 := by rw [chk_put exHead1 rfl]; decide +kernel
theorem exChk2 : chk exE2 = 0 := chk_drop exHead2 rfl rfl rfl
theorem exSkip1 : apSkip (fun _ => 0) exE1 = false := by unfold apSkip; rw [exChk1]; decide
theorem exSkip2 : apSkip exF1 exE2 = false := by unfold apSkip; rw [exChk2]; decide
theorem exSeen1 : apSeen (fun _ => 0) exE1 = exF1 := by unfold apSeen; rw [exSkip1]; rfl
theorem exSeen2 : apSeen exF1 exE2 = exF2 := by unfold apSeen; rw [exSkip2]; rfl
theorem exLive1 : apLive (fun _ => 0) [] exE1 = [exW] := by unfold apLive; rw [exSkip1]; rfl
theorem exLive2 : apLive exF1 [exW] exE2 = [] := by unfold apLive; rw [exSkip2]; rfl
theorem exOf : ofW [exW] ⟨#[97]⟩ (-1) = [exW] := by
  have : notOf ⟨#[97]⟩ (-1) exW = false := by decide +kernel
  unfold ofW
  rw [List.filter_cons_of_pos (by rw [this]; rfl)]; rfl
theorem exLast : latestOf [exW] 1 = ⟨#[120]⟩ := by decide +kernel
theorem exF2_0 : exF2 0 = 2 := by decide +kernel
theorem builtE1 (w : World) : (Instr.build 55 #[(0, .agg #[.int .i64 0, .int .i64 1]), (1, .int .i64 1), (2, .int .i64 1), (3, .string ⟨#[97]⟩), (4, .int .i64 1), (5, .string ⟨#[120]⟩)]).run Tryz.prog w = .ok (.agg (EvP.cells ⟨exE1, none, 0⟩).toArray) w := run_build w _ _ _ (by kernel_rfl)
theorem builtE2 (q : Option Addr) (w : World) : (Instr.build 55 #[(0, .agg #[.int .i64 0, .int .i64 2]), (1, .int .i64 2), (2, .int .i64 2), (3, .string ⟨#[97]⟩), (6, .slice q 1 1)]).run Tryz.prog w = .ok (.agg (EvP.cells ⟨exE2, q, 1⟩).toArray) w := run_build w _ _ _ (by kernel_rfl)
set_option maxHeartbeats 8000000 in
theorem awake12 (w : World) (hT : Shapes w) : Calls Tryz.prog 5 #[] w (Yes w) := by
  have HT := Lib.hid hT
  clear hT
  have b1 := below_alloc w (.cells #[.int .i64 0, .int .i64 1] 37)
  have n1 := heap_alloc_new w (.cells #[.int .i64 0, .int .i64 1] 37)
  have A1 := Lib.hid (apply_is (fun _ => 0) none 0 [] ⟨exE1, none, 0⟩ (w.alloc (.cells #[.int .i64 0, .int .i64 1] 37)) ⟨fun h => absurd rfl h, fun _ => rfl⟩ (fun a ha => by cases ha) (by simp) ⟨DRow.nil _ _, fun _ => rfl⟩ (HT.out.below b1) (by decide))
  have B1 := Lib.hid b1; have N1 := Lib.hid n1
  clear b1 n1
  simp only [exSeen1, exLive1, exChk1] at A1
  have A1 : Hid (Calls Tryz.prog 24 #[.agg (scs (fun _ => 0) (.slice none 0 0)), .agg (EvP.cells ⟨exE1, none, 0⟩).toArray] (w.alloc (.cells #[.int .i64 0, .int .i64 1] 37)) (StR (w.alloc (.cells #[.int .i64 0, .int .i64 1] 37)) exF1 [exW] 0)) := A1
  go_enter Tryz.func5, Tryz.ntmps5
  go_wp2_with (first | refine wpList_pbuild (by rfl) _ rfl (scs (fun _ => 0) (.slice none 0 0)) (by simp only [List.map_toArray, List.map_cons, List.map_nil]; exact builtSt0 _) ?_ | refine wpList_pbuild (by rfl) _ rfl (EvP.cells ⟨exE1, none, 0⟩).toArray (by simp only [List.map_toArray, List.map_cons, List.map_nil]; exact builtE1 _) ?_)
  refine A1.out.mono ?_
  rintro e w2 ⟨v2, rfl, o2, hb2⟩
  obtain ⟨p2, c2, hv2, _, wat2, off2⟩ := own_wat o2
  subst hv2
  have B2 := Lib.hid (thenBelow B1.out hb2)
  have N2 := Lib.hid ((hb2.block _ (Array.getElem?_eq_some_iff.1 N1.out).1).trans N1.out)
  have WT := Lib.hid (fun (V : World) (hV : Below w2.heap.size w2 V) => wat2.below hV)
  have OF := Lib.hid off2
  clear o2 hb2 wat2 off2 A1 B1 N1
  go_wp2_with (refine wpList_galloc _ zeroSt rfl rfl ?_)
  intro g2 w3 l2 h2 hb3
  have B3 := Lib.hid (thenBelow B2.out hb3)
  have N3 := Lib.hid ((hb3.block _ (Array.getElem?_eq_some_iff.1 N2.out).1).trans N2.out)
  have ln2 : w.heap.size < g2 := Nat.lt_of_lt_of_le (Array.getElem?_eq_some_iff.1 N2.out).1 l2
  have HB3 := Lib.hid hb3; have H3 := Lib.hid h2
  clear h2 hb3 N2
  go_wp2_with (refine wpList_gstore rfl _ _ rfl g2 rfl (scs exF1 (.slice p2 [exW].length c2)) rfl _ _ H3.out (sizeSt _ _) (by rw [scs_size, scs_size]) (scs_one exF1 rfl) ?_)
  intro w4 h4 g4'
  have BW4 := Lib.hid (HB3.out.trans (grown_below g4' HB3.out.size l2))
  have B4 := Lib.hid (thenBelow B2.out BW4.out)
  have N4 := Lib.hid ((g4'.block _ (Array.getElem?_eq_some_iff.1 N3.out).1 (by simp; omega)).trans N3.out)
  have S4 : Hid (Sx w4 g2 exF1 (.slice p2 [exW].length c2)) := Lib.hid h4
  clear h4 g4' H3 N3 HB3
  have SW := Lib.hid (S4.out.whole)
  have RD := Lib.hid (docRead_is exF1 p2 c2 [exW] ⟨#[97]⟩ exW [] w4 (WT.out w4 BW4.out) OF.out (by decide) exOf)
  go_wp2_with (refine wpList_gload rfl _ rfl g2 0 rfl _ SW.out _ Tryz.underlying26 rfl (sizeStl _ _) ?_)
  refine RD.out.mono ?_
  rintro e w5 ⟨rfl, hb5⟩
  have S5 := Lib.hid (S4.out.later hb5); have B5 := Lib.hid (thenBelow B4.out hb5); have BW5 := Lib.hid (thenBelow BW4.out hb5)
  have N5 := Lib.hid ((hb5.block _ (Array.getElem?_eq_some_iff.1 N4.out).1).trans N4.out)
  clear hb5 RD SW S4 N4
  obtain ⟨td, htd⟩ : ∃ t : Nat → ByteArray, (fun i : Nat => latestOf [exW] (i + 1 : Nat)) = t := ⟨_, rfl⟩
  have HTD : Hid (td 0 = ⟨#[120]⟩) := Lib.hid (by rw [← htd]; exact exLast)
  rw [htd]
  clear htd
  go_wp2_with (refine wpList_galloc _ zeroDoc rfl rfl ?_)
  intro g4 w6 l4 h6 hb6
  have S6 := Lib.hid (S5.out.later hb6); have B6 := Lib.hid (thenBelow B5.out hb6); have BW6 := Lib.hid (thenBelow BW5.out hb6)
  have N6 := Lib.hid ((hb6.block _ (Array.getElem?_eq_some_iff.1 N5.out).1).trans N5.out)
  have n24 : g2 < g4 := Nat.lt_of_lt_of_le S5.out.lt l4
  have lw4 : w.heap.size < g4 := Nat.lt_of_lt_of_le (Array.getElem?_eq_some_iff.1 N5.out).1 l4
  have l4' : w2.heap.size ≤ g4 := Nat.le_trans BW5.out.size l4
  have H6 := Lib.hid h6
  clear h6 hb6 S5 N5
  go_wp2_with (refine wpList_gstore rfl _ _ rfl g4 rfl (dcv exW.doc td) rfl _ _ H6.out (sizeDoc _ _) rfl (dcv_one _ _) ?_)
  intro w7 h7 g7'
  have BW7 := Lib.hid (BW6.out.trans (grown_below g7' BW6.out.size l4'))
  have B7 := Lib.hid (thenBelow B2.out BW7.out)
  have S7 := Lib.hid (S6.out.kept g7' (by simp; omega))
  have N7 := Lib.hid ((g7'.block _ (Array.getElem?_eq_some_iff.1 N6.out).1 (by simp; omega)).trans N6.out)
  have D7 := Lib.hid h7
  clear h7 g7' H6 S6 N6
  have ba := below_alloc w7 (.cells #[.int .i64 0, .int .i64 1] 37)
  have na := heap_alloc_new w7 (.cells #[.int .i64 0, .int .i64 1] 37)
  have A2 := Lib.hid (apply_is exF1 p2 c2 [exW] ⟨exE2, some ⟨w7.heap.size, 0, none⟩, 1⟩ (w7.alloc (.cells #[.int .i64 0, .int .i64 1] 37)) (WT.out _ (thenBelow BW7.out ba)) OF.out (by decide) ⟨fun _ => ⟨w7.heap.size, 0, rfl, range_of_block na⟩, fun e => by cases e⟩ (HT.out.below (thenBelow B7.out ba)) (show ([(0, 1)] : List Dt).length ≤ 1000 by decide))
  simp only [exSeen2, exLive2, exChk2] at A2
  have S8 := Lib.hid (S7.out.later ba)
  have D8 := Lib.hid ((ba.block _ (Array.getElem?_eq_some_iff.1 D7.out).1).trans D7.out)
  have B8 := Lib.hid (thenBelow B7.out ba)
  have k0 := (cell_of_row w7 w.heap.size 0 _ _ _ N7.out).trans (show _ = some (Value.int .i64 0) from rfl)
  have k1 := (cell_of_row w7 w.heap.size 1 _ _ _ N7.out).trans (show _ = some (Value.int .i64 1) from rfl)
  have SW := Lib.hid (S7.out.whole)
  clear ba na
  go_wp2_with (first | refine wpList_gload rfl _ rfl g2 0 rfl _ SW.out _ Tryz.underlying26 rfl (sizeStl _ _) ?_ | refine wpList_pbuild (by rfl) _ rfl (EvP.cells ⟨exE2, some ⟨w7.heap.size, 0, none⟩, 1⟩).toArray (by simp only [List.map_toArray, List.map_cons, List.map_nil]; exact builtE2 _ _) ?_)
  refine A2.out.mono ?_
  rintro e w9 ⟨v9, rfl, o9, hb9⟩
  obtain ⟨p9, c9, hv9, _⟩ := own_wat o9
  subst hv9
  have B9 := Lib.hid (thenBelow B8.out hb9)
  have D9 := Lib.hid ((hb9.block _ (Array.getElem?_eq_some_iff.1 D8.out).1).trans D8.out)
  clear hb9 o9 A2 SW k0 k1 D8
  go_wp2_with (refine wpList_galloc _ zeroSt rfl rfl ?_)
  intro g6 w10 l6 h10 hb10
  have B10 := Lib.hid (thenBelow B9.out hb10)
  have D10 := Lib.hid ((hb10.block _ (Array.getElem?_eq_some_iff.1 D9.out).1).trans D9.out)
  have n46 : g4 < g6 := Nat.lt_of_lt_of_le (Array.getElem?_eq_some_iff.1 D9.out).1 l6
  have l6' : w.heap.size ≤ g6 := Nat.le_trans B9.out.size l6
  have H10 := Lib.hid h10
  clear h10 hb10 D9
  go_wp2_with (refine wpList_gstore rfl _ _ rfl g6 rfl (scs exF2 (.slice p9 ([] : List Wr).length c9)) rfl _ _ H10.out (sizeSt _ _) (by rw [scs_size, scs_size]) (scs_one exF2 rfl) ?_)
  intro w11 h11 g11
  have B11 := Lib.hid (B10.out.trans (grown_below g11 B10.out.size l6'))
  have D11 := Lib.hid ((g11.block _ (Array.getElem?_eq_some_iff.1 D10.out).1 (by simp; omega)).trans D10.out)
  have S11 : Hid (Sx w11 g6 exF2 (.slice p9 ([] : List Wr).length c9)) := Lib.hid h11
  have kd := (cell_of_row w11 g4 1 _ _ _ D11.out).trans (show _ = some (Value.string (td 0)) from rfl)
  rw [HTD.out] at kd
  have ks := S11.out.slot
  have kv := S11.out.vec 0 (.int .i64 (exF2 0)) (by rw [Array.getElem?_toList]; exact vf_get exF2 0 (by omega))
  rw [exF2_0] at kv
  simp only [List.length_nil, Nat.add_zero] at ks kv
  clear h11 g11
  go_wp2
  go_ret
  exact ⟨rfl, B11.out⟩
end Go.Proofs.YtijmijokgenflaaGreatDoor
