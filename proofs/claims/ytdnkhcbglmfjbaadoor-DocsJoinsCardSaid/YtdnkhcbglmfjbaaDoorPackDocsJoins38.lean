/- The statement DocsJoins, proved for every input that its row reads: part 38 of 54. -/
import Derived.Test.YtdnkhcbglmfjbaaDoorPackDocsJoins30
import Derived.Test.YtdnkhcbglmfjbaaDoorPackDocsJoins15
/- docs.Of, latest: a state's writes of a document, of a field; what was written last. -/
namespace Go.Proofs.YtdnkhcbglmfjbaaDoor
open Go Go.RowKit
set_option linter.unusedVariables false
set_option maxRecDepth 1000000

/-- is it not of a document, or not of a field? -/
def notOf (doc : ByteArray) (field : Int) (y : Wr) : Bool := !(y.doc.toList == doc.toList) || (decide (field ≥ 0) && (y.field != field))
def OfIn (G H : Nat) (doc : ByteArray) (field : Int) (w : World) : Prop := w.cell? ⟨G, 0, none⟩ = some (.string doc) ∧ w.cell? ⟨H, 0, none⟩ = some (.int .i64 field)
set_option maxHeartbeats 4000000 in
theorem of_tell (G H : Nat) (doc : ByteArray) (field : Int) (y : Wr) (w : World) (h : OfIn G H doc field w) : Calls Tryd.prog 56 #[.agg y.cells.toArray, .pointer (some ⟨G, 0, none⟩), .pointer (some ⟨H, 0, none⟩)] w (RetBool w (notOf doc field y)) := by
  obtain ⟨h1, h2⟩ := h
  obtain ⟨b, hb⟩ : ∃ b, notOf doc field y = b := ⟨_, rfl⟩
  rw [hb]
  unfold notOf at hb
  obtain ⟨r, n, t, d, fl, tx⟩ := y
  simp only at hb
  show Calls Tryd.prog 56 #[.agg #[.int .i64 r, .int .i64 n, .int .i64 t, .string d, .int .i64 fl, .string tx], .pointer (some ⟨G, 0, none⟩), .pointer (some ⟨H, 0, none⟩)] w _
  have bA := below_alloc w (.cells #[.int .i64 r, .int .i64 n, .int .i64 t, .string d, .int .i64 fl, .string tx] 34)
  have h1' := cell_hold2 h1 bA; have h2' := cell_hold2 h2 bA
  have BA := Lib.hid bA
  clear h1 h2 bA
  cases e1 : (d.toList == doc.toList) with
  | false =>
    rw [e1] at hb
    simp only [Bool.not_false, Bool.true_or] at hb
    subst hb
    go_enter Tryd.func56, Tryd.ntmps56
    go_wp2
    go_ret
    exact ⟨rfl, BA.out⟩
  | true =>
    rw [e1] at hb
    simp only [Bool.not_true, Bool.false_or] at hb
    by_cases h0 : field ≥ 0
    · rw [decide_eq_true h0, Bool.true_and] at hb
      by_cases hf : fl = field
      · subst hf
        have hb' : false = b := by rw [← hb]; simp
        subst hb'
        clear hb
        go_enter Tryd.func56, Tryd.ntmps56
        go_wp2
        go_ret
        exact ⟨rfl, BA.out⟩
      · have hf' : (fl != field) = true := by simp [hf]
        rw [hf'] at hb
        subst hb
        go_enter Tryd.func56, Tryd.ntmps56
        go_wp2
        go_ret
        exact ⟨rfl, BA.out⟩
    · rw [decide_eq_false h0, Bool.false_and] at hb
      subst hb
      go_enter Tryd.func56, Tryd.ntmps56
      go_wp2
      go_ret
      exact ⟨rfl, BA.out⟩
theorem of_enter (args : Array Value) (w : World) : (callFunc 56 args).run Tryd.prog w = .ok (.enter 56 args) w := by kernel_rfl
theorem of_tells (G H : Nat) (doc : ByteArray) (field : Int) (B : Nat) (w0 : World) (h : OfIn G H doc field w0) (hB : B = w0.heap.size) : TellW 56 #[.pointer (some ⟨G, 0, none⟩), .pointer (some ⟨H, 0, none⟩)] (notOf doc field) B (fun w => Below B w0 w) where
  enter := of_enter
  tell := fun y w hw => of_tell G H doc field y w (by subst hB; exact ⟨cell_hold2 h.1 hw, cell_hold2 h.2 hw⟩)
  keep := fun w w' h1 h2 => h1.trans h2
/-- a state's writes of a document (of a field) -/
def ofW (L : List Wr) (doc : ByteArray) (field : Int) : List Wr := L.filter (fun y => !notOf doc field y)
set_option maxHeartbeats 4000000 in
theorem docOf_is (F : Nat → Int) (p : Option Addr) (c : Nat) (L : List Wr) (doc : ByteArray) (field : Int) (w : World) (h : WrsAt w p L) (ho : ∀ a, p = some a → ∃ b o, a = ⟨b, o, none⟩) (hn : L.length ≤ 10000) :
    Calls Tryd.prog 37 #[.agg (scs F (.slice p L.length c)), .string doc, .int .i64 field] w (LeftW w (ofW L doc field)) := by
  have HW := Lib.hid h; have HP := Lib.hid ho
  clear h ho
  go_enter Tryd.func37, Tryd.ntmps37
  go_wp2_with (refine wpList_gbox rfl _ rfl (scs F (.slice p L.length c)) rfl ?_)
  intro g2 w1 l2 h2 hb1
  have S1 : Hid (Sx w1 g2 F (.slice p L.length c)) := Lib.hid h2
  have B1 := Lib.hid hb1
  clear h2 hb1
  have ba := below_alloc w1 (.cells #[.string doc] 9)
  have bb := below_alloc (w1.alloc (.cells #[.string doc] 9)) (.cells #[.int .i64 field] 3)
  have na := heap_alloc_new w1 (.cells #[.string doc] 9)
  have nb := heap_alloc_new (w1.alloc (.cells #[.string doc] 9)) (.cells #[.int .i64 field] 3)
  have S3 := Lib.hid ((S1.out.later (thenBelow ba bb)).slot)
  have B3 := Lib.hid (thenBelow B1.out (thenBelow ba bb))
  have OI : OfIn w1.heap.size (w1.heap.size + 1) doc field ((w1.alloc (.cells #[.string doc] 9)).alloc (.cells #[.int .i64 field] 3)) :=
    ⟨(cell_of_row _ _ 0 _ _ _ ((bb.block _ (Array.getElem?_eq_some_iff.1 na).1).trans na)).trans rfl, (cell_of_row _ _ 0 _ _ _ (by simpa [World.size_alloc] using nb)).trans rfl⟩
  have WO := Lib.hid (withoutW_is 56 #[.pointer (some ⟨w1.heap.size, 0, none⟩), .pointer (some ⟨w1.heap.size + 1, 0, none⟩)] (notOf doc field) (fun U => Below ((w1.alloc (.cells #[.string doc] 9)).alloc (.cells #[.int .i64 field] 3)).heap.size ((w1.alloc (.cells #[.string doc] 9)).alloc (.cells #[.int .i64 field] 3)) U) p c L _ (of_tells _ _ doc field _ _ OI rfl) (Below.refl _ _) (HW.out.below B3.out) HP.out hn)
  clear ba bb na nb OI
  have s3 := S3.out
  go_wp2_with fail
  refine WO.out.mono ?_
  rintro e w4 ⟨v, rfl, h1, h2⟩
  have O4 := Lib.hid (own_base h1 B3.out.size); have B4 := Lib.hid (thenBelow B3.out h2)
  clear h1 h2 WO
  go_wp2
  go_ret
  exact ⟨v, rfl, O4.out, B4.out⟩
def noWr : Wr := ⟨0, 0, 0, ByteArray.empty, 0, ByteArray.empty⟩
/-- what was written last, going through writes -/
def stepL (field : Int) (s : Wr × Bool) (y : Wr) : Wr × Bool := if y.field = field ∧ (s.2 = false ∨ cmpT y s.1 ≥ 0) then (y, true) else s
def lastL (l : List Wr) (field : Int) : Wr × Bool := l.foldl (stepL field) (noWr, false)
theorem lastL_take (l : List Wr) (field : Int) (k : Nat) (h : k < l.length) : lastL (l.take (k + 1)) field = stepL field (lastL (l.take k) field) l[k] := by
  unfold lastL
  rw [List.take_succ_eq_append_getElem h, List.foldl_append]; rfl
def latestOf (l : List Wr) (field : Int) : ByteArray := (lastL l field).1.text
set_option maxHeartbeats 8000000 in
theorem latest_is (p : Option Addr) (c : Nat) (l : List Wr) (field : Int) (w : World) (h : WrsAt w p l) (hn : l.length ≤ 10000) :
    Calls Tryd.prog 57 #[.slice p l.length c, .int .i64 field] w fun e w' => e = .returned (.string (latestOf l field)) ∧ Below w.heap.size w w' := by
  have HW := Lib.hid h
  clear h
  go_enter Tryd.func57, Tryd.ntmps57
  go_wp2_with (refine wpList_galloc _ (fun w => show (zeroValue 34).run Tryd.prog w = .ok (.agg noWr.cells.toArray) w by kernel_rfl) rfl rfl ?_)
  intro g5 w1 l5 h5 hb1
  have B1 := Lib.hid hb1
  have N1 : Hid (w1.heap[g5]? = some (.cells noWr.cells.toArray 34 (0, 0))) := Lib.hid h5
  have lw5 : w.heap.size ≤ g5 := l5
  clear hb1 h5 l5
  go_wp2
  go_loopw [6, 11] (fun fd i wr => ∃ (k : Nat) (last : Wr) (f : Bool), k ≤ l.length ∧ i = .int .i64 k ∧ fd = .bool f ∧ Hid ((last, f) = lastL (l.take k) field) ∧ wr.heap[g5]? = some (.cells last.cells.toArray 34 (0, 0)) ∧ Below w.heap.size w wr) (fun _ i _ => l.length - (intOf i).toNat)
  case atStart => exact ⟨0, noWr, false, Nat.zero_le _, rfl, rfl, Lib.hid rfl, N1.out, B1.out⟩
  case round =>
    obtain ⟨k, last, f, hk, rfl, rfl, HLS, hg5, hb⟩ := hrel
    have H5 := Lib.hid hg5; have BB := Lib.hid hb
    clear hg5 hb
    by_cases hkl : k < l.length
    · have hkl' : (k : Int) < l.length := by omega
      obtain ⟨b, o, rfl, hlt, hr⟩ := (HW.out.below BB.out).at hkl
      obtain ⟨c0, c1, c2, c3, c4, c5⟩ := wr_cells hr
      have HS := Lib.hid (lastL_take l field k hkl)
      rw [← HLS.out] at HS
      clear hr hlt
      obtain ⟨y, hy⟩ : ∃ y, l[k] = y := ⟨_, rfl⟩
      rw [hy] at c0 c1 c2 c3 c4 c5 HS
      clear hy
      obtain ⟨r, n, t, d, fl, tx⟩ := y
      simp only at c0 c1 c2 c3 c4 c5
      have ba := below_alloc wr (.cells #[.int .i64 r, .int .i64 n, .int .i64 t, .string d, .int .i64 fl, .string tx] 34)
      have H6 := Lib.hid ((ba.block g5 (Array.getElem?_eq_some_iff.1 H5.out).1).trans H5.out)
      have BA := Lib.hid (thenBelow BB.out ba)
      have ST := Lib.hid (stCompare_is ⟨r, n, t, d, fl, tx⟩ last (wr.alloc (.cells #[.int .i64 r, .int .i64 n, .int .i64 t, .string d, .int .i64 fl, .string tx] 34)))
      have rl : (wr.alloc (.cells #[.int .i64 r, .int .i64 n, .int .i64 t, .string d, .int .i64 fl, .string tx] 34)).rangeAt g5 0 last.cells := by simpa using range_of_block H6.out
      obtain ⟨a0, a1, a2, a3, a4, a5⟩ := wr_cells rl
      simp only [Nat.zero_add] at a0 a1 a2 a3 a4 a5
      clear ba rl
      by_cases hf : fl = field
      · subst hf
        cases f with
        | false =>
          have HN : Hid (((⟨r, n, t, d, fl, tx⟩ : Wr), true) = lastL (l.take (k + 1)) fl) := Lib.hid (by rw [HS.out]; unfold stepL; rw [if_pos ⟨rfl, .inl rfl⟩])
          clear ST HS
          go_wp2_with (refine wpList_gstore rfl _ _ rfl g5 rfl (Wr.cells ⟨r, n, t, d, fl, tx⟩).toArray rfl _ _ H6.out (by rw [List.size_toArray]; exact sizeWr _) rfl (fun v hv => Wr.cells_one _ v (by simpa using hv)) ?_)
          intro w9 h9 g9
          have H9 := Lib.hid h9
          have B9 := Lib.hid (BA.out.trans (grown_below g9 BA.out.size lw5))
          clear h9 g9
          go_wp2
          go_roundw
          case rel => exact ⟨k + 1, ⟨r, n, t, d, fl, tx⟩, true, by omega, by go_num, rfl, HN, H9.out, B9.out⟩
          case measure => simp [intOf]; omega
        | true =>
          obtain ⟨cm, hcm⟩ : ∃ cm, cmpT ⟨r, n, t, d, fl, tx⟩ last = cm := ⟨_, rfl⟩
          rw [hcm] at ST
          have HCM := Lib.hid hcm
          clear hcm
          obtain ⟨lr, ln, lt, ld, lf, lx⟩ := last
          simp only [Wr.cells] at a0 a1 a2 a3 a4 a5 ST
          go_wp2_with fail
          refine ST.out.mono ?_
          rintro e w7 ⟨rfl, hb7⟩
          have H7 := Lib.hid ((hb7.block g5 (Array.getElem?_eq_some_iff.1 H6.out).1).trans H6.out)
          have B7 := Lib.hid (thenBelow BA.out hb7)
          have n8 := (hb7.block _ (Array.getElem?_eq_some_iff.1 (heap_alloc_new wr (.cells #[.int .i64 r, .int .i64 n, .int .i64 t, .string d, .int .i64 fl, .string tx] 34))).1).trans (heap_alloc_new wr (.cells #[.int .i64 r, .int .i64 n, .int .i64 t, .string d, .int .i64 fl, .string tx] 34))
          have y0 := (cell_of_row w7 wr.heap.size 0 _ _ _ n8).trans (show _ = some (Value.int .i64 r) from rfl)
          have y1 := (cell_of_row w7 wr.heap.size 1 _ _ _ n8).trans (show _ = some (Value.int .i64 n) from rfl)
          have y2 := (cell_of_row w7 wr.heap.size 2 _ _ _ n8).trans (show _ = some (Value.int .i64 t) from rfl)
          have y3 := (cell_of_row w7 wr.heap.size 3 _ _ _ n8).trans (show _ = some (Value.string d) from rfl)
          have y4 := (cell_of_row w7 wr.heap.size 4 _ _ _ n8).trans (show _ = some (Value.int .i64 fl) from rfl)
          have y5 := (cell_of_row w7 wr.heap.size 5 _ _ _ n8).trans (show _ = some (Value.string tx) from rfl)
          clear hb7 ST a0 a1 a2 a3 a4 a5 c0 c1 c2 c3 c4 c5 n8
          by_cases h0 : cm ≥ 0
          · have HN : Hid (((⟨r, n, t, d, fl, tx⟩ : Wr), true) = lastL (l.take (k + 1)) fl) := Lib.hid (by rw [HS.out]; unfold stepL; rw [if_pos ⟨rfl, .inr (by simp only; rw [HCM.out]; exact h0)⟩])
            clear HS
            go_wp2_with (refine wpList_gstore rfl _ _ rfl g5 rfl (Wr.cells ⟨r, n, t, d, fl, tx⟩).toArray rfl _ _ H7.out (by rw [List.size_toArray]; exact sizeWr _) rfl (fun v hv => Wr.cells_one _ v (by simpa using hv)) ?_)
            intro w9 h9 g9
            have H9 := Lib.hid h9
            have B9 := Lib.hid (B7.out.trans (grown_below g9 B7.out.size lw5))
            clear h9 g9
            go_wp2
            go_roundw
            case rel => exact ⟨k + 1, ⟨r, n, t, d, fl, tx⟩, true, by omega, by go_num, rfl, HN, H9.out, B9.out⟩
            case measure => simp [intOf]; omega
          · have HN : Hid (((⟨lr, ln, lt, ld, lf, lx⟩ : Wr), true) = lastL (l.take (k + 1)) fl) := Lib.hid (by rw [HS.out]; unfold stepL; rw [if_neg (fun h => by rcases h.2 with h | h; cases h; rw [HCM.out] at h; exact h0 h)])
            clear HS
            go_wp2
            go_roundw
            case rel => exact ⟨k + 1, ⟨lr, ln, lt, ld, lf, lx⟩, true, by omega, by go_num, rfl, HN, H7.out, B7.out⟩
            case measure => simp [intOf]; omega
      · have hf' : (fl == field) = false := by simp [hf]
        have HN : Hid ((last, f) = lastL (l.take (k + 1)) field) := Lib.hid (by rw [HS.out]; unfold stepL; rw [if_neg (fun h => hf h.1)])
        clear ST HS a0 a1 a2 a3 a4 a5
        go_wp2
        go_roundw
        case rel => exact ⟨k + 1, last, f, by omega, by go_num, rfl, HN, H6.out, BA.out⟩
        case measure => simp [intOf]; omega
    · obtain rfl : k = l.length := by omega
      have hkl' : ¬ ((l.length : Nat) : Int) < l.length := by omega
      have HT : Hid (last.text = latestOf l field) := Lib.hid (by unfold latestOf; have := HLS.out; rw [List.take_length] at this; rw [← this])
      have c5 := (wr_cells (x := last) (o := 0) (by simpa using range_of_block H5.out)).2.2.2.2.2
      simp only [Nat.zero_add] at c5
      go_wp2
      go_ret
      exact ⟨by rw [← HT.out]; rfl, BB.out⟩
set_option maxRecDepth 1000000

/-- a document's cells -/
def dcv (id : ByteArray) (t : Nat → ByteArray) : Array Value := #[.string id, .string (t 0), .string (t 1), .string (t 2), .string (t 3)]
theorem dcv_one (id : ByteArray) (t : Nat → ByteArray) : ∀ u ∈ (dcv id t).toList, u.oneCell' = true := by
  intro u hu
  simp [dcv] at hu
  rcases hu with rfl | rfl | rfl | rfl | rfl <;> rfl
theorem sizeDoc (id : ByteArray) (t : Nat → ByteArray) : (Tryd.prog.info? 47).map (·.size) = some (dcv id t).size := by kernel_rfl
theorem sizeDocl (id : ByteArray) (t : Nat → ByteArray) : (Tryd.prog.info? 47).map (·.size) = some (dcv id t).toList.length := by kernel_rfl
theorem zeroDoc (w : World) : (zeroValue 47).run Tryd.prog w = .ok (.agg (dcv ByteArray.empty fun _ => ByteArray.empty)) w := by kernel_rfl
theorem builtDoc (id : ByteArray) (w : World) : (Instr.build 47 #[(0, .string id)]).run Tryd.prog w = .ok (.agg (dcv id fun _ => ByteArray.empty)) w := run_build w _ _ _ (by kernel_rfl)
theorem builtDoc0 (w : World) : (Instr.build 47 #[]).run Tryd.prog w = .ok (.agg (dcv ByteArray.empty fun _ => ByteArray.empty)) w := run_build w _ _ _ (by kernel_rfl)
def DocR (w : World) (id : ByteArray) (t : Nat → ByteArray) (e : Ending) (w' : World) : Prop := e = .returned (.agg (dcv id t)) ∧ Below w.heap.size w w'
theorem dcv_set (id : ByteArray) (t t' : Nat → ByteArray) (k : Nat) (x : ByteArray) (hk : k < 4) (h : ∀ i, i < 4 → t' i = if i = k then x else t i) : (dcv id t).setIfInBounds (k + 1) (.string x) = dcv id t' := by
  unfold dcv
  rw [h 0 (by omega), h 1 (by omega), h 2 (by omega), h 3 (by omega)]
  match k, hk with
  | 0, _ => rfl
  | 1, _ => rfl
  | 2, _ => rfl
  | 3, _ => rfl
theorem dcv_congr (id : ByteArray) (t t' : Nat → ByteArray) (h : ∀ i, i < 4 → t i = t' i) : dcv id t = dcv id t' := by
  unfold dcv; rw [h 0 (by omega), h 1 (by omega), h 2 (by omega), h 3 (by omega)]
set_option maxHeartbeats 8000000 in
theorem readOf_is (p : Option Addr) (c : Nat) (y : Wr) (l : List Wr) (w : World) (h : WrsAt w p (y :: l)) (hn : (y :: l).length ≤ 10000) :
    Calls Tryd.prog 38 #[.slice p (y :: l).length c] w (DocR w y.doc (fun i => latestOf (y :: l) (i + 1 : Nat))) := by
  have HW := Lib.hid h
  have LT : Hid (∀ (V : World) (k : Int), Below w.heap.size w V → Calls Tryd.prog 57 #[.slice p (y :: l).length c, .int .i64 k] V fun e w' => e = .returned (.string (latestOf (y :: l) k)) ∧ Below V.heap.size V w') := Lib.hid fun V k hV => latest_is p c (y :: l) k V (h.below hV) hn
  obtain ⟨b, o, hp, hlt, hr⟩ := h.at (show 0 < (y :: l).length by simp)
  subst hp
  have HR := Lib.hid hr
  have hpos : (0 : Int) < ((y :: l).length : Int) := by simp only [List.length_cons]; omega
  obtain ⟨lt, hltt⟩ : ∃ lt : Int → ByteArray, (fun k => latestOf (y :: l) k) = lt := ⟨_, rfl⟩
  have LT : Hid (∀ (V : World) (k : Int), Below w.heap.size w V → Calls Tryd.prog 57 #[.slice (some ⟨b, o, none⟩) (y :: l).length c, .int .i64 k] V fun e w' => e = .returned (.string (lt k)) ∧ Below V.heap.size V w') := by rw [← hltt]; exact LT
  have HLT : Hid ((fun i : Nat => latestOf (y :: l) (i + 1 : Nat)) = fun i : Nat => lt ((i + 1 : Nat) : Int)) := Lib.hid (by rw [← hltt])
  obtain ⟨n, hn2⟩ : ∃ n, (y :: l).length = n := ⟨_, rfl⟩
  rw [HLT.out]
  rw [hn2] at LT hpos hn ⊢
  clear h hlt hr hn2 hltt HLT
  go_enter Tryd.func38, Tryd.ntmps38
  go_wp2_with (refine wpList_galloc _ zeroDoc rfl rfl ?_)
  intro g2 w1 l2 h2 hb1
  have B1 := Lib.hid hb1
  have D1 := Lib.hid h2
  clear h2 hb1
  obtain ⟨c0, c1, c2, c3, c4, c5⟩ := wr_cells (range_below HR.out B1.out)
  simp only [Nat.zero_mul, Nat.add_zero] at c0 c1 c2 c3 c4 c5
  simp only [List.getElem_cons_zero] at c3
  clear c0 c1 c2 c4 c5
  go_wp2_with (first | refine wpList_pbuild (by rfl) _ rfl (dcv y.doc fun _ => ByteArray.empty) (by simp only [List.map_toArray, List.map_cons, List.map_nil]; exact builtDoc _ _) ?_ | refine wpList_galloc _ zeroDoc rfl rfl ?_)
  intro g3 w2 l3 h3 hb2
  have B2 := Lib.hid (thenBelow B1.out hb2)
  have D2 := Lib.hid ((hb2.block g2 (Array.getElem?_eq_some_iff.1 D1.out).1).trans D1.out)
  have E2 := Lib.hid h3
  have n23 : g2 < g3 := Nat.lt_of_lt_of_le (Array.getElem?_eq_some_iff.1 D1.out).1 l3
  have lw3 : w.heap.size ≤ g3 := Nat.le_trans B1.out.size l3
  clear h3 hb2 c3
  go_wp2_with (refine wpList_gstore rfl _ _ rfl g3 rfl (dcv y.doc fun _ => ByteArray.empty) rfl _ _ E2.out (sizeDoc _ _) rfl (dcv_one _ _) ?_)
  intro w3 h3 g3'
  have B3 := Lib.hid (B2.out.trans (grown_below g3' B2.out.size lw3))
  have D3 := Lib.hid ((g3'.block g2 (Array.getElem?_eq_some_iff.1 D2.out).1 (by simp; omega)).trans D2.out)
  have E3 := Lib.hid h3
  clear h3 g3' E2 D2
  go_wp2
  go_loopw [10] (fun i wr => ∃ (k : Nat) (t : Nat → ByteArray), k ≤ 4 ∧ i = .int .i64 k ∧ Hid (∀ i, i < 4 → t i = if i < k then lt ((i + 1 : Nat) : Int) else ByteArray.empty) ∧ wr.heap[g3]? = some (.cells (dcv y.doc t) 47 (0, 0)) ∧ wr.heap[g2]? = some (.cells (dcv ByteArray.empty fun _ => ByteArray.empty) 47 (0, 0)) ∧ Below w.heap.size w wr) (fun i _ => 4 - (intOf i).toNat)
  case atStart => exact ⟨0, fun _ => ByteArray.empty, by omega, rfl, Lib.hid (fun i hi => by rw [if_neg (by omega)]), E3.out, D3.out, B3.out⟩
  case round =>
    obtain ⟨k, t, hk, rfl, HT, e3, d3, hb⟩ := hrel
    have EE := Lib.hid e3; have DD := Lib.hid d3; have BB := Lib.hid hb
    clear e3 d3 hb
    have g3lt := (Array.getElem?_eq_some_iff.1 EE.out).1
    rcases (show k = 0 ∨ k = 1 ∨ k = 2 ∨ k = 3 ∨ k = 4 by omega) with rfl | rfl | rfl | rfl | rfl
    · have LK := Lib.hid (LT.out wr 1 BB.out)
      go_wp2_with fail
      refine LK.out.mono ?_
      rintro e w5 ⟨rfl, hb5⟩
      have E5 := Lib.hid ((hb5.block g3 g3lt).trans EE.out)
      have D5 := Lib.hid ((hb5.block g2 (Array.getElem?_eq_some_iff.1 DD.out).1).trans DD.out)
      have B5 := Lib.hid (thenBelow BB.out hb5)
      have k1 := (cell_of_row w5 g3 1 _ _ _ E5.out).trans (show _ = some (Value.string (t 0)) from rfl)
      have k2 := frozen_of_row w5 g3 1 _ _ E5.out
      have gS := grown_cell w5 g3 1 (.string (lt 1))
      have hS := heap_setCell_same w5 g3 1 _ _ (.string (lt 1)) E5.out
      have HS : Hid ((w5.setCell ⟨g3, 1, none⟩ (.string (lt 1))).heap[g3]? = some (.cells (dcv y.doc (fun i => if i = 0 then lt 1 else t i)) 47 (0, 0))) := Lib.hid (by rw [hS]; congr 2)
      have DS := Lib.hid ((gS.block g2 (Array.getElem?_eq_some_iff.1 D5.out).1 (by simp; omega)).trans D5.out)
      have BS := Lib.hid (B5.out.trans (grown_below gS B5.out.size lw3))
      have HN : Hid (∀ i, i < 4 → (fun i => if i = 0 then lt 1 else t i) i = if i < 1 then lt ((i + 1 : Nat) : Int) else ByteArray.empty) := Lib.hid (fun i hi => by
        simp only
        by_cases h1 : i = 0
        · subst h1; rw [if_pos rfl, if_pos (by omega)]; rfl
        · rw [if_neg h1, HT.out i hi]
          by_cases h2 : i < 0
          · rw [if_pos h2, if_pos (by omega)]
          · rw [if_neg h2, if_neg (by omega)])
      clear hb5 gS hS LK
      go_wp2
      go_roundw
      case rel => exact ⟨1, _, by omega, by go_num, HN, HS.out, DS.out, BS.out⟩
      case measure => simp [intOf]
    · have LK := Lib.hid (LT.out wr 2 BB.out)
      go_wp2_with fail
      refine LK.out.mono ?_
      rintro e w5 ⟨rfl, hb5⟩
      have E5 := Lib.hid ((hb5.block g3 g3lt).trans EE.out)
      have D5 := Lib.hid ((hb5.block g2 (Array.getElem?_eq_some_iff.1 DD.out).1).trans DD.out)
      have B5 := Lib.hid (thenBelow BB.out hb5)
      have k1 := (cell_of_row w5 g3 2 _ _ _ E5.out).trans (show _ = some (Value.string (t 1)) from rfl)
      have k2 := frozen_of_row w5 g3 2 _ _ E5.out
      have gS := grown_cell w5 g3 2 (.string (lt 2))
      have hS := heap_setCell_same w5 g3 2 _ _ (.string (lt 2)) E5.out
      have HS : Hid ((w5.setCell ⟨g3, 2, none⟩ (.string (lt 2))).heap[g3]? = some (.cells (dcv y.doc (fun i => if i = 1 then lt 2 else t i)) 47 (0, 0))) := Lib.hid (by rw [hS]; congr 2)
      have DS := Lib.hid ((gS.block g2 (Array.getElem?_eq_some_iff.1 D5.out).1 (by simp; omega)).trans D5.out)
      have BS := Lib.hid (B5.out.trans (grown_below gS B5.out.size lw3))
      have HN : Hid (∀ i, i < 4 → (fun i => if i = 1 then lt 2 else t i) i = if i < 2 then lt ((i + 1 : Nat) : Int) else ByteArray.empty) := Lib.hid (fun i hi => by
        simp only
        by_cases h1 : i = 1
        · subst h1; rw [if_pos rfl, if_pos (by omega)]; rfl
        · rw [if_neg h1, HT.out i hi]
          by_cases h2 : i < 1
          · rw [if_pos h2, if_pos (by omega)]
          · rw [if_neg h2, if_neg (by omega)])
      clear hb5 gS hS LK
      go_wp2
      go_roundw
      case rel => exact ⟨2, _, by omega, by go_num, HN, HS.out, DS.out, BS.out⟩
      case measure => simp [intOf]
    · have LK := Lib.hid (LT.out wr 3 BB.out)
      go_wp2_with fail
      refine LK.out.mono ?_
      rintro e w5 ⟨rfl, hb5⟩
      have E5 := Lib.hid ((hb5.block g3 g3lt).trans EE.out)
      have D5 := Lib.hid ((hb5.block g2 (Array.getElem?_eq_some_iff.1 DD.out).1).trans DD.out)
      have B5 := Lib.hid (thenBelow BB.out hb5)
      have k1 := (cell_of_row w5 g3 3 _ _ _ E5.out).trans (show _ = some (Value.string (t 2)) from rfl)
      have k2 := frozen_of_row w5 g3 3 _ _ E5.out
      have gS := grown_cell w5 g3 3 (.string (lt 3))
      have hS := heap_setCell_same w5 g3 3 _ _ (.string (lt 3)) E5.out
      have HS : Hid ((w5.setCell ⟨g3, 3, none⟩ (.string (lt 3))).heap[g3]? = some (.cells (dcv y.doc (fun i => if i = 2 then lt 3 else t i)) 47 (0, 0))) := Lib.hid (by rw [hS]; congr 2)
      have DS := Lib.hid ((gS.block g2 (Array.getElem?_eq_some_iff.1 D5.out).1 (by simp; omega)).trans D5.out)
      have BS := Lib.hid (B5.out.trans (grown_below gS B5.out.size lw3))
      have HN : Hid (∀ i, i < 4 → (fun i => if i = 2 then lt 3 else t i) i = if i < 3 then lt ((i + 1 : Nat) : Int) else ByteArray.empty) := Lib.hid (fun i hi => by
        simp only
        by_cases h1 : i = 2
        · subst h1; rw [if_pos rfl, if_pos (by omega)]; rfl
        · rw [if_neg h1, HT.out i hi]
          by_cases h2 : i < 2
          · rw [if_pos h2, if_pos (by omega)]
          · rw [if_neg h2, if_neg (by omega)])
      clear hb5 gS hS LK
      go_wp2
      go_roundw
      case rel => exact ⟨3, _, by omega, by go_num, HN, HS.out, DS.out, BS.out⟩
      case measure => simp [intOf]
    · have LK := Lib.hid (LT.out wr 4 BB.out)
      go_wp2_with fail
      refine LK.out.mono ?_
      rintro e w5 ⟨rfl, hb5⟩
      have E5 := Lib.hid ((hb5.block g3 g3lt).trans EE.out)
      have D5 := Lib.hid ((hb5.block g2 (Array.getElem?_eq_some_iff.1 DD.out).1).trans DD.out)
      have B5 := Lib.hid (thenBelow BB.out hb5)
      have k1 := (cell_of_row w5 g3 4 _ _ _ E5.out).trans (show _ = some (Value.string (t 3)) from rfl)
      have k2 := frozen_of_row w5 g3 4 _ _ E5.out
      have gS := grown_cell w5 g3 4 (.string (lt 4))
      have hS := heap_setCell_same w5 g3 4 _ _ (.string (lt 4)) E5.out
      have HS : Hid ((w5.setCell ⟨g3, 4, none⟩ (.string (lt 4))).heap[g3]? = some (.cells (dcv y.doc (fun i => if i = 3 then lt 4 else t i)) 47 (0, 0))) := Lib.hid (by rw [hS]; congr 2)
      have DS := Lib.hid ((gS.block g2 (Array.getElem?_eq_some_iff.1 D5.out).1 (by simp; omega)).trans D5.out)
      have BS := Lib.hid (B5.out.trans (grown_below gS B5.out.size lw3))
      have HN : Hid (∀ i, i < 4 → (fun i => if i = 3 then lt 4 else t i) i = if i < 4 then lt ((i + 1 : Nat) : Int) else ByteArray.empty) := Lib.hid (fun i hi => by
        simp only
        by_cases h1 : i = 3
        · subst h1; rw [if_pos rfl, if_pos (by omega)]; rfl
        · rw [if_neg h1, HT.out i hi]
          by_cases h2 : i < 3
          · rw [if_pos h2, if_pos (by omega)]
          · rw [if_neg h2, if_neg (by omega)])
      clear hb5 gS hS LK
      go_wp2
      go_roundw
      case rel => exact ⟨4, _, by omega, by go_num, HN, HS.out, DS.out, BS.out⟩
      case measure => simp [intOf]
    · have HV : Hid (dcv y.doc t = dcv y.doc fun i : Nat => lt ((i + 1 : Nat) : Int)) := Lib.hid (dcv_congr _ _ _ (fun i hi => by rw [HT.out i hi, if_pos hi]))
      rw [HV.out] at EE
      have RE : Hid (wr.rangeAt g3 0 (dcv y.doc fun i : Nat => lt ((i + 1 : Nat) : Int)).toList) := Lib.hid (range_of_block EE.out)
      have lw2 : w.heap.size ≤ g2 := l2
      go_wp2_with (first | refine wpList_gload rfl _ rfl g3 0 rfl _ RE.out _ Tryd.underlying47 rfl (sizeDocl _ _) ?_ | refine wpList_gstore rfl _ _ rfl g2 rfl (dcv y.doc fun i : Nat => lt ((i + 1 : Nat) : Int)) rfl _ _ DD.out (sizeDoc _ _) rfl (dcv_one _ _) ?_)
      intro w9 h9 g9
      have H9 := Lib.hid h9
      have B9 := Lib.hid (BB.out.trans (grown_below g9 BB.out.size lw2))
      clear h9 g9
      go_wp2
      exact bodyPost_ret (v := .agg (dcv y.doc fun i : Nat => lt ((i + 1 : Nat) : Int))) (results_cell_row rfl _ w9 g2 _ _ (0, 0) _ rfl H9.out Tryd.underlying47 rfl (sizeDoc _ _)) rfl ⟨rfl, B9.out⟩
/-- what Read comes to -/
def ReadR (w : World) (b : Bool) (id : ByteArray) (t : Nat → ByteArray) (e : Ending) (w' : World) : Prop := e = .returned (.tuple #[.agg (dcv id t), .bool b]) ∧ Below w.heap.size w w'
set_option maxHeartbeats 8000000 in
theorem docRead_is (F : Nat → Int) (p : Option Addr) (c : Nat) (L : List Wr) (doc : ByteArray) (y : Wr) (l : List Wr) (w : World) (h : WrsAt w p L) (ho : ∀ a, p = some a → ∃ b o, a = ⟨b, o, none⟩) (hn : L.length ≤ 10000) (hl : ofW L doc (-1) = y :: l) :
    Calls Tryd.prog 15 #[.agg (scs F (.slice p L.length c)), .string doc] w (ReadR w true y.doc (fun i => latestOf (y :: l) (i + 1 : Nat))) := by
  have OF := Lib.hid (fun (V : World) (hV : Below w.heap.size w V) => docOf_is F p c L doc (-1) V (h.below hV) ho hn)
  rw [hl] at OF
  have hln : (y :: l).length ≤ 10000 := by
    rw [← hl]; unfold ofW
    have := List.length_filter_le (fun z : Wr => !notOf doc (-1) z) L
    omega
  clear h ho hl
  go_enter Tryd.func15, Tryd.ntmps15
  go_wp2_with (refine wpList_gbox rfl _ rfl (scs F (.slice p L.length c)) rfl ?_)
  intro g2 w1 l2 h2 hb1
  have S1 : Hid (Sx w1 g2 F (.slice p L.length c)) := Lib.hid h2
  have B1 := Lib.hid hb1
  clear h2 hb1
  go_wp2_with (refine wpList_galloc _ zeroDoc rfl rfl ?_)
  intro g4 w2 l4 h4 hb2
  have S2 := Lib.hid (S1.out.later hb2); have B2 := Lib.hid (thenBelow B1.out hb2); have D2 := Lib.hid h4
  have lw4 : w.heap.size ≤ g4 := Nat.le_trans B1.out.size l4
  clear h4 hb2
  have SW := Lib.hid (S2.out.whole)
  go_wp2_with (refine wpList_gload rfl _ rfl g2 0 rfl _ SW.out _ Tryd.underlying26 rfl (sizeStl _ _) ?_)
  refine (OF.out w2 B2.out).mono ?_
  rintro e w3 ⟨v, rfl, o3, hb3⟩
  obtain ⟨p3, c3, hv, _, hw3, _⟩ := own_wat o3
  subst hv
  have B3 := Lib.hid (thenBelow B2.out hb3)
  have D3 := Lib.hid ((hb3.block g4 (Array.getElem?_eq_some_iff.1 D2.out).1).trans D2.out)
  have RO := Lib.hid (readOf_is p3 c3 y l w3 hw3 hln)
  clear o3 hb3 hw3 OF SW
  have hz : (((y :: l).length : Int) == 0) = false := beq_eq_false_iff_ne.2 (by simp; omega)
  obtain ⟨n, hn2⟩ : ∃ n, (y :: l).length = n := ⟨_, rfl⟩
  rw [hn2] at RO hz ⊢
  clear hn2 hln
  go_wp2_with fail
  refine RO.out.mono ?_
  rintro e w4 ⟨rfl, hb4⟩
  have D4 := Lib.hid ((hb4.block g4 (Array.getElem?_eq_some_iff.1 D3.out).1).trans D3.out)
  have B4 := Lib.hid (thenBelow B3.out hb4)
  clear hb4
  obtain ⟨t, ht⟩ : ∃ t : Nat → ByteArray, (fun i : Nat => latestOf (y :: l) (i + 1 : Nat)) = t := ⟨_, rfl⟩
  rw [ht]
  go_wp2_with (refine wpList_gstore rfl _ _ rfl g4 rfl (dcv y.doc t) rfl _ _ D4.out (sizeDoc _ _) rfl (dcv_one _ _) ?_)
  intro w9 h9 g9
  have H9 := Lib.hid h9
  have B9 := Lib.hid (B4.out.trans (grown_below g9 B4.out.size lw4))
  clear h9 g9
  go_wp2
  exact bodyPost_ret (v := .tuple #[.agg (dcv y.doc t), .bool true]) (results_cell_two (p := 4) (q := 5) rfl _ w9 g4 _ _ (0, 0) _ rfl H9.out Tryd.underlying47 rfl (sizeDoc _ _) (.bool true) rfl) rfl ⟨by rw [ht], B9.out⟩
end Go.Proofs.YtdnkhcbglmfjbaaDoor
