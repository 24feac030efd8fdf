/- The statement DocsBack, proved for every input that its row reads: part 6 of 6. -/
import Derived.ProofKit
import Derived.LaidMore
import Derived.Lib.LaidTab
import Derived.ChangeSame
import Derived.Deep.Slices
import Derived.Test.YtjmglgcifekhgaaDoorRows
import Derived.Deep.DeepHandedRow
import Derived.Test.YtjmglgcifekhgaaDoorCards
import Derived.Test.YtjmglgcifekhgaaDoorTie
import Derived.LaidLaws
import Derived.JoinedCond
import Derived.Test.YtjmglgcifekhgaaDoorPackDocsBack5
/- docs.Of, latest: a state's writes of a document, of a field; what was written last. -/
namespace Go.Proofs.YtjmglgcifekhgaaDoor
open Go Go.RowKit
set_option linter.unusedVariables false
set_option maxRecDepth 1000000

/-- is it not of a document, or not of a field? -/
def notOf (doc : ByteArray) (field : Int) (y : Wr) : Bool := !(y.doc.toList == doc.toList) || (decide (field ≥ 0) && (y.field != field))
def OfIn (G H : Nat) (doc : ByteArray) (field : Int) (w : World) : Prop := w.cell? ⟨G, 0, none⟩ = some (.string doc) ∧ w.cell? ⟨H, 0, none⟩ = some (.int .i64 field)
set_option maxHeartbeats 4000000 in
theorem of_tell (G H : Nat) (doc : ByteArray) (field : Int) (y : Wr) (w : World) (h : OfIn G H doc field w) : Calls Tryd.prog 77 #[.agg y.cells.toArray, .pointer (some ⟨G, 0, none⟩), .pointer (some ⟨H, 0, none⟩)] w (RetBool w (notOf doc field y)) := by
  obtain ⟨h1, h2⟩ := h
  obtain ⟨b, hb⟩ : ∃ b, notOf doc field y = b := ⟨_, rfl⟩
  rw [hb]
  unfold notOf at hb
  obtain ⟨r, n, t, d, fl, tx⟩ := y
  simp only at hb
  show Calls Tryd.prog 77 #[.agg #[.int .i64 r, .int .i64 n, .int .i64 t, .string d, .int .i64 fl, .string tx], .pointer (some ⟨G, 0, none⟩), .pointer (some ⟨H, 0, none⟩)] w _
  have bA := below_alloc w (.cells #[.int .i64 r, .int .i64 n, .int .i64 t, .string d, .int .i64 fl, .string tx] 50)
  have h1' := cell_hold2 h1 bA; have h2' := cell_hold2 h2 bA
  have BA := Lib.hid bA
  clear h1 h2 bA
  cases e1 : (d.toList == doc.toList) with
  | false =>
    rw [e1] at hb
    simp only [Bool.not_false, Bool.true_or] at hb
    subst hb
    go_enter Tryd.func77, Tryd.ntmps77
    go_wp2
    go_ret
    exact ⟨rfl, BA.out⟩
  | true =>
    rw [e1] at hb
    simp only [Bool.not_true, Bool.false_or] at hb
    by_cases h0 : field ≥ 0
    · rw [decide_eq_true h0, Bool.true_and] at hb
      by_cases hf : fl = field
      · subst hf
        have hb' : false = b := by rw [← hb]; simp
        subst hb'
        clear hb
        go_enter Tryd.func77, Tryd.ntmps77
        go_wp2
        go_ret
        exact ⟨rfl, BA.out⟩
      · have hf' : (fl != field) = true := by simp [hf]
        rw [hf'] at hb
        subst hb
        go_enter Tryd.func77, Tryd.ntmps77
        go_wp2
        go_ret
        exact ⟨rfl, BA.out⟩
    · rw [decide_eq_false h0, Bool.false_and] at hb
      subst hb
      go_enter Tryd.func77, Tryd.ntmps77
      go_wp2
      go_ret
      exact ⟨rfl, BA.out⟩
theorem of_enter (args : Array Value) (w : World) : (callFunc 77 args).run Tryd.prog w = .ok (.enter 77 args) w := by kernel_rfl
theorem of_tells (G H : Nat) (doc : ByteArray) (field : Int) (B : Nat) (w0 : World) (h : OfIn G H doc field w0) (hB : B = w0.heap.size) : TellW 77 #[.pointer (some ⟨G, 0, none⟩), .pointer (some ⟨H, 0, none⟩)] (notOf doc field) B (fun w => Below B w0 w) where
  enter := of_enter
  tell := fun y w hw => of_tell G H doc field y w (by subst hB; exact ⟨cell_hold2 h.1 hw, cell_hold2 h.2 hw⟩)
  keep := fun w w' h1 h2 => h1.trans h2
/-- a state's writes of a document (of a field) -/
def ofW (L : List Wr) (doc : ByteArray) (field : Int) : List Wr := L.filter (fun y => !notOf doc field y)
set_option maxHeartbeats 4000000 in
theorem docOf_is (F : Nat → Int) (p : Option Addr) (c : Nat) (L : List Wr) (doc : ByteArray) (field : Int) (w : World) (h : WrsAt w p L) (ho : ∀ a, p = some a → ∃ b o, a = ⟨b, o, none⟩) (hn : L.length ≤ 10000) :
    Calls Tryd.prog 52 #[.agg (scs F (.slice p L.length c)), .string doc, .int .i64 field] w (LeftW w (ofW L doc field)) := by
  have HW := Lib.hid h; have HP := Lib.hid ho
  clear h ho
  go_enter Tryd.func52, Tryd.ntmps52
  go_wp2_with (refine wpList_gbox rfl _ rfl (scs F (.slice p L.length c)) rfl ?_)
  intro g2 w1 l2 h2 hb1
  have S1 : Hid (Sx w1 g2 F (.slice p L.length c)) := Lib.hid h2
  have B1 := Lib.hid hb1
  clear h2 hb1
  have ba := below_alloc w1 (.cells #[.string doc] 9)
  have bb := below_alloc (w1.alloc (.cells #[.string doc] 9)) (.cells #[.int .i64 field] 3)
  have na := heap_alloc_new w1 (.cells #[.string doc] 9)
  have nb := heap_alloc_new (w1.alloc (.cells #[.string doc] 9)) (.cells #[.int .i64 field] 3)
  have S3 := Lib.hid ((S1.out.later (thenBelow ba bb)).slot)
  have B3 := Lib.hid (thenBelow B1.out (thenBelow ba bb))
  have OI : OfIn w1.heap.size (w1.heap.size + 1) doc field ((w1.alloc (.cells #[.string doc] 9)).alloc (.cells #[.int .i64 field] 3)) :=
    ⟨(cell_of_row _ _ 0 _ _ _ ((bb.block _ (Array.getElem?_eq_some_iff.1 na).1).trans na)).trans rfl, (cell_of_row _ _ 0 _ _ _ (by simpa [World.size_alloc] using nb)).trans rfl⟩
  have WO := Lib.hid (withoutW_is 77 #[.pointer (some ⟨w1.heap.size, 0, none⟩), .pointer (some ⟨w1.heap.size + 1, 0, none⟩)] (notOf doc field) (fun U => Below ((w1.alloc (.cells #[.string doc] 9)).alloc (.cells #[.int .i64 field] 3)).heap.size ((w1.alloc (.cells #[.string doc] 9)).alloc (.cells #[.int .i64 field] 3)) U) p c L _ (of_tells _ _ doc field _ _ OI rfl) (Below.refl _ _) (HW.out.below B3.out) HP.out hn)
  clear ba bb na nb OI
  have s3 := S3.out
  go_wp2_with fail
  refine WO.out.mono ?_
  rintro e w4 ⟨v, rfl, h1, h2⟩
  have O4 := Lib.hid (own_base h1 B3.out.size); have B4 := Lib.hid (thenBelow B3.out h2)
  clear h1 h2 WO
  go_wp2
  go_ret
  exact ⟨v, rfl, O4.out, B4.out⟩
def noWr : Wr := ⟨0, 0, 0, ByteArray.empty, 0, ByteArray.empty⟩
/-- what was written last, going through writes -/
def stepL (field : Int) (s : Wr × Bool) (y : Wr) : Wr × Bool := if y.field = field ∧ (s.2 = false ∨ cmpT y s.1 ≥ 0) then (y, true) else s
def lastL (l : List Wr) (field : Int) : Wr × Bool := l.foldl (stepL field) (noWr, false)
theorem lastL_take (l : List Wr) (field : Int) (k : Nat) (h : k < l.length) : lastL (l.take (k + 1)) field = stepL field (lastL (l.take k) field) l[k] := by
  unfold lastL
  rw [List.take_succ_eq_append_getElem h, List.foldl_append]; rfl
def latestOf (l : List Wr) (field : Int) : ByteArray := (lastL l field).1.text
set_option maxHeartbeats 8000000 in
theorem latest_is (p : Option Addr) (c : Nat) (l : List Wr) (field : Int) (w : World) (h : WrsAt w p l) (hn : l.length ≤ 10000) :
    Calls Tryd.prog 78 #[.slice p l.length c, .int .i64 field] w fun e w' => e = .returned (.string (latestOf l field)) ∧ Below w.heap.size w w' := by
  have HW := Lib.hid h
  clear h
  go_enter Tryd.func78, Tryd.ntmps78
  go_wp2_with (refine wpList_galloc _ (fun w => show (zeroValue 50).run Tryd.prog w = .ok (.agg noWr.cells.toArray) w by kernel_rfl) rfl rfl ?_)
  intro g5 w1 l5 h5 hb1
  have B1 := Lib.hid hb1
  have N1 : Hid (w1.heap[g5]? = some (.cells noWr.cells.toArray 50 (0, 0))) := Lib.hid h5
  have lw5 : w.heap.size ≤ g5 := l5
  clear hb1 h5 l5
  go_wp2
  go_loopw [6, 11] (fun fd i wr => ∃ (k : Nat) (last : Wr) (f : Bool), k ≤ l.length ∧ i = .int .i64 k ∧ fd = .bool f ∧ Hid ((last, f) = lastL (l.take k) field) ∧ wr.heap[g5]? = some (.cells last.cells.toArray 50 (0, 0)) ∧ Below w.heap.size w wr) (fun _ i _ => l.length - (intOf i).toNat)
  case atStart => exact ⟨0, noWr, false, Nat.zero_le _, rfl, rfl, Lib.hid rfl, N1.out, B1.out⟩
  case round =>
    obtain ⟨k, last, f, hk, rfl, rfl, HLS, hg5, hb⟩ := hrel
    have H5 := Lib.hid hg5; have BB := Lib.hid hb
    clear hg5 hb
    by_cases hkl : k < l.length
    · have hkl' : (k : Int) < l.length := by omega
      obtain ⟨b, o, rfl, hlt, hr⟩ := (HW.out.below BB.out).at hkl
      obtain ⟨c0, c1, c2, c3, c4, c5⟩ := wr_cells hr
      have HS := Lib.hid (lastL_take l field k hkl)
      rw [← HLS.out] at HS
      clear hr hlt
      obtain ⟨y, hy⟩ : ∃ y, l[k] = y := ⟨_, rfl⟩
      rw [hy] at c0 c1 c2 c3 c4 c5 HS
      clear hy
      obtain ⟨r, n, t, d, fl, tx⟩ := y
      simp only at c0 c1 c2 c3 c4 c5
      have ba := below_alloc wr (.cells #[.int .i64 r, .int .i64 n, .int .i64 t, .string d, .int .i64 fl, .string tx] 50)
      have H6 := Lib.hid ((ba.block g5 (Array.getElem?_eq_some_iff.1 H5.out).1).trans H5.out)
      have BA := Lib.hid (thenBelow BB.out ba)
      have ST := Lib.hid (stCompare_is ⟨r, n, t, d, fl, tx⟩ last (wr.alloc (.cells #[.int .i64 r, .int .i64 n, .int .i64 t, .string d, .int .i64 fl, .string tx] 50)))
      have rl : (wr.alloc (.cells #[.int .i64 r, .int .i64 n, .int .i64 t, .string d, .int .i64 fl, .string tx] 50)).rangeAt g5 0 last.cells := by simpa using range_of_block H6.out
      obtain ⟨a0, a1, a2, a3, a4, a5⟩ := wr_cells rl
      simp only [Nat.zero_add] at a0 a1 a2 a3 a4 a5
      clear ba rl
      by_cases hf : fl = field
      · subst hf
        cases f with
        | false =>
          have HN : Hid (((⟨r, n, t, d, fl, tx⟩ : Wr), true) = lastL (l.take (k + 1)) fl) := Lib.hid (by rw [HS.out]; unfold stepL; rw [if_pos ⟨rfl, .inl rfl⟩])
          clear ST HS
          go_wp2_with (refine wpList_gstore rfl _ _ rfl g5 rfl (Wr.cells ⟨r, n, t, d, fl, tx⟩).toArray rfl _ _ H6.out (by rw [List.size_toArray]; exact sizeWr _) rfl (fun v hv => Wr.cells_one _ v (by simpa using hv)) ?_)
          intro w9 h9 g9
          have H9 := Lib.hid h9
          have B9 := Lib.hid (BA.out.trans (grown_below g9 BA.out.size lw5))
          clear h9 g9
          go_wp2
          go_roundw
          case rel => exact ⟨k + 1, ⟨r, n, t, d, fl, tx⟩, true, by omega, by go_num, rfl, HN, H9.out, B9.out⟩
          case measure => simp [intOf]; omega
        | true =>
          obtain ⟨cm, hcm⟩ : ∃ cm, cmpT ⟨r, n, t, d, fl, tx⟩ last = cm := ⟨_, rfl⟩
          rw [hcm] at ST
          have HCM := Lib.hid hcm
          clear hcm
          obtain ⟨lr, ln, lt, ld, lf, lx⟩ := last
          simp only [Wr.cells] at a0 a1 a2 a3 a4 a5 ST
          go_wp2_with fail
          refine ST.out.mono ?_
          rintro e w7 ⟨rfl, hb7⟩
          have H7 := Lib.hid ((hb7.block g5 (Array.getElem?_eq_some_iff.1 H6.out).1).trans H6.out)
          have B7 := Lib.hid (thenBelow BA.out hb7)
          have n8 := (hb7.block _ (Array.getElem?_eq_some_iff.1 (heap_alloc_new wr (.cells #[.int .i64 r, .int .i64 n, .int .i64 t, .string d, .int .i64 fl, .string tx] 50))).1).trans (heap_alloc_new wr (.cells #[.int .i64 r, .int .i64 n, .int .i64 t, .string d, .int .i64 fl, .string tx] 50))
          have y0 := (cell_of_row w7 wr.heap.size 0 _ _ _ n8).trans (show _ = some (Value.int .i64 r) from rfl)
          have y1 := (cell_of_row w7 wr.heap.size 1 _ _ _ n8).trans (show _ = some (Value.int .i64 n) from rfl)
          have y2 := (cell_of_row w7 wr.heap.size 2 _ _ _ n8).trans (show _ = some (Value.int .i64 t) from rfl)
          have y3 := (cell_of_row w7 wr.heap.size 3 _ _ _ n8).trans (show _ = some (Value.string d) from rfl)
          have y4 := (cell_of_row w7 wr.heap.size 4 _ _ _ n8).trans (show _ = some (Value.int .i64 fl) from rfl)
          have y5 := (cell_of_row w7 wr.heap.size 5 _ _ _ n8).trans (show _ = some (Value.string tx) from rfl)
          clear hb7 ST a0 a1 a2 a3 a4 a5 c0 c1 c2 c3 c4 c5 n8
          by_cases h0 : cm ≥ 0
          · have HN : Hid (((⟨r, n, t, d, fl, tx⟩ : Wr), true) = lastL (l.take (k + 1)) fl) := Lib.hid (by rw [HS.out]; unfold stepL; rw [if_pos ⟨rfl, .inr (by simp only; rw [HCM.out]; exact h0)⟩])
            clear HS
            go_wp2_with (refine wpList_gstore rfl _ _ rfl g5 rfl (Wr.cells ⟨r, n, t, d, fl, tx⟩).toArray rfl _ _ H7.out (by rw [List.size_toArray]; exact sizeWr _) rfl (fun v hv => Wr.cells_one _ v (by simpa using hv)) ?_)
            intro w9 h9 g9
            have H9 := Lib.hid h9
            have B9 := Lib.hid (B7.out.trans (grown_below g9 B7.out.size lw5))
            clear h9 g9
            go_wp2
            go_roundw
            case rel => exact ⟨k + 1, ⟨r, n, t, d, fl, tx⟩, true, by omega, by go_num, rfl, HN, H9.out, B9.out⟩
            case measure => simp [intOf]; omega
          · have HN : Hid (((⟨lr, ln, lt, ld, lf, lx⟩ : Wr), true) = lastL (l.take (k + 1)) fl) := Lib.hid (by rw [HS.out]; unfold stepL; rw [if_neg (fun h => by rcases h.2 with h | h; cases h; rw [HCM.out] at h; exact h0 h)])
            clear HS
            go_wp2
            go_roundw
            case rel => exact ⟨k + 1, ⟨lr, ln, lt, ld, lf, lx⟩, true, by omega, by go_num, rfl, HN, H7.out, B7.out⟩
            case measure => simp [intOf]; omega
      · have hf' : (fl == field) = false := by simp [hf]
        have HN : Hid ((last, f) = lastL (l.take (k + 1)) field) := Lib.hid (by rw [HS.out]; unfold stepL; rw [if_neg (fun h => hf h.1)])
        clear ST HS a0 a1 a2 a3 a4 a5
        go_wp2
        go_roundw
        case rel => exact ⟨k + 1, last, f, by omega, by go_num, rfl, HN, H6.out, BA.out⟩
        case measure => simp [intOf]; omega
    · obtain rfl : k = l.length := by omega
      have hkl' : ¬ ((l.length : Nat) : Int) < l.length := by omega
      have HT : Hid (last.text = latestOf l field) := Lib.hid (by unfold latestOf; have := HLS.out; rw [List.take_length] at this; rw [← this])
      have c5 := (wr_cells (x := last) (o := 0) (by simpa using range_of_block H5.out)).2.2.2.2.2
      simp only [Nat.zero_add] at c5
      go_wp2
      go_ret
      exact ⟨by rw [← HT.out]; rfl, BB.out⟩
set_option maxRecDepth 1000000

/-- a document's cells -/
def dcv (id : ByteArray) (t : Nat → ByteArray) : Array Value := #[.string id, .string (t 0), .string (t 1), .string (t 2), .string (t 3)]
theorem dcv_one (id : ByteArray) (t : Nat → ByteArray) : ∀ u ∈ (dcv id t).toList, u.oneCell' = true := by
  intro u hu
  simp [dcv] at hu
  rcases hu with rfl | rfl | rfl | rfl | rfl <;> rfl
theorem sizeDoc (id : ByteArray) (t : Nat → ByteArray) : (Tryd.prog.info? 58).map (·.size) = some (dcv id t).size := by kernel_rfl
theorem sizeDocl (id : ByteArray) (t : Nat → ByteArray) : (Tryd.prog.info? 58).map (·.size) = some (dcv id t).toList.length := by kernel_rfl
theorem zeroDoc (w : World) : (zeroValue 58).run Tryd.prog w = .ok (.agg (dcv ByteArray.empty fun _ => ByteArray.empty)) w := by kernel_rfl
theorem builtDoc (id : ByteArray) (w : World) : (Instr.build 58 #[(0, .string id)]).run Tryd.prog w = .ok (.agg (dcv id fun _ => ByteArray.empty)) w := run_build w _ _ _ (by kernel_rfl)
theorem builtDoc0 (w : World) : (Instr.build 58 #[]).run Tryd.prog w = .ok (.agg (dcv ByteArray.empty fun _ => ByteArray.empty)) w := run_build w _ _ _ (by kernel_rfl)
def DocR (w : World) (id : ByteArray) (t : Nat → ByteArray) (e : Ending) (w' : World) : Prop := e = .returned (.agg (dcv id t)) ∧ Below w.heap.size w w'
theorem dcv_set (id : ByteArray) (t t' : Nat → ByteArray) (k : Nat) (x : ByteArray) (hk : k < 4) (h : ∀ i, i < 4 → t' i = if i = k then x else t i) : (dcv id t).setIfInBounds (k + 1) (.string x) = dcv id t' := by
  unfold dcv
  rw [h 0 (by omega), h 1 (by omega), h 2 (by omega), h 3 (by omega)]
  match k, hk with
  | 0, _ => rfl
  | 1, _ => rfl
  | 2, _ => rfl
  | 3, _ => rfl
theorem dcv_congr (id : ByteArray) (t t' : Nat → ByteArray) (h : ∀ i, i < 4 → t i = t' i) : dcv id t = dcv id t' := by
  unfold dcv; rw [h 0 (by omega), h 1 (by omega), h 2 (by omega), h 3 (by omega)]
set_option maxHeartbeats 8000000 in
theorem readOf_is (p : Option Addr) (c : Nat) (y : Wr) (l : List Wr) (w : World) (h : WrsAt w p (y :: l)) (hn : (y :: l).length ≤ 10000) :
    Calls Tryd.prog 53 #[.slice p (y :: l).length c] w (DocR w y.doc (fun i => latestOf (y :: l) (i + 1 : Nat))) := by
  have HW := Lib.hid h
  have LT : Hid (∀ (V : World) (k : Int), Below w.heap.size w V → Calls Tryd.prog 78 #[.slice p (y :: l).length c, .int .i64 k] V fun e w' => e = .returned (.string (latestOf (y :: l) k)) ∧ Below V.heap.size V w') := Lib.hid fun V k hV => latest_is p c (y :: l) k V (h.below hV) hn
  obtain ⟨b, o, hp, hlt, hr⟩ := h.at (show 0 < (y :: l).length by simp)
  subst hp
  have HR := Lib.hid hr
  have hpos : (0 : Int) < ((y :: l).length : Int) := by simp only [List.length_cons]; omega
  obtain ⟨lt, hltt⟩ : ∃ lt : Int → ByteArray, (fun k => latestOf (y :: l) k) = lt := ⟨_, rfl⟩
  have LT : Hid (∀ (V : World) (k : Int), Below w.heap.size w V → Calls Tryd.prog 78 #[.slice (some ⟨b, o, none⟩) (y :: l).length c, .int .i64 k] V fun e w' => e = .returned (.string (lt k)) ∧ Below V.heap.size V w') := by rw [← hltt]; exact LT
  have HLT : Hid ((fun i : Nat => latestOf (y :: l) (i + 1 : Nat)) = fun i : Nat => lt ((i + 1 : Nat) : Int)) := Lib.hid (by rw [← hltt])
  obtain ⟨n, hn2⟩ : ∃ n, (y :: l).length = n := ⟨_, rfl⟩
  rw [HLT.out]
  rw [hn2] at LT hpos hn ⊢
  clear h hlt hr hn2 hltt HLT
  go_enter Tryd.func53, Tryd.ntmps53
  go_wp2_with (refine wpList_galloc _ zeroDoc rfl rfl ?_)
  intro g2 w1 l2 h2 hb1
  have B1 := Lib.hid hb1
  have D1 := Lib.hid h2
  clear h2 hb1
  obtain ⟨c0, c1, c2, c3, c4, c5⟩ := wr_cells (range_below HR.out B1.out)
  simp only [Nat.zero_mul, Nat.add_zero] at c0 c1 c2 c3 c4 c5
  simp only [List.getElem_cons_zero] at c3
  clear c0 c1 c2 c4 c5
  go_wp2_with (first | refine wpList_pbuild (by rfl) _ rfl (dcv y.doc fun _ => ByteArray.empty) (by simp only [List.map_toArray, List.map_cons, List.map_nil]; exact builtDoc _ _) ?_ | refine wpList_galloc _ zeroDoc rfl rfl ?_)
  intro g3 w2 l3 h3 hb2
  have B2 := Lib.hid (thenBelow B1.out hb2)
  have D2 := Lib.hid ((hb2.block g2 (Array.getElem?_eq_some_iff.1 D1.out).1).trans D1.out)
  have E2 := Lib.hid h3
  have n23 : g2 < g3 := Nat.lt_of_lt_of_le (Array.getElem?_eq_some_iff.1 D1.out).1 l3
  have lw3 : w.heap.size ≤ g3 := Nat.le_trans B1.out.size l3
  clear h3 hb2 c3
  go_wp2_with (refine wpList_gstore rfl _ _ rfl g3 rfl (dcv y.doc fun _ => ByteArray.empty) rfl _ _ E2.out (sizeDoc _ _) rfl (dcv_one _ _) ?_)
  intro w3 h3 g3'
  have B3 := Lib.hid (B2.out.trans (grown_below g3' B2.out.size lw3))
  have D3 := Lib.hid ((g3'.block g2 (Array.getElem?_eq_some_iff.1 D2.out).1 (by simp; omega)).trans D2.out)
  have E3 := Lib.hid h3
  clear h3 g3' E2 D2
  go_wp2
  go_loopw [10] (fun i wr => ∃ (k : Nat) (t : Nat → ByteArray), k ≤ 4 ∧ i = .int .i64 k ∧ Hid (∀ i, i < 4 → t i = if i < k then lt ((i + 1 : Nat) : Int) else ByteArray.empty) ∧ wr.heap[g3]? = some (.cells (dcv y.doc t) 58 (0, 0)) ∧ wr.heap[g2]? = some (.cells (dcv ByteArray.empty fun _ => ByteArray.empty) 58 (0, 0)) ∧ Below w.heap.size w wr) (fun i _ => 4 - (intOf i).toNat)
  case atStart => exact ⟨0, fun _ => ByteArray.empty, by omega, rfl, Lib.hid (fun i hi => by rw [if_neg (by omega)]), E3.out, D3.out, B3.out⟩
  case round =>
    obtain ⟨k, t, hk, rfl, HT, e3, d3, hb⟩ := hrel
    have EE := Lib.hid e3; have DD := Lib.hid d3; have BB := Lib.hid hb
    clear e3 d3 hb
    have g3lt := (Array.getElem?_eq_some_iff.1 EE.out).1
    rcases (show k = 0 ∨ k = 1 ∨ k = 2 ∨ k = 3 ∨ k = 4 by omega) with rfl | rfl | rfl | rfl | rfl
    · have LK := Lib.hid (LT.out wr 1 BB.out)
      go_wp2_with fail
      refine LK.out.mono ?_
      rintro e w5 ⟨rfl, hb5⟩
      have E5 := Lib.hid ((hb5.block g3 g3lt).trans EE.out)
      have D5 := Lib.hid ((hb5.block g2 (Array.getElem?_eq_some_iff.1 DD.out).1).trans DD.out)
      have B5 := Lib.hid (thenBelow BB.out hb5)
      have k1 := (cell_of_row w5 g3 1 _ _ _ E5.out).trans (show _ = some (Value.string (t 0)) from rfl)
      have k2 := frozen_of_row w5 g3 1 _ _ E5.out
      have gS := grown_cell w5 g3 1 (.string (lt 1))
      have hS := heap_setCell_same w5 g3 1 _ _ (.string (lt 1)) E5.out
      have HS : Hid ((w5.setCell ⟨g3, 1, none⟩ (.string (lt 1))).heap[g3]? = some (.cells (dcv y.doc (fun i => if i = 0 then lt 1 else t i)) 58 (0, 0))) := Lib.hid (by rw [hS]; congr 2)
      have DS := Lib.hid ((gS.block g2 (Array.getElem?_eq_some_iff.1 D5.out).1 (by simp; omega)).trans D5.out)
      have BS := Lib.hid (B5.out.trans (grown_below gS B5.out.size lw3))
      have HN : Hid (∀ i, i < 4 → (fun i => if i = 0 then lt 1 else t i) i = if i < 1 then lt ((i + 1 : Nat) : Int) else ByteArray.empty) := Lib.hid (fun i hi => by
        simp only
        by_cases h1 : i = 0
        · subst h1; rw [if_pos rfl, if_pos (by omega)]; rfl
        · rw [if_neg h1, HT.out i hi]
          by_cases h2 : i < 0
          · rw [if_pos h2, if_pos (by omega)]
          · rw [if_neg h2, if_neg (by omega)])
      clear hb5 gS hS LK
      go_wp2
      go_roundw
      case rel => exact ⟨1, _, by omega, by go_num, HN, HS.out, DS.out, BS.out⟩
      case measure => simp [intOf]
    · have LK := Lib.hid (LT.out wr 2 BB.out)
      go_wp2_with fail
      refine LK.out.mono ?_
      rintro e w5 ⟨rfl, hb5⟩
      have E5 := Lib.hid ((hb5.block g3 g3lt).trans EE.out)
      have D5 := Lib.hid ((hb5.block g2 (Array.getElem?_eq_some_iff.1 DD.out).1).trans DD.out)
      have B5 := Lib.hid (thenBelow BB.out hb5)
      have k1 := (cell_of_row w5 g3 2 _ _ _ E5.out).trans (show _ = some (Value.string (t 1)) from rfl)
      have k2 := frozen_of_row w5 g3 2 _ _ E5.out
      have gS := grown_cell w5 g3 2 (.string (lt 2))
      have hS := heap_setCell_same w5 g3 2 _ _ (.string (lt 2)) E5.out
      have HS : Hid ((w5.setCell ⟨g3, 2, none⟩ (.string (lt 2))).heap[g3]? = some (.cells (dcv y.doc (fun i => if i = 1 then lt 2 else t i)) 58 (0, 0))) := Lib.hid (by rw [hS]; congr 2)
      have DS := Lib.hid ((gS.block g2 (Array.getElem?_eq_some_iff.1 D5.out).1 (by simp; omega)).trans D5.out)
      have BS := Lib.hid (B5.out.trans (grown_below gS B5.out.size lw3))
      have HN : Hid (∀ i, i < 4 → (fun i => if i = 1 then lt 2 else t i) i = if i < 2 then lt ((i + 1 : Nat) : Int) else ByteArray.empty) := Lib.hid (fun i hi => by
        simp only
        by_cases h1 : i = 1
        · subst h1; rw [if_pos rfl, if_pos (by omega)]; rfl
        · rw [if_neg h1, HT.out i hi]
          by_cases h2 : i < 1
          · rw [if_pos h2, if_pos (by omega)]
          · rw [if_neg h2, if_neg (by omega)])
      clear hb5 gS hS LK
      go_wp2
      go_roundw
      case rel => exact ⟨2, _, by omega, by go_num, HN, HS.out, DS.out, BS.out⟩
      case measure => simp [intOf]
    · have LK := Lib.hid (LT.out wr 3 BB.out)
      go_wp2_with fail
      refine LK.out.mono ?_
      rintro e w5 ⟨rfl, hb5⟩
      have E5 := Lib.hid ((hb5.block g3 g3lt).trans EE.out)
      have D5 := Lib.hid ((hb5.block g2 (Array.getElem?_eq_some_iff.1 DD.out).1).trans DD.out)
      have B5 := Lib.hid (thenBelow BB.out hb5)
      have k1 := (cell_of_row w5 g3 3 _ _ _ E5.out).trans (show _ = some (Value.string (t 2)) from rfl)
      have k2 := frozen_of_row w5 g3 3 _ _ E5.out
      have gS := grown_cell w5 g3 3 (.string (lt 3))
      have hS := heap_setCell_same w5 g3 3 _ _ (.string (lt 3)) E5.out
      have HS : Hid ((w5.setCell ⟨g3, 3, none⟩ (.string (lt 3))).heap[g3]? = some (.cells (dcv y.doc (fun i => if i = 2 then lt 3 else t i)) 58 (0, 0))) := Lib.hid (by rw [hS]; congr 2)
      have DS := Lib.hid ((gS.block g2 (Array.getElem?_eq_some_iff.1 D5.out).1 (by simp; omega)).trans D5.out)
      have BS := Lib.hid (B5.out.trans (grown_below gS B5.out.size lw3))
      have HN : Hid (∀ i, i < 4 → (fun i => if i = 2 then lt 3 else t i) i = if i < 3 then lt ((i + 1 : Nat) : Int) else ByteArray.empty) := Lib.hid (fun i hi => by
        simp only
        by_cases h1 : i = 2
        · subst h1; rw [if_pos rfl, if_pos (by omega)]; rfl
        · rw [if_neg h1, HT.out i hi]
          by_cases h2 : i < 2
          · rw [if_pos h2, if_pos (by omega)]
          · rw [if_neg h2, if_neg (by omega)])
      clear hb5 gS hS LK
      go_wp2
      go_roundw
      case rel => exact ⟨3, _, by omega, by go_num, HN, HS.out, DS.out, BS.out⟩
      case measure => simp [intOf]
    · have LK := Lib.hid (LT.out wr 4 BB.out)
      go_wp2_with fail
      refine LK.out.mono ?_
      rintro e w5 ⟨rfl, hb5⟩
      have E5 := Lib.hid ((hb5.block g3 g3lt).trans EE.out)
      have D5 := Lib.hid ((hb5.block g2 (Array.getElem?_eq_some_iff.1 DD.out).1).trans DD.out)
      have B5 := Lib.hid (thenBelow BB.out hb5)
      have k1 := (cell_of_row w5 g3 4 _ _ _ E5.out).trans (show _ = some (Value.string (t 3)) from rfl)
      have k2 := frozen_of_row w5 g3 4 _ _ E5.out
      have gS := grown_cell w5 g3 4 (.string (lt 4))
      have hS := heap_setCell_same w5 g3 4 _ _ (.string (lt 4)) E5.out
      have HS : Hid ((w5.setCell ⟨g3, 4, none⟩ (.string (lt 4))).heap[g3]? = some (.cells (dcv y.doc (fun i => if i = 3 then lt 4 else t i)) 58 (0, 0))) := Lib.hid (by rw [hS]; congr 2)
      have DS := Lib.hid ((gS.block g2 (Array.getElem?_eq_some_iff.1 D5.out).1 (by simp; omega)).trans D5.out)
      have BS := Lib.hid (B5.out.trans (grown_below gS B5.out.size lw3))
      have HN : Hid (∀ i, i < 4 → (fun i => if i = 3 then lt 4 else t i) i = if i < 4 then lt ((i + 1 : Nat) : Int) else ByteArray.empty) := Lib.hid (fun i hi => by
        simp only
        by_cases h1 : i = 3
        · subst h1; rw [if_pos rfl, if_pos (by omega)]; rfl
        · rw [if_neg h1, HT.out i hi]
          by_cases h2 : i < 3
          · rw [if_pos h2, if_pos (by omega)]
          · rw [if_neg h2, if_neg (by omega)])
      clear hb5 gS hS LK
      go_wp2
      go_roundw
      case rel => exact ⟨4, _, by omega, by go_num, HN, HS.out, DS.out, BS.out⟩
      case measure => simp [intOf]
    · have HV : Hid (dcv y.doc t = dcv y.doc fun i : Nat => lt ((i + 1 : Nat) : Int)) := Lib.hid (dcv_congr _ _ _ (fun i hi => by rw [HT.out i hi, if_pos hi]))
      rw [HV.out] at EE
      have RE : Hid (wr.rangeAt g3 0 (dcv y.doc fun i : Nat => lt ((i + 1 : Nat) : Int)).toList) := Lib.hid (range_of_block EE.out)
      have lw2 : w.heap.size ≤ g2 := l2
      go_wp2_with (first | refine wpList_gload rfl _ rfl g3 0 rfl _ RE.out _ Tryd.underlying58 rfl (sizeDocl _ _) ?_ | refine wpList_gstore rfl _ _ rfl g2 rfl (dcv y.doc fun i : Nat => lt ((i + 1 : Nat) : Int)) rfl _ _ DD.out (sizeDoc _ _) rfl (dcv_one _ _) ?_)
      intro w9 h9 g9
      have H9 := Lib.hid h9
      have B9 := Lib.hid (BB.out.trans (grown_below g9 BB.out.size lw2))
      clear h9 g9
      go_wp2
      exact bodyPost_ret (v := .agg (dcv y.doc fun i : Nat => lt ((i + 1 : Nat) : Int))) (results_cell_row rfl _ w9 g2 _ _ (0, 0) _ rfl H9.out Tryd.underlying58 rfl (sizeDoc _ _)) rfl ⟨rfl, B9.out⟩
/-- what Read comes to -/
def ReadR (w : World) (b : Bool) (id : ByteArray) (t : Nat → ByteArray) (e : Ending) (w' : World) : Prop := e = .returned (.tuple #[.agg (dcv id t), .bool b]) ∧ Below w.heap.size w w'
set_option maxHeartbeats 8000000 in
theorem docRead_is (F : Nat → Int) (p : Option Addr) (c : Nat) (L : List Wr) (doc : ByteArray) (y : Wr) (l : List Wr) (w : World) (h : WrsAt w p L) (ho : ∀ a, p = some a → ∃ b o, a = ⟨b, o, none⟩) (hn : L.length ≤ 10000) (hl : ofW L doc (-1) = y :: l) :
    Calls Tryd.prog 23 #[.agg (scs F (.slice p L.length c)), .string doc] w (ReadR w true y.doc (fun i => latestOf (y :: l) (i + 1 : Nat))) := by
  have OF := Lib.hid (fun (V : World) (hV : Below w.heap.size w V) => docOf_is F p c L doc (-1) V (h.below hV) ho hn)
  rw [hl] at OF
  have hln : (y :: l).length ≤ 10000 := by
    rw [← hl]; unfold ofW
    have := List.length_filter_le (fun z : Wr => !notOf doc (-1) z) L
    omega
  clear h ho hl
  go_enter Tryd.func23, Tryd.ntmps23
  go_wp2_with (refine wpList_gbox rfl _ rfl (scs F (.slice p L.length c)) rfl ?_)
  intro g2 w1 l2 h2 hb1
  have S1 : Hid (Sx w1 g2 F (.slice p L.length c)) := Lib.hid h2
  have B1 := Lib.hid hb1
  clear h2 hb1
  go_wp2_with (refine wpList_galloc _ zeroDoc rfl rfl ?_)
  intro g4 w2 l4 h4 hb2
  have S2 := Lib.hid (S1.out.later hb2); have B2 := Lib.hid (thenBelow B1.out hb2); have D2 := Lib.hid h4
  have lw4 : w.heap.size ≤ g4 := Nat.le_trans B1.out.size l4
  clear h4 hb2
  have SW := Lib.hid (S2.out.whole)
  go_wp2_with (refine wpList_gload rfl _ rfl g2 0 rfl _ SW.out _ Tryd.underlying26 rfl (sizeStl _ _) ?_)
  refine (OF.out w2 B2.out).mono ?_
  rintro e w3 ⟨v, rfl, o3, hb3⟩
  obtain ⟨p3, c3, hv, _, hw3, _⟩ := own_wat o3
  subst hv
  have B3 := Lib.hid (thenBelow B2.out hb3)
  have D3 := Lib.hid ((hb3.block g4 (Array.getElem?_eq_some_iff.1 D2.out).1).trans D2.out)
  have RO := Lib.hid (readOf_is p3 c3 y l w3 hw3 hln)
  clear o3 hb3 hw3 OF SW
  have hz : (((y :: l).length : Int) == 0) = false := beq_eq_false_iff_ne.2 (by simp; omega)
  obtain ⟨n, hn2⟩ : ∃ n, (y :: l).length = n := ⟨_, rfl⟩
  rw [hn2] at RO hz ⊢
  clear hn2 hln
  go_wp2_with fail
  refine RO.out.mono ?_
  rintro e w4 ⟨rfl, hb4⟩
  have D4 := Lib.hid ((hb4.block g4 (Array.getElem?_eq_some_iff.1 D3.out).1).trans D3.out)
  have B4 := Lib.hid (thenBelow B3.out hb4)
  clear hb4
  obtain ⟨t, ht⟩ : ∃ t : Nat → ByteArray, (fun i : Nat => latestOf (y :: l) (i + 1 : Nat)) = t := ⟨_, rfl⟩
  rw [ht]
  go_wp2_with (refine wpList_gstore rfl _ _ rfl g4 rfl (dcv y.doc t) rfl _ _ D4.out (sizeDoc _ _) rfl (dcv_one _ _) ?_)
  intro w9 h9 g9
  have H9 := Lib.hid h9
  have B9 := Lib.hid (B4.out.trans (grown_below g9 B4.out.size lw4))
  clear h9 g9
  go_wp2
  exact bodyPost_ret (v := .tuple #[.agg (dcv y.doc t), .bool true]) (results_cell_two (p := 4) (q := 5) rfl _ w9 g4 _ _ (0, 0) _ rfl H9.out Tryd.underlying58 rfl (sizeDoc _ _) (.bool true) rfl) rfl ⟨by rw [ht], B9.out⟩
end Go.Proofs.YtjmglgcifekhgaaDoor
/- The example that each law of layer 12 ends with. -/
namespace Go.Proofs.YtjmglgcifekhgaaDoor
open Go Go.RowKit
set_option linter.unusedVariables false
set_option maxRecDepth 1000000

def exE1 : Ev := ⟨0, 1, 1, 1, ⟨#[97]⟩, 1, ⟨#[120]⟩, []⟩
def exE2 : Ev := ⟨0, 2, 2, 2, ⟨#[97]⟩, 0, ByteArray.empty, [(0, 1)]⟩
def exW : Wr := ⟨0, 1, 1, ⟨#[97]⟩, 1, ⟨#[120]⟩⟩
def exF1 : Nat → Int := withF (fun _ => 0) 0 1
def exF2 : Nat → Int := withF exF1 0 2
theorem exHead1 : headB exE1 = true := (head_iff exE1).2 ⟨by decide, by decide, by decide +kernel, goB_iff.2 ⟨by decide, fun i h => absurd h (by simp [exE1]), fun i h => absurd h (by simp [exE1])⟩⟩
theorem exHead2 : headB exE2 = true := (head_iff exE2).2 ⟨by decide, by decide, by decide +kernel, goB_iff.2 ⟨by decide, fun i h => by
  have : i = 0 := by simpa [exE2] using h
  subst this
  show vl (0, 1) = true ∧ ((0, 1) : Dt) ≠ (0, 2)
  exact ⟨by decide, by decide⟩, fun i h => absurd h (by simp [exE2])⟩⟩
theorem exChk1 : chk exE1 = 0 := by rw [chk_put exHead1 rfl]; decide +kernel
theorem exChk2 : chk exE2 = 0 := chk_drop exHead2 rfl rfl rfl
theorem exSkip1 : apSkip (fun _ => 0) exE1 = false := by unfold apSkip; rw [exChk1]; decide
theorem exSkip2 : apSkip exF1 exE2 = false := by unfold apSkip; rw [exChk2]; decide
theorem exSeen1 : apSeen (fun _ => 0) exE1 = exF1 := by unfold apSeen; rw [exSkip1]; rfl
theorem exSeen2 : apSeen exF1 exE2 = exF2 := by unfold apSeen; rw [exSkip2]; rfl
theorem exLive1 : apLive (fun _ => 0) [] exE1 = [exW] := by unfold apLive; rw [exSkip1]; rfl
theorem exLive2 : apLive exF1 [exW] exE2 = [] := by unfold apLive; rw [exSkip2]; rfl
theorem exOf : ofW [exW] ⟨#[97]⟩ (-1) = [exW] := by
  have : notOf ⟨#[97]⟩ (-1) exW = false := by decide +kernel
  unfold ofW
  rw [List.filter_cons_of_pos (by rw [this]; rfl)]; rfl
theorem exLast : latestOf [exW] 1 = ⟨#[120]⟩ := by decide +kernel
theorem exF2_0 : exF2 0 = 2 := by decide +kernel
theorem builtE1 (w : World) : (Instr.build 31 #[(0, .agg #[.int .i64 0, .int .i64 1]), (1, .int .i64 1), (2, .int .i64 1), (3, .string ⟨#[97]⟩), (4, .int .i64 1), (5, .string ⟨#[120]⟩)]).run Tryd.prog w = .ok (.agg (EvP.cells ⟨exE1, none, 0⟩).toArray) w := run_build w _ _ _ (by kernel_rfl)
theorem builtE2 (q : Option Addr) (w : World) : (Instr.build 31 #[(0, .agg #[.int .i64 0, .int .i64 2]), (1, .int .i64 2), (2, .int .i64 2), (3, .string ⟨#[97]⟩), (6, .slice q 1 1)]).run Tryd.prog w = .ok (.agg (EvP.cells ⟨exE2, q, 1⟩).toArray) w := run_build w _ _ _ (by kernel_rfl)
set_option maxHeartbeats 8000000 in
theorem awake12 (w : World) (hT : Shapes w) : Calls Tryd.prog 8 #[] w (Yes w) := by
  have HT := Lib.hid hT
  clear hT
  have b1 := below_alloc w (.cells #[.int .i64 0, .int .i64 1] 28)
  have n1 := heap_alloc_new w (.cells #[.int .i64 0, .int .i64 1] 28)
  have A1 := Lib.hid (apply_is (fun _ => 0) none 0 [] ⟨exE1, none, 0⟩ (w.alloc (.cells #[.int .i64 0, .int .i64 1] 28)) ⟨fun h => absurd rfl h, fun _ => rfl⟩ (fun a ha => by cases ha) (by simp) ⟨DRow.nil _ _, fun _ => rfl⟩ (HT.out.below b1) (by decide))
  have B1 := Lib.hid b1; have N1 := Lib.hid n1
  clear b1 n1
  simp only [exSeen1, exLive1, exChk1] at A1
  have A1 : Hid (Calls Tryd.prog 9 #[.agg (scs (fun _ => 0) (.slice none 0 0)), .agg (EvP.cells ⟨exE1, none, 0⟩).toArray] (w.alloc (.cells #[.int .i64 0, .int .i64 1] 28)) (StR (w.alloc (.cells #[.int .i64 0, .int .i64 1] 28)) exF1 [exW] 0)) := A1
  go_enter Tryd.func8, Tryd.ntmps8
  go_wp2_with (first | refine wpList_pbuild (by rfl) _ rfl (scs (fun _ => 0) (.slice none 0 0)) (by simp only [List.map_toArray, List.map_cons, List.map_nil]; exact builtSt0 _) ?_ | refine wpList_pbuild (by rfl) _ rfl (EvP.cells ⟨exE1, none, 0⟩).toArray (by simp only [List.map_toArray, List.map_cons, List.map_nil]; exact builtE1 _) ?_)
  refine A1.out.mono ?_
  rintro e w2 ⟨v2, rfl, o2, hb2⟩
  obtain ⟨p2, c2, hv2, _, wat2, off2⟩ := own_wat o2
  subst hv2
  have B2 := Lib.hid (thenBelow B1.out hb2)
  have N2 := Lib.hid ((hb2.block _ (Array.getElem?_eq_some_iff.1 N1.out).1).trans N1.out)
  have WT := Lib.hid (fun (V : World) (hV : Below w2.heap.size w2 V) => wat2.below hV)
  have OF := Lib.hid off2
  clear o2 hb2 wat2 off2 A1 B1 N1
  go_wp2_with (refine wpList_galloc _ zeroSt rfl rfl ?_)
  intro g2 w3 l2 h2 hb3
  have B3 := Lib.hid (thenBelow B2.out hb3)
  have N3 := Lib.hid ((hb3.block _ (Array.getElem?_eq_some_iff.1 N2.out).1).trans N2.out)
  have ln2 : w.heap.size < g2 := Nat.lt_of_lt_of_le (Array.getElem?_eq_some_iff.1 N2.out).1 l2
  have HB3 := Lib.hid hb3; have H3 := Lib.hid h2
  clear h2 hb3 N2
  go_wp2_with (refine wpList_gstore rfl _ _ rfl g2 rfl (scs exF1 (.slice p2 [exW].length c2)) rfl _ _ H3.out (sizeSt _ _) (by rw [scs_size, scs_size]) (scs_one exF1 rfl) ?_)
  intro w4 h4 g4'
  have BW4 := Lib.hid (HB3.out.trans (grown_below g4' HB3.out.size l2))
  have B4 := Lib.hid (thenBelow B2.out BW4.out)
  have N4 := Lib.hid ((g4'.block _ (Array.getElem?_eq_some_iff.1 N3.out).1 (by simp; omega)).trans N3.out)
  have S4 : Hid (Sx w4 g2 exF1 (.slice p2 [exW].length c2)) := Lib.hid h4
  clear h4 g4' H3 N3 HB3
  have SW := Lib.hid (S4.out.whole)
  have RD := Lib.hid (docRead_is exF1 p2 c2 [exW] ⟨#[97]⟩ exW [] w4 (WT.out w4 BW4.out) OF.out (by decide) exOf)
  go_wp2_with (refine wpList_gload rfl _ rfl g2 0 rfl _ SW.out _ Tryd.underlying26 rfl (sizeStl _ _) ?_)
  refine RD.out.mono ?_
  rintro e w5 ⟨rfl, hb5⟩
  have S5 := Lib.hid (S4.out.later hb5); have B5 := Lib.hid (thenBelow B4.out hb5); have BW5 := Lib.hid (thenBelow BW4.out hb5)
  have N5 := Lib.hid ((hb5.block _ (Array.getElem?_eq_some_iff.1 N4.out).1).trans N4.out)
  clear hb5 RD SW S4 N4
  obtain ⟨td, htd⟩ : ∃ t : Nat → ByteArray, (fun i : Nat => latestOf [exW] (i + 1 : Nat)) = t := ⟨_, rfl⟩
  have HTD : Hid (td 0 = ⟨#[120]⟩) := Lib.hid (by rw [← htd]; exact exLast)
  rw [htd]
  clear htd
  go_wp2_with (refine wpList_galloc _ zeroDoc rfl rfl ?_)
  intro g4 w6 l4 h6 hb6
  have S6 := Lib.hid (S5.out.later hb6); have B6 := Lib.hid (thenBelow B5.out hb6); have BW6 := Lib.hid (thenBelow BW5.out hb6)
  have N6 := Lib.hid ((hb6.block _ (Array.getElem?_eq_some_iff.1 N5.out).1).trans N5.out)
  have n24 : g2 < g4 := Nat.lt_of_lt_of_le S5.out.lt l4
  have lw4 : w.heap.size < g4 := Nat.lt_of_lt_of_le (Array.getElem?_eq_some_iff.1 N5.out).1 l4
  have l4' : w2.heap.size ≤ g4 := Nat.le_trans BW5.out.size l4
  have H6 := Lib.hid h6
  clear h6 hb6 S5 N5
  go_wp2_with (refine wpList_gstore rfl _ _ rfl g4 rfl (dcv exW.doc td) rfl _ _ H6.out (sizeDoc _ _) rfl (dcv_one _ _) ?_)
  intro w7 h7 g7'
  have BW7 := Lib.hid (BW6.out.trans (grown_below g7' BW6.out.size l4'))
  have B7 := Lib.hid (thenBelow B2.out BW7.out)
  have S7 := Lib.hid (S6.out.kept g7' (by simp; omega))
  have N7 := Lib.hid ((g7'.block _ (Array.getElem?_eq_some_iff.1 N6.out).1 (by simp; omega)).trans N6.out)
  have D7 := Lib.hid h7
  clear h7 g7' H6 S6 N6
  have ba := below_alloc w7 (.cells #[.int .i64 0, .int .i64 1] 28)
  have na := heap_alloc_new w7 (.cells #[.int .i64 0, .int .i64 1] 28)
  have A2 := Lib.hid (apply_is exF1 p2 c2 [exW] ⟨exE2, some ⟨w7.heap.size, 0, none⟩, 1⟩ (w7.alloc (.cells #[.int .i64 0, .int .i64 1] 28)) (WT.out _ (thenBelow BW7.out ba)) OF.out (by decide) ⟨fun _ => ⟨w7.heap.size, 0, rfl, range_of_block na⟩, fun e => by cases e⟩ (HT.out.below (thenBelow B7.out ba)) (show ([(0, 1)] : List Dt).length ≤ 1000 by decide))
  simp only [exSeen2, exLive2, exChk2] at A2
  have S8 := Lib.hid (S7.out.later ba)
  have D8 := Lib.hid ((ba.block _ (Array.getElem?_eq_some_iff.1 D7.out).1).trans D7.out)
  have B8 := Lib.hid (thenBelow B7.out ba)
  have k0 := (cell_of_row w7 w.heap.size 0 _ _ _ N7.out).trans (show _ = some (Value.int .i64 0) from rfl)
  have k1 := (cell_of_row w7 w.heap.size 1 _ _ _ N7.out).trans (show _ = some (Value.int .i64 1) from rfl)
  have SW := Lib.hid (S7.out.whole)
  clear ba na
  go_wp2_with (first | refine wpList_gload rfl _ rfl g2 0 rfl _ SW.out _ Tryd.underlying26 rfl (sizeStl _ _) ?_ | refine wpList_pbuild (by rfl) _ rfl (EvP.cells ⟨exE2, some ⟨w7.heap.size, 0, none⟩, 1⟩).toArray (by simp only [List.map_toArray, List.map_cons, List.map_nil]; exact builtE2 _ _) ?_)
  refine A2.out.mono ?_
  rintro e w9 ⟨v9, rfl, o9, hb9⟩
  obtain ⟨p9, c9, hv9, _⟩ := own_wat o9
  subst hv9
  have B9 := Lib.hid (thenBelow B8.out hb9)
  have D9 := Lib.hid ((hb9.block _ (Array.getElem?_eq_some_iff.1 D8.out).1).trans D8.out)
  clear hb9 o9 A2 SW k0 k1 D8
  go_wp2_with (refine wpList_galloc _ zeroSt rfl rfl ?_)
  intro g6 w10 l6 h10 hb10
  have B10 := Lib.hid (thenBelow B9.out hb10)
  have D10 := Lib.hid ((hb10.block _ (Array.getElem?_eq_some_iff.1 D9.out).1).trans D9.out)
  have n46 : g4 < g6 := Nat.lt_of_lt_of_le (Array.getElem?_eq_some_iff.1 D9.out).1 l6
  have l6' : w.heap.size ≤ g6 := Nat.le_trans B9.out.size l6
  have H10 := Lib.hid h10
  clear h10 hb10 D9
  go_wp2_with (refine wpList_gstore rfl _ _ rfl g6 rfl (scs exF2 (.slice p9 ([] : List Wr).length c9)) rfl _ _ H10.out (sizeSt _ _) (by rw [scs_size, scs_size]) (scs_one exF2 rfl) ?_)
  intro w11 h11 g11
  have B11 := Lib.hid (B10.out.trans (grown_below g11 B10.out.size l6'))
  have D11 := Lib.hid ((g11.block _ (Array.getElem?_eq_some_iff.1 D10.out).1 (by simp; omega)).trans D10.out)
  have S11 : Hid (Sx w11 g6 exF2 (.slice p9 ([] : List Wr).length c9)) := Lib.hid h11
  have kd := (cell_of_row w11 g4 1 _ _ _ D11.out).trans (show _ = some (Value.string (td 0)) from rfl)
  rw [HTD.out] at kd
  have ks := S11.out.slot
  have kv := S11.out.vec 0 (.int .i64 (exF2 0)) (by rw [Array.getElem?_toList]; exact vf_get exF2 0 (by omega))
  rw [exF2_0] at kv
  simp only [List.length_nil, Nat.add_zero] at ks kv
  clear h11 g11
  go_wp2
  go_ret
  exact ⟨rfl, B11.out⟩
end Go.Proofs.YtjmglgcifekhgaaDoor
/- The walk of DocsBack. -/
namespace Go.Proofs.YtjmglgcifekhgaaDoor
open Go Go.RowKit
set_option linter.unusedVariables false
set_option maxRecDepth 1000000

set_option maxHeartbeats 8000000 in
theorem docsBack_walk (F : Nat → Int) (q : Option Addr) (d : Nat) (L : List Wr) (p : Option Addr) (c : Nat) (l : List UInt8) (W : World) (hw : WrsAt W q L) (ho : ∀ a, q = some a → ∃ b o, a = ⟨b, o, none⟩) (h : Came W p c l) (hT : Shapes W) :
    Calls Tryd.prog 4 #[.agg (scs F (.slice q L.length d)), .slice p l.length c] W (Yes W) := by
  have hr := h.reach
  have hle := h.le
  have G : Hid (Given W p c l) := Lib.hid ⟨h.lies, h.le, h.none⟩
  have HW := Lib.hid hw; have HT := Lib.hid hT
  have nl : l.length ≤ 140737488355328 := by omega
  clear h hw hT ho
  go_enter Tryd.func4, Tryd.ntmps4
  go_wp2_with (refine wpList_gbox rfl _ rfl (scs F (.slice q L.length d)) rfl ?_)
  intro g2 w1 l2 h2 hb1
  have S1 : Hid (Sx w1 g2 F (.slice q L.length d)) := Lib.hid h2
  have B1 := Lib.hid hb1
  have SW := Lib.hid (S1.out.whole)
  clear h2 hb1
  go_wp2_with (refine wpList_gload rfl _ rfl g2 0 rfl _ SW.out _ Tryd.underlying26 rfl (sizeStl _ _) ?_)
  refine (smallS_is F q d L w1 (HW.out.below B1.out)).mono ?_
  rintro e w3 ⟨b9, rfl, hb9, hb3⟩
  have S3 := Lib.hid (S1.out.later hb3); have B3 := Lib.hid (thenBelow B1.out hb3)
  clear hb3 S1 SW
  cases b9 with
  | false =>
    clear hb9
    have AW := Lib.hid (awake12 w3 (HT.out.below B3.out))
    go_wp2_with fail
    refine AW.out.mono ?_
    rintro e w99 ⟨rfl, hb99⟩
    have B99 := Lib.hid (thenBelow B3.out hb99)
    clear hb99 AW
    go_wp2
    go_ret
    exact ⟨rfl, B99.out⟩
  | true =>
  have SM : L.length ≤ 120 := hb9 rfl
  clear hb9
  have SW := Lib.hid (S3.out.whole)
  have CN := Lib.hid (docCan_is F q d L w3 (HW.out.below B3.out) (HT.out.below B3.out))
  go_wp2_with (refine wpList_gloadG (by rfl) _ rfl g2 0 rfl _ SW.out _ Tryd.underlying26 rfl (sizeStl _ _) ?_)
  refine CN.out.mono ?_
  rintro e w4 ⟨rfl, hb4⟩
  have S4 := Lib.hid (S3.out.later hb4); have B4 := Lib.hid (thenBelow B3.out hb4)
  clear hb4 S3 SW CN
  cases hcan : canB F L with
  | false =>
    clear hcan
    have AW := Lib.hid (awake12 w4 (HT.out.below B4.out))
    go_wp2_with fail
    refine AW.out.mono ?_
    rintro e w99 ⟨rfl, hb99⟩
    have B99 := Lib.hid (thenBelow B4.out hb99)
    clear hb99 AW
    go_wp2
    go_ret
    exact ⟨rfl, B99.out⟩
  | true =>
  have HC := Lib.hid hcan
  have nS : (stB F L).length ≤ 260000 := by
    have h1 := vbytes_len F; have h2 := enc_len L.length
    have h3 := wts_len L fun y hy => small_of ((can_iff.1 hcan).fine y hy).1
    unfold stB
    simp only [List.length_append]; omega
  have pS : 0 < (stB F L).length := by
    unfold stB
    simp only [List.length_append]
    have : 0 < (Cod.enc L.length).length := by rw [Cod.enc_length]; omega
    omega
  clear hcan
  have SW := Lib.hid (S4.out.whole)
  have PT : Hid (Calls Tryd.prog 14 #[.slice none 0 0, .agg (scs F (.slice q L.length d))] w4 (RetOwn w4 5 (stB F L))) := Lib.hid (docPut_is none 0 [] F q d L w4 ⟨Lies.nil _ _, Nat.le_refl _, fun _ => ⟨rfl, rfl⟩⟩ (HW.out.below B4.out) HC.out (HT.out.below B4.out) (by simp))
  obtain ⟨LS, hLS⟩ : ∃ X, stB F L = X := ⟨_, rfl⟩
  rw [hLS] at PT nS pS
  have HLS := Lib.hid hLS
  clear hLS
  go_wp2_with (refine wpList_gload rfl _ rfl g2 0 rfl _ SW.out _ Tryd.underlying26 rfl (sizeStl _ _) ?_)
  refine PT.out.mono ?_
  intro e w5 hr5
  obtain ⟨v5, rfl, ho5, hb5⟩ := hr5
  have S5 := Lib.hid (S4.out.later hb5); have B5 := Lib.hid (thenBelow B4.out hb5); have O5 := Lib.hid ho5
  have hz5 := hb5.size
  have lt2 := S4.out.lt
  obtain ⟨-, p5, c5, rfl, _, _, _, _⟩ := own_lies ho5
  have g5 := Lib.hid (G.out.below B5.out)
  clear hb5 ho5 S4 SW PT
  go_wp2_with (at_builtin; refine wpList_bytesW isU8 _ rfl _ _ rfl w4.heap.size LS.length LS _ rfl O5.out p l.length c l rfl g5.out.lies rfl (fun e => ⟨by rw [(g5.out.none e).1]; rfl, (g5.out.none e).2⟩) (by omega) hz5 ?_)
  intro v6 w6 ho6 hb6
  obtain ⟨_, p6, c6, rfl, k1, _, k3, k4⟩ := own_lies (l := LS ++ l) ho6
  have GV : Hid (Given w6 p6 c6 (LS ++ l)) := Lib.hid ⟨k3, k1, k4⟩
  have RA := Lib.hid (read_any p6 c6 (LS ++ l) w6 GV.out (by rw [List.length_append]; omega) (by rw [List.length_append]; omega))
  have B6 := Lib.hid (B5.out.trans (hb6.mono B4.out.size))
  have S6 : Hid (Sx w6 g2 F (.slice q L.length d)) := Lib.hid ((hb6.block g2 lt2).trans S5.out)
  clear ho6 hb6 k1 k3 k4 GV O5 g5 S5
  obtain ⟨NN, hNN⟩ : ∃ NN, (LS ++ l).length = NN := ⟨_, rfl⟩
  rw [hNN] at RA ⊢
  clear hNN
  go_wp2_with fail
  refine RA.out.mono ?_
  rintro e w7 ⟨B, rfl, hB, hr7, hb7⟩
  rw [← HLS.out] at hr7
  have S7 := Lib.hid (S6.out.later hb7); have B7 := Lib.hid (thenBelow B6.out hb7)
  have hBW : W.heap.size ≤ B := Nat.le_trans B6.out.size hB
  have n2B : g2 ≠ B := by have := S6.out.lt; omega
  have R7 := Lib.hid hr7
  have RS := Lib.hid (readState_live B F L l w7.drew (hr7.on (to_drew (Below.refl _ _))) HC.out (fun w' hg => HT.out.below ((to_drew B7.out).trans (grown_below hg B7.out.size hBW))) (by omega))
  clear hr7 hb7 RA S6 hB
  go_wp2_with fail
  rename_i K2 hK2
  have m0 : Sx w7.drew g2 F (.slice q L.length d) ∧ Below W.heap.size W w7.drew := ⟨S7.out, to_drew B7.out⟩
  refine rg_calm (by kernel_rfl) rfl (S := fun U => Sx U g2 F (.slice q L.length d) ∧ Below W.heap.size W U) ?_
  have keep : ∀ U U' : World, Below U.heap.size U U' → Sx U g2 F (.slice q L.length d) ∧ Below W.heap.size W U → Sx U' g2 F (.slice q L.length d) ∧ Below W.heap.size W U' := fun U U' hb h => ⟨h.1.later hb, thenBelow h.2 hb⟩
  refine rgd_pure 0 (some 20) rfl rfl (.pointer (some ⟨B, 0, none⟩)) (by kernel_rfl) (by kernel_rfl) (by kernel_rfl) (fun _ _ _ _ h => h) (by kernel_rfl) (fun w => by kernel_rfl) m0 ?_
  refine rgd_pureS 2 (some 22) rfl rfl (.agg (scs F (.slice q L.length d))) (by kernel_rfl) (by kernel_rfl) (by kernel_rfl) (fun _ _ _ _ h => h) (by kernel_rfl) (fun U hU => exec_gload 26 _ rfl g2 0 (by kernel_rfl) _ (Sx.whole hU.1) Tryd.underlying26 rfl (sizeStl _ _)) m0 ?_
  refine rgd_call 1 (some 21) (by kernel_rfl) rfl rfl (by kernel_rfl) 16 (#[.pointer (some ⟨B, 0, none⟩)]) (by kernel_rfl) (RS.out) ?_
  rintro e U1 ⟨p9, c9, rfl, wa9, _, r9, g9⟩
  have s9 : Sx U1 g2 F (.slice q L.length d) := (g9.block g2 m0.1.lt (by simpa using n2B)).trans m0.1
  have m1 : Sx U1 g2 F (.slice q L.length d) ∧ Below W.heap.size W U1 := ⟨s9, m0.2.trans (grown_below g9 m0.2.size hBW)⟩
  refine ⟨_, rfl, m1, ?_⟩
  refine rgd_call 3 (some 23) (by kernel_rfl) rfl rfl (by kernel_rfl) 15 (#[.agg (scs F (.slice p9 L.length c9)), .agg (scs F (.slice q L.length d))]) (by kernel_rfl) (docSame_is F F (veq_self F) p9 q c9 d L _ wa9 (HW.out.below m1.2) (by omega)) ?_
  rintro e U2 ⟨rfl, b2⟩
  have m2 := keep _ _ b2 m1
  have r2 := r9.on b2
  refine ⟨_, rfl, m2, ?_⟩
  refine rgd_pure 4 (some 24) rfl rfl (.bool true) (by kernel_rfl) (by kernel_rfl) (by kernel_rfl) (fun _ _ _ _ h => h) (by kernel_rfl) (fun w => by kernel_rfl) m2 ?_
  refine rgd_pure 5 (some 25) rfl rfl (.pointer (some ⟨B, 0, none⟩)) (by kernel_rfl) (by kernel_rfl) (by kernel_rfl) (fun _ _ _ _ h => h) (by kernel_rfl) (fun w => by kernel_rfl) m2 ?_
  refine rgd_call 6 (some 26) (by kernel_rfl) rfl rfl (by kernel_rfl) 17 (#[.pointer (some ⟨B, 0, none⟩)]) (by kernel_rfl) (err_live B l _ r2) ?_
  rintro e U3 ⟨rfl, rfl⟩
  refine ⟨_, rfl, m2, ?_⟩
  refine rgd_pure 7 (some 27) rfl rfl (.bool true) (by kernel_rfl) (by kernel_rfl) (by kernel_rfl) (fun _ _ _ _ h => h) (by kernel_rfl) (fun w => by kernel_rfl) m2 ?_
  refine rgd_pure 8 (some 28) rfl rfl (.bool true) (by kernel_rfl) (by kernel_rfl) (by kernel_rfl) (fun _ _ _ _ h => h) (by kernel_rfl) (fun w => by kernel_rfl) m2 ?_
  refine rgd_pure 9 (some 29) rfl rfl (.bool true) (by kernel_rfl) (by kernel_rfl) (by kernel_rfl) (fun _ _ _ _ h => h) (by kernel_rfl) (fun w => by kernel_rfl) m2 ?_
  refine rgd_pure 10 (some 30) rfl rfl (.pointer (some ⟨B, 0, none⟩)) (by kernel_rfl) (by kernel_rfl) (by kernel_rfl) (fun _ _ _ _ h => h) (by kernel_rfl) (fun w => by kernel_rfl) m2 ?_
  refine rgd_pure 12 (some 32) rfl rfl (.slice p l.length c) (by kernel_rfl) (by kernel_rfl) (by kernel_rfl) (fun _ _ _ _ h => h) (by kernel_rfl) (fun w => by kernel_rfl) m2 ?_
  refine rgd_pure 13 (some 33) rfl rfl (.int .i64 (l.length : Int)) (by kernel_rfl) (by kernel_rfl) (by kernel_rfl) (fun _ _ _ _ h => h) (by kernel_rfl) (fun w => by kernel_rfl) m2 ?_
  refine rgd_call 11 (some 31) (by kernel_rfl) rfl rfl (by kernel_rfl) 18 (#[.pointer (some ⟨B, 0, none⟩)]) (by kernel_rfl) (left_live B l _ r2) ?_
  rintro e U4 ⟨rfl, rfl⟩
  refine ⟨_, rfl, m2, ?_⟩
  refine rgd_pure 14 (some 34) rfl rfl (.bool true) (by kernel_rfl) (by kernel_rfl) (by kernel_rfl) (fun _ _ _ _ h => h) (by kernel_rfl) (exec_eqlI _ _ _ _ rfl (l.length : Int) (by kernel_rfl) (by kernel_rfl)) m2 ?_
  refine rgd_pure 15 (some 35) rfl rfl (.bool true) (by kernel_rfl) (by kernel_rfl) (by kernel_rfl) (fun _ _ _ _ h => h) (by kernel_rfl) (fun w => by kernel_rfl) m2 ?_
  refine rgd_pure 16 (some 36) rfl rfl (.bool true) (by kernel_rfl) (by kernel_rfl) (by kernel_rfl) (fun _ _ _ _ h => h) (by kernel_rfl) (fun w => by kernel_rfl) m2 ?_
  refine rgd_call 17 (some 37) (by kernel_rfl) rfl rfl (by kernel_rfl) 8 (#[]) (by kernel_rfl) (awake12 _ (HT.out.below m2.2)) ?_
  rintro e U5 ⟨rfl, b5⟩
  have m5 := keep _ _ b5 m2
  refine ⟨_, rfl, m5, ?_⟩
  refine rgd_pure 18 (some 38) rfl rfl (.bool true) (by kernel_rfl) (by kernel_rfl) (by kernel_rfl) (fun _ _ _ _ h => h) (by kernel_rfl) (fun w => by kernel_rfl) m5 ?_
  refine rgd_pure 19 (some 4) rfl rfl (.bool true) (by kernel_rfl) (by kernel_rfl) (by kernel_rfl) (fun _ _ _ _ h => h) (by kernel_rfl) (fun w => by kernel_rfl) m5 ?_
  have BU := Lib.hid m5.2
  have KE : K2 { tmps := #[.agg (scs F (.slice q L.length d)), .slice p l.length c, .pointer (some ⟨g2, 0, none⟩), undef, .bool true, .pointer (some ⟨B, 0, none⟩), .agg (scs F (.slice q L.length d)), .bool true, .bool false, .bool false, .agg (scs F (.slice q L.length d)), .bool true, .bool false, .bool false, undef, .agg (scs F (.slice q L.length d)), .slice p5 LS.length c5, .slice p l.length c, .slice p6 NN c6, .pointer (some ⟨B, 0, none⟩), .pointer (some ⟨B, 0, none⟩), .agg (scs F (.slice p9 L.length c9)), .agg (scs F (.slice q L.length d)), .bool true, .bool true, .pointer (some ⟨B, 0, none⟩), .int .i64 0, .bool true, .bool true, .bool true, .pointer (some ⟨B, 0, none⟩), .int .i64 (l.length : Int), .slice p l.length c, .int .i64 (l.length : Int), .bool true, .bool true, .bool true, .bool true, .bool true], defers := [] } U5 := by
    refine hK2 _ _ ?_
    clear hK2 keep m0 m1 m2 m5
    go_wp2
    go_ret
    exact ⟨rfl, BU.out⟩
  exact wpAnyH_done (by kernel_rfl) (Eq.mp (by kernel_rfl) KE) _
end Go.Proofs.YtjmglgcifekhgaaDoor
/- Tables of rows of ints that a package lays: their cells out of what the rows list. No number of a program stands here. -/
namespace Go.Proofs.YtjmglgcifekhgaaDoor
open Go Go.ChangeShapes Go.WideShapes Go.ChangeAt Go.RowKit

def rowD {H : Type} (r : List Int) : DataW H := .agg (r.map fun z => .lit (.int .i64 z))

/-- each listed variable is there -/
theorem laid_mem {P : Program} {w : World} {name : String} {d : DataW Unit} : ∀ {l : List (String × DataW Unit)} {ps : List MemPlace}, DataW.LaidVars P w l ps → (name, d) ∈ l →
    ∃ g t cs fuel p, P.globalNamed name = some g ∧ (P.globals[g]?).map (·.type) = some t ∧ w.var? P name = some cs ∧ DataW.trod (fun _ => ()) P w 0 (fun _ => true) false fuel t cs.toList = some (d, p)
  | (n, d') :: r, ps, h, hm => by
    obtain ⟨g, t, cs, fuel, p, q, h1, h2, h3, h4, h5, _⟩ := h
    rcases List.mem_cons.1 hm with e | e
    · obtain ⟨rfl, rfl⟩ := Prod.mk.inj e
      exact ⟨g, t, cs, fuel, p, h1, h2, h3, h4⟩
    · exact laid_mem h5 e
  | [], _, _, hm => by cases hm

section
variable {H : Type} {enc : TypeId × Value → H} {P : Program} {w : World} {base : Nat} {sp : Nat → Bool} {held : Bool} {fuel : Nat} {t e u : TypeId} {fs : Array Field} {m n : Nat} {cs : List Value} {p : List MemPlace}

theorem row_cells (ht : P.underlying t = some (.struct fs)) (he : P.underlying e = some (.int .i64)) (hce : P.cellsOf e = 1) (hct : P.cellsOf t = m) (hfs : fs.size = m) (hf : ∀ (i : Nat) (f : Field), fs[i]? = some f → f.type = e ∧ f.offset = i) {zs : List Int}
    (h : DataW.trod enc P w base sp held fuel t cs = some (rowD zs, p)) : cs = zs.map (Value.int .i64) := by
  obtain ⟨xs, k, _, hx, hl, hn, hi⟩ := DataW.trod_struct ht h
  simp only [rowD, Prod.mk.injEq, DataW.agg.injEq] at hx
  obtain ⟨hx, _⟩ := hx
  have hzl : zs.length = m := by
    have := congrArg List.length hx
    simp at this; omega
  apply List.ext_getElem?
  intro i
  by_cases him : i < m
  · have hfi : fs[i]? = some fs[i] := Array.getElem?_eq_getElem (by omega)
    obtain ⟨e1, e2⟩ := hf i _ hfi
    have h1 := hi i _ hfi
    rw [e1, e2, hce] at h1
    have hxi : xs[i]? = some (xs[i]'(by omega)) := List.getElem?_eq_getElem (by omega)
    rw [hxi] at h1
    obtain ⟨z, hc, hxz, _⟩ := DataW.trod_int he h1
    have h2 : cs[i]? = some (.int .i64 z) := by
      have := congrArg (·[0]?) hc
      simpa [List.getElem?_take, List.getElem?_drop] using this
    have h3 : (xs.map (·.1))[i]? = some (DataW.lit (.int .i64 z) : DataW H) := by simp [hxi, hxz]
    rw [← hx] at h3
    simp only [List.getElem?_map, Option.map_eq_some_iff, DataW.lit.injEq, Lit.int.injEq, true_and] at h3
    obtain ⟨z', hz', rfl⟩ := h3
    simp [h2, hz']
  · rw [List.getElem?_eq_none (by omega), List.getElem?_eq_none (by simp; omega)]

theorem cells_at {a : Addr} {k : Nat} {vs : List Value} (h : w.cells? base a k = some vs) : ∀ i, i < k → w.cell? (a.add i) = vs[i]? := by
  unfold World.cells? at h
  split at h
  · intro i hi
    obtain ⟨b, hb, hf⟩ := Lib.mapM_at h i i (by simp [hi])
    rw [hf, hb]
  · cases h

/-- a slice of rows -/
theorem rows_slice (hu : P.underlying u = some (.slice t)) (ht : P.underlying t = some (.struct fs)) (he : P.underlying e = some (.int .i64)) (hce : P.cellsOf e = 1) (hct : P.cellsOf t = m) (hfs : fs.size = m) (hf : ∀ (i : Nat) (f : Field), fs[i]? = some f → f.type = e ∧ f.offset = i) (hm : 0 < m)
    {rows : List (List Int)} (hr : ∀ r ∈ rows, r.length = m) (hne : 0 < rows.length) {rest : List (DataW H)} (h : DataW.trod enc P w base sp held fuel u cs = some (.slice (rows.map rowD) rest, p)) :
    ∃ b o c, cs = [.slice (some ⟨b, o, none⟩) rows.length c] ∧ rows.length ≤ c ∧ ∀ i, i < rows.length → ∀ j, j < m → w.cell? ⟨b, o + (i * m + j), none⟩ = some (.int .i64 ((rows.getD i []).getD j 0)) := by
  rcases DataW.trod_slice hu h with ⟨_, hx⟩ | ⟨a, len, cap, elems, rs, k, _, rfl, hx, _, hlc, _, hel, hi, _, _⟩
  · cases hx
  · simp only [Prod.mk.injEq, DataW.slice.injEq] at hx
    obtain ⟨⟨hx, _⟩, _⟩ := hx
    have hlen : len = rows.length := by
      have := congrArg List.length hx
      simp at this; omega
    subst hlen
    have hcell : ∀ i, i < rows.length → ∀ j, j < m → w.cell? ((a.add (i * m)).add j) = some (.int .i64 ((rows.getD i []).getD j 0)) := by
      intro i hil j hj
      have h1 := hi i hil
      rw [hct] at h1
      have hxi : elems[i]? = some (elems[i]'(by omega)) := List.getElem?_eq_getElem (by omega)
      rw [hxi] at h1
      obtain ⟨vs, hvs, hd⟩ := Option.bind_eq_some_iff.1 h1
      have hri : rows.getD i [] = rows[i] := by simp [List.getD, List.getElem?_eq_getElem hil]
      have he1 : (elems[i]'(by omega)).1 = rowD (rows[i]) := by
        have := congrArg (·[i]?) hx
        simp only [List.getElem?_map, hxi, List.getElem?_eq_getElem hil, Option.map_some] at this
        exact (Option.some.inj this).symm
      have hrow := row_cells (zs := rows[i]) (p := (elems[i]'(by omega)).2) ht he hce hct hfs hf (by rw [hd]; rw [← he1])
      rw [cells_at hvs j hj, hrow, hri]
      have hjl : j < (rows[i]).length := by rw [hr _ (List.getElem_mem _)]; exact hj
      simp [List.getD, List.getElem?_eq_getElem hjl]
    obtain ⟨b, o, spot⟩ := a
    have h0 := hcell 0 hne 0 hm
    have hs : spot = none := by simpa [Addr.add] using World.cell?_spot h0
    subst hs
    refine ⟨b, o, cap, rfl, hlc, fun i hil j hj => ?_⟩
    have := hcell i hil j hj
    rw [Addr.add_lit, Addr.add_lit, Nat.add_assoc] at this
    exact this

/-- an array of rows -/
theorem rows_array (hu : P.underlying u = some (.array n t)) (ht : P.underlying t = some (.struct fs)) (he : P.underlying e = some (.int .i64)) (hce : P.cellsOf e = 1) (hct : P.cellsOf t = m) (hfs : fs.size = m) (hf : ∀ (i : Nat) (f : Field), fs[i]? = some f → f.type = e ∧ f.offset = i)
    {rows : List (List Int)} (hr : ∀ r ∈ rows, r.length = m) (h : DataW.trod enc P w base sp held fuel u cs = some (.agg (rows.map rowD), p)) :
    ∀ i, i < rows.length → ∀ j, j < m → cs[i * m + j]? = some (.int .i64 ((rows.getD i []).getD j 0)) := by
  obtain ⟨xs, k, _, hx, _, hxn, hi⟩ := DataW.trod_array hu h
  simp only [Prod.mk.injEq, DataW.agg.injEq] at hx
  obtain ⟨hx, _⟩ := hx
  have hlen : xs.length = rows.length := by
    have := congrArg List.length hx
    simpa using this.symm
  intro i hil j hj
  have h1 := hi i (by omega)
  rw [hct] at h1
  have hxi : xs[i]? = some (xs[i]'(by omega)) := List.getElem?_eq_getElem (by omega)
  rw [hxi] at h1
  have hri : rows.getD i [] = rows[i] := by simp [List.getD, List.getElem?_eq_getElem hil]
  have he1 : (xs[i]'(by omega)).1 = rowD (rows[i]) := by
    have := congrArg (·[i]?) hx
    simp only [List.getElem?_map, hxi, List.getElem?_eq_getElem hil, Option.map_some] at this
    exact (Option.some.inj this).symm
  have hrow := row_cells (zs := rows[i]) (p := (xs[i]'(by omega)).2) ht he hce hct hfs hf (by rw [h1]; rw [← he1])
  have hjl : j < (rows[i]).length := by rw [hr _ (List.getElem_mem _)]; exact hj
  have := congrArg (·[j]?) hrow
  simp only [List.getElem?_take, List.getElem?_drop, if_pos hj] at this
  rw [this, hri]
  simp [List.getD, List.getElem?_eq_getElem hjl]
end
end Go.Proofs.YtjmglgcifekhgaaDoor
/- Rows of 64 numbers that came in, by value. No number of a program stands here. -/
namespace Go.Proofs.YtjmglgcifekhgaaDoor
open Go Go.ChangeShapes Go.WideShapes Go.ChangeAt Go.RowKit
set_option linter.unusedVariables false

/-- numbers of 64 bits -/
def Wide (f : Nat → Int) : Prop := ∀ i, -9223372036854775808 ≤ f i ∧ f i ≤ 9223372036854775807
section
variable {H : Type} {enc : TypeId × Value → H} {P : Program} {w : World} {base : Nat} {sp : Nat → Bool} {held : Bool} {fuel : Nat} {t e : TypeId} {cs : List Value} {x : DataW H × List MemPlace}

theorem vec_cells (V : Vec P t e) (hce : P.cellsOf e = 1) (hct : P.cellsOf t = 64) (h : DataW.trod enc P w base sp held fuel t cs = some x) : ∃ f : Nat → Int, cs = (vf f).toList ∧ Wide f := by
  obtain ⟨xs, m, _, _, hl, hn, hi⟩ := DataW.trod_array V.array h
  rw [hct] at hl
  have each : ∀ i, ∃ z : Int, (i < 64 → cs[i]? = some (.int .i64 z)) ∧ (-9223372036854775808 ≤ z ∧ z ≤ 9223372036854775807) := by
    intro i
    by_cases hil : i < 64
    · have h1 := hi i hil
      have hxi : xs[i]? = some (xs[i]'(by omega)) := List.getElem?_eq_getElem (by omega)
      rw [hce, Nat.mul_one, hxi] at h1
      obtain ⟨z, hc, _, wz⟩ := DataW.trod_int V.elem h1
      refine ⟨z, fun _ => ?_, ?_⟩
      · have := congrArg (·[0]?) hc
        simpa [List.getElem?_take, List.getElem?_drop] using this
      · simp [Lit.wf, IntKind.min, IntKind.max, IntKind.bits, IntKind.signed] at wz; omega
    · exact ⟨0, fun h => absurd h hil, by omega, by omega⟩
  obtain ⟨f, hf⟩ := Classical.axiomOfChoice each
  refine ⟨f, ?_, fun i => (hf i).2⟩
  apply List.ext_getElem?
  intro i
  by_cases hil : i < 64
  · rw [(hf i).1 hil, Array.getElem?_toList, vf_get f i hil]
  · rw [List.getElem?_eq_none (by omega), Array.getElem?_toList, vf_none f i (by omega)]
theorem open_vec {W : World} {v : Value} {d : DataW H} {ps : List MemPlace} (V : Vec P t e) (hce : P.cellsOf e = 1) (hct : P.cellsOf t = 64) (hv : Value.okWide P W .any base t v)
    (h : DataW.Trod enc P W 0 (fun _ => true) true t v d ps) : ∃ f : Nat → Int, v = .agg (vf f) ∧ Wide f := by
  obtain ⟨fuel, hf⟩ := h
  obtain ⟨f, hc, hw⟩ := vec_cells V hce hct hf
  simp only [Value.okWide, V.array] at hv
  obtain ⟨xs, rfl, _⟩ := hv
  refine ⟨f, ?_, hw⟩
  simp only [Value.cells] at hc
  rw [Array.toList_inj.1 hc]
end
/-- a slice that came in of n things of k cells: the i-th has the cells E i, of which Q holds -/
structure CameR (w : World) (p : Option Addr) (n c k : Nat) (Q : List Value → Prop) (E : Nat → List Value) : Prop where
  le : n ≤ c
  max : c ≤ maxLen
  nil : p = none → n = 0 ∧ c = 0
  each : ∀ i, i < n → Q (E i) ∧ (E i).length = k
  lies : 0 < n → ∃ b o, p = some ⟨b, o, none⟩ ∧ ∀ i, i < n → w.rangeAt b (o + i * k) (E i)
theorem CameR.at {w : World} {p : Option Addr} {n c k : Nat} {Q : List Value → Prop} {E : Nat → List Value} (h : CameR w p n c k Q E) (h0 : 0 < n) (hk : 0 < k) :
    ∃ b o, p = some ⟨b, o, none⟩ ∧ b < w.heap.size ∧ ∀ i, i < n → w.rangeAt b (o + i * k) (E i) := by
  obtain ⟨b, o, rfl, hc⟩ := h.lies h0
  refine ⟨b, o, rfl, ?_, hc⟩
  have h1 := (h.each 0 h0).2
  exact World.block_lt_of_cell? w _ (hc 0 h0 0 _ (List.getElem?_eq_getElem (by omega)))
theorem CameR.below {w w' : World} {p : Option Addr} {n c k : Nat} {Q : List Value → Prop} {E : Nat → List Value} (h : CameR w p n c k Q E) (hb : Below w.heap.size w w') : CameR w' p n c k Q E :=
  ⟨h.le, h.max, h.nil, h.each, fun h0 => by
    obtain ⟨b, o, rfl, hc⟩ := h.lies h0
    exact ⟨b, o, rfl, fun i hi => range_below (hc i hi) hb⟩⟩

section
variable {H : Type} {enc : TypeId × Value → H} {P : Program} {W : World} {base : Nat} {t e : TypeId} {v : Value} {d : DataW H} {ps : List MemPlace}
theorem open_things {k : Nat} {Q : List Value → Prop} (ht : P.underlying t = some (.slice e)) (hk : P.cellsOf e = k) (hk0 : 0 < k) (hQ : ∀ (n : Nat) (cs : List Value) (x : DataW H × List MemPlace), DataW.trod enc P W 0 (fun _ => true) true n e cs = some x → Q cs)
    (hv : Value.okWide P W .any base t v) (h : DataW.Trod enc P W 0 (fun _ => true) true t v d ps) : ∃ p n c E, v = .slice p n c ∧ CameR W p n c k Q E := by
  obtain ⟨a0, len0, cap0, rfl⟩ := okWide_slice ht hv
  obtain ⟨fuel, hf⟩ := h
  rcases Deep.open_slice ht hf with ⟨hcs, _⟩ | ⟨a, len, cap, m, n, D, Pl, hcs, _, hl, hmx, hmm, _, hi⟩
  · simp [Value.cells] at hcs
    obtain ⟨rfl, rfl, rfl⟩ := hcs
    exact ⟨none, 0, 0, fun _ => [], rfl, ⟨Nat.le_refl _, Nat.zero_le _, fun _ => ⟨rfl, rfl⟩, fun i hi => by omega, fun h => by omega⟩⟩
  · simp [Value.cells] at hcs
    obtain ⟨rfl, rfl, rfl⟩ := hcs
    simp only [if_true] at hmm
    have each : ∀ i, ∃ cs' : List Value, i < len0 → Q cs' ∧ cs'.length = k ∧ ∀ j, j < k → W.cell? ((a.add (i * k)).add j) = cs'[j]? := by
      intro i
      by_cases hil : i < len0
      · obtain ⟨cs', h1, h2⟩ := hi i (by omega)
        rw [hk] at h1
        obtain ⟨_, h3, _⟩ := World.cells?_some h1
        exact ⟨cs', fun _ => ⟨hQ _ _ _ h2, h3, cells_at h1⟩⟩
      · exact ⟨[], fun h => absurd h hil⟩
    obtain ⟨E, hE⟩ := Classical.axiomOfChoice each
    refine ⟨some a, len0, cap0, E, rfl, ⟨hl, hmx, (fun h => by cases h), fun i hil => ⟨(hE i hil).1, (hE i hil).2.1⟩, fun h0 => ?_⟩⟩
    obtain ⟨b, o, spot⟩ := a
    have hsp : spot = none := by
      have h1 := (hE 0 h0).2.2 0 hk0
      rw [List.getElem?_eq_getElem (by have := (hE 0 h0).2.1; omega)] at h1
      simpa [Addr.add] using World.cell?_spot h1
    subst hsp
    refine ⟨b, o, rfl, fun i hil j u hu => ?_⟩
    have hj : j < k := by have := (List.getElem?_eq_some_iff.1 hu).1; have := (hE i hil).2.1; omega
    have h1 := (hE i hil).2.2 j hj
    rw [Addr.add_lit, Addr.add_lit] at h1
    rw [h1, hu]
/-- a thing of some cells by value -/
theorem open_thing {fs : Array Field} {Q : List Value → Prop} (ht : P.underlying t = some (.struct fs)) (hQ : ∀ (n : Nat) (cs : List Value) (x : DataW H × List MemPlace), DataW.trod enc P W 0 (fun _ => true) true n t cs = some x → Q cs)
    (hv : Value.okWide P W .any base t v) (h : DataW.Trod enc P W 0 (fun _ => true) true t v d ps) : ∃ cs : List Value, v = .agg cs.toArray ∧ Q cs := by
  obtain ⟨fuel, hf⟩ := h
  have h1 := hQ _ _ _ hf
  simp only [Value.okWide, ht] at hv
  obtain ⟨xs, rfl, _⟩ := hv
  exact ⟨xs.toList, by simp, h1⟩
end
/-- two ints -/
def IsDot (cs : List Value) : Prop := ∃ r n : Int, cs = [.int .i64 r, .int .i64 n] ∧ (-9223372036854775808 ≤ r ∧ r ≤ 9223372036854775807) ∧ (-9223372036854775808 ≤ n ∧ n ≤ 9223372036854775807)
/-- a write: two ints, one, a text, one, a text -/
def IsWrite (cs : List Value) : Prop := ∃ (r n t f : Int) (d x : ByteArray), cs = [.int .i64 r, .int .i64 n, .int .i64 t, .string d, .int .i64 f, .string x] ∧ (-9223372036854775808 ≤ r ∧ r ≤ 9223372036854775807) ∧ (-9223372036854775808 ≤ n ∧ n ≤ 9223372036854775807) ∧ (-9223372036854775808 ≤ t ∧ t ≤ 9223372036854775807)
/-- an int, and a row of 64 -/
def IsHeard (cs : List Value) : Prop := ∃ (r : Int) (F : Nat → Int), cs = .int .i64 r :: (vf F).toList ∧ (-9223372036854775808 ≤ r ∧ r ≤ 9223372036854775807) ∧ Wide F
section
variable {H : Type} {enc : TypeId × Value → H} {P : Program} {w : World} {base : Nat} {sp : Nat → Bool} {held : Bool} {fuel : Nat} {t i s a : TypeId} {cs : List Value} {x : DataW H × List MemPlace}
theorem wide_wf {z : Int} (wz : (Lit.int .i64 z).wf = true) : -9223372036854775808 ≤ z ∧ z ≤ 9223372036854775807 := by
  simp [Lit.wf, IntKind.min, IntKind.max, IntKind.bits, IntKind.signed] at wz; omega
theorem take_one {cs : List Value} {k : Nat} {v : Value} (h : (cs.drop k).take 1 = [v]) : cs[k]? = some v := by
  have := congrArg (·[0]?) h
  simpa [List.getElem?_take, List.getElem?_drop] using this
theorem trod_dot {f0 f1 : Field} (ht : P.underlying t = some (.struct #[f0, f1])) (hi : P.underlying i = some (.int .i64)) (hc : P.cellsOf t = 2) (hci : P.cellsOf i = 1) (h0 : f0.type = i ∧ f0.offset = 0) (h1 : f1.type = i ∧ f1.offset = 1)
    (h : DataW.trod enc P w base sp held fuel t cs = some x) : IsDot cs := by
  obtain ⟨ys, n, _, _, hl, hn, hg⟩ := DataW.trod_struct ht h
  have get : ∀ (k : Nat) (f : Field), (#[f0, f1] : Array Field)[k]? = some f → f.type = i ∧ f.offset = k → ∃ z : Int, cs[k]? = some (.int .i64 z) ∧ -9223372036854775808 ≤ z ∧ z ≤ 9223372036854775807 := by
    intro k f hf he
    have h2 := hg k f hf
    have hk : k < ys.length := by have := (Array.getElem?_eq_some_iff.1 hf).1; simp at this; simp at hn; omega
    rw [he.1, he.2, hci, List.getElem?_eq_getElem hk] at h2
    obtain ⟨z, h3, _, wz⟩ := DataW.trod_int hi h2
    exact ⟨z, take_one h3, wide_wf wz⟩
  obtain ⟨r, hr, wr⟩ := get 0 f0 rfl h0
  obtain ⟨m, hm, wm⟩ := get 1 f1 rfl h1
  refine ⟨r, m, ?_, wr, wm⟩
  rw [hc] at hl
  apply List.ext_getElem?
  intro k
  match k with
  | 0 => rw [hr]; rfl
  | 1 => rw [hm]; rfl
  | k + 2 => rw [List.getElem?_eq_none (by omega)]; rfl
theorem trod_heard {f0 f1 : Field} (ht : P.underlying t = some (.struct #[f0, f1])) (hi : P.underlying i = some (.int .i64)) (hc : P.cellsOf t = 65) (hci : P.cellsOf i = 1) (V : Vec P a i) (hca : P.cellsOf a = 64) (h0 : f0.type = i ∧ f0.offset = 0) (h1 : f1.type = a ∧ f1.offset = 1)
    (h : DataW.trod enc P w base sp held fuel t cs = some x) : IsHeard cs := by
  obtain ⟨ys, n, _, _, hl, hn, hg⟩ := DataW.trod_struct ht h
  rw [hc] at hl
  simp at hn
  have h2 := hg 0 f0 rfl
  rw [h0.1, h0.2, hci, List.getElem?_eq_getElem (by omega)] at h2
  obtain ⟨z, h3, _, wz⟩ := DataW.trod_int hi h2
  have hz := take_one h3
  have h4 := hg 1 f1 rfl
  rw [h1.1, h1.2, hca, List.getElem?_eq_getElem (by omega)] at h4
  obtain ⟨F, hF, wF⟩ := vec_cells V hci hca h4
  refine ⟨z, F, ?_, wide_wf wz, wF⟩
  rw [← hF, List.take_of_length_le (by simp; omega)]
  match cs, hl, hz with
  | c :: cs, _, hz => simp at hz; subst hz; rfl
theorem trod_write {s0 s1 : Field} {f0 f1 f2 f3 f4 : Field} {dt : TypeId} (ht : P.underlying t = some (.struct #[f0, f1, f2, f3, f4])) (hd : P.underlying dt = some (.struct #[s0, s1])) (hi : P.underlying i = some (.int .i64)) (hs : P.underlying s = some .string)
    (hc : P.cellsOf t = 6) (hcd : P.cellsOf dt = 2) (hci : P.cellsOf i = 1) (hcs : P.cellsOf s = 1) (g0 : s0.type = i ∧ s0.offset = 0) (g1 : s1.type = i ∧ s1.offset = 1)
    (h0 : f0.type = dt ∧ f0.offset = 0) (h1 : f1.type = i ∧ f1.offset = 2) (h2 : f2.type = s ∧ f2.offset = 3) (h3 : f3.type = i ∧ f3.offset = 4) (h4 : f4.type = s ∧ f4.offset = 5)
    (h : DataW.trod enc P w base sp held fuel t cs = some x) : IsWrite cs := by
  obtain ⟨ys, n, _, _, hl, hn, hg⟩ := DataW.trod_struct ht h
  rw [hc] at hl
  simp at hn
  have k0 := hg 0 f0 rfl
  rw [h0.1, h0.2, hcd, List.getElem?_eq_getElem (by omega)] at k0
  obtain ⟨r, m, e0, wr, wm⟩ := trod_dot hd hi hcd hci g0 g1 k0
  have k1 := hg 1 f1 rfl
  rw [h1.1, h1.2, hci, List.getElem?_eq_getElem (by omega)] at k1
  obtain ⟨z1, e1, _, w1⟩ := DataW.trod_int hi k1
  have k2 := hg 2 f2 rfl
  rw [h2.1, h2.2, hcs, List.getElem?_eq_getElem (by omega)] at k2
  obtain ⟨z2, e2, _, _⟩ := DataW.trod_string hs k2
  have k3 := hg 3 f3 rfl
  rw [h3.1, h3.2, hci, List.getElem?_eq_getElem (by omega)] at k3
  obtain ⟨z3, e3, _, _⟩ := DataW.trod_int hi k3
  have k4 := hg 4 f4 rfl
  rw [h4.1, h4.2, hcs, List.getElem?_eq_getElem (by omega)] at k4
  obtain ⟨z4, e4, _, _⟩ := DataW.trod_string hs k4
  have c1 := take_one e1
  have c2 := take_one e2
  have c3 := take_one e3
  have c4 := take_one e4
  refine ⟨r, m, z1, z3, z2, z4, ?_, wr, wm, wide_wf w1⟩
  match cs, hl, e0, c1, c2, c3, c4 with
  | [a0, a1, a2, a3, a4, a5], _, e0, c1, c2, c3, c4 =>
    simp at e0 c1 c2 c3 c4
    obtain ⟨rfl, rfl⟩ := e0
    subst c1 c2 c3 c4
    rfl
end
end Go.Proofs.YtjmglgcifekhgaaDoor
/- Slices in structs that came in; dots. -/
namespace Go.Proofs.YtjmglgcifekhgaaDoor
open Go Go.ChangeShapes Go.WideShapes Go.ChangeAt Go.RowKit
set_option linter.unusedVariables false

section
variable {H : Type} {enc : TypeId × Value → H} {P : Program} {W : World} {base fuel : Nat} {t e s a i : TypeId} {v : Value} {d : DataW H} {ps : List MemPlace} {cs : List Value} {x : DataW H × List MemPlace}
theorem leaf_things {k : Nat} {Q : List Value → Prop} (ht : P.underlying t = some (.slice e)) (hk : P.cellsOf e = k) (hk0 : 0 < k) (hQ : ∀ (n : Nat) (cs : List Value) (x : DataW H × List MemPlace), DataW.trod enc P W 0 (fun _ => true) true n e cs = some x → Q cs)
    (hf : DataW.trod enc P W 0 (fun _ => true) true fuel t cs = some x) : ∃ p n c E, cs = [.slice p n c] ∧ CameR W p n c k Q E := by
  rcases Deep.open_slice ht hf with ⟨hcs, _⟩ | ⟨a, len0, cap0, m, n, D, Pl, hcs, _, hl, hmx, hmm, _, hi⟩
  · exact ⟨none, 0, 0, fun _ => [], hcs, ⟨Nat.le_refl _, Nat.zero_le _, fun _ => ⟨rfl, rfl⟩, fun i hi => by omega, fun h => by omega⟩⟩
  · simp only [if_true] at hmm
    have each : ∀ i, ∃ cs' : List Value, i < len0 → Q cs' ∧ cs'.length = k ∧ ∀ j, j < k → W.cell? ((a.add (i * k)).add j) = cs'[j]? := by
      intro i
      by_cases hil : i < len0
      · obtain ⟨cs', h1, h2⟩ := hi i (by omega)
        rw [hk] at h1
        obtain ⟨_, h3, _⟩ := World.cells?_some h1
        exact ⟨cs', fun _ => ⟨hQ _ _ _ h2, h3, cells_at h1⟩⟩
      · exact ⟨[], fun h => absurd h hil⟩
    obtain ⟨E, hE⟩ := Classical.axiomOfChoice each
    refine ⟨some a, len0, cap0, E, hcs, ⟨hl, hmx, (fun h => by cases h), fun i hil => ⟨(hE i hil).1, (hE i hil).2.1⟩, fun h0 => ?_⟩⟩
    obtain ⟨b, o, spot⟩ := a
    have hsp : spot = none := by
      have h1 := (hE 0 h0).2.2 0 hk0
      rw [List.getElem?_eq_getElem (by have := (hE 0 h0).2.1; omega)] at h1
      simpa [Addr.add] using World.cell?_spot h1
    subst hsp
    refine ⟨b, o, rfl, fun i hil j u hu => ?_⟩
    have hj : j < k := by have := (List.getElem?_eq_some_iff.1 hu).1; have := (hE i hil).2.1; omega
    have h1 := (hE i hil).2.2 j hj
    rw [Addr.add_lit, Addr.add_lit] at h1
    rw [h1, hu]
end
/-- dots that came in -/
theorem dots_lie {W : World} {p : Option Addr} {n c : Nat} {E : Nat → List Value} (h : CameR W p n c 2 IsDot E) : ∃ l : List Dt, l.length = n ∧ DRow W p l := by
  have each : ∀ i, ∃ d : Dt, i < n → E i = [.int .i64 d.1, .int .i64 d.2] := fun i => by
    by_cases hi : i < n
    · obtain ⟨r, m, he, _⟩ := (h.each i hi).1
      exact ⟨(r, m), fun _ => he⟩
    · exact ⟨(0, 0), fun h => absurd h hi⟩
  obtain ⟨f, hf⟩ := Classical.axiomOfChoice each
  refine ⟨(List.range n).map f, by simp, fun hne => ?_⟩
  have h0 : 0 < n := by
    rcases Nat.eq_zero_or_pos n with e | e
    · subst e; simp at hne
    · exact e
  obtain ⟨b, o, rfl, hr⟩ := h.lies h0
  refine ⟨b, o, rfl, fun j u hu => ?_⟩
  obtain ⟨i, hi, hc⟩ := dcl_at _ j u hu
  simp at hi
  have hri := hr i hi
  rw [hf i hi] at hri
  simp only [List.getElem_map, List.getElem_range] at hc
  rcases hc with ⟨rfl, rfl⟩ | ⟨rfl, rfl⟩
  · exact hri 0 _ rfl
  · rw [← Nat.add_assoc]; exact hri 1 _ rfl
set_option maxRecDepth 1000000

/-- an event that came in -/
def IsEv (W : World) (cs : List Value) : Prop := ∃ x : EvP, cs = x.cells ∧ x.Ok W
section
variable {H : Type} {enc : TypeId × Value → H} {P : Program} {W : World} {base fuel : Nat} {t e s a i dt st : TypeId} {v : Value} {d : DataW H} {ps : List MemPlace} {cs : List Value} {x : DataW H × List MemPlace}
theorem trod_event {s0 s1 : Field} {f0 f1 f2 f3 f4 f5 f6 : Field} (ht : P.underlying t = some (.struct #[f0, f1, f2, f3, f4, f5, f6])) (hd : P.underlying dt = some (.struct #[s0, s1])) (hi : P.underlying i = some (.int .i64)) (hs : P.underlying s = some .string) (hst : P.underlying st = some (.slice dt))
    (hc : P.cellsOf t = 8) (hcd : P.cellsOf dt = 2) (hci : P.cellsOf i = 1) (hcs : P.cellsOf s = 1) (hcst : P.cellsOf st = 1) (g0 : s0.type = i ∧ s0.offset = 0) (g1 : s1.type = i ∧ s1.offset = 1)
    (h0 : f0.type = dt ∧ f0.offset = 0) (h1 : f1.type = i ∧ f1.offset = 2) (h2 : f2.type = i ∧ f2.offset = 3) (h3 : f3.type = s ∧ f3.offset = 4) (h4 : f4.type = i ∧ f4.offset = 5) (h5 : f5.type = s ∧ f5.offset = 6) (h6 : f6.type = st ∧ f6.offset = 7)
    (h : DataW.trod enc P W 0 (fun _ => true) true fuel t cs = some x) : IsEv W cs := by
  obtain ⟨ys, n, _, _, hl, hn, hg⟩ := DataW.trod_struct ht h
  rw [hc] at hl
  simp at hn
  have k0 := hg 0 f0 rfl
  rw [h0.1, h0.2, hcd, List.getElem?_eq_getElem (by omega)] at k0
  obtain ⟨r, m, e0, _, _⟩ := trod_dot hd hi hcd hci g0 g1 k0
  have k1 := hg 1 f1 rfl
  rw [h1.1, h1.2, hci, List.getElem?_eq_getElem (by omega)] at k1
  obtain ⟨z1, e1, _, _⟩ := DataW.trod_int hi k1
  have k2 := hg 2 f2 rfl
  rw [h2.1, h2.2, hci, List.getElem?_eq_getElem (by omega)] at k2
  obtain ⟨z2, e2, _, _⟩ := DataW.trod_int hi k2
  have k3 := hg 3 f3 rfl
  rw [h3.1, h3.2, hcs, List.getElem?_eq_getElem (by omega)] at k3
  obtain ⟨z3, e3, _, _⟩ := DataW.trod_string hs k3
  have k4 := hg 4 f4 rfl
  rw [h4.1, h4.2, hci, List.getElem?_eq_getElem (by omega)] at k4
  obtain ⟨z4, e4, _, _⟩ := DataW.trod_int hi k4
  have k5 := hg 5 f5 rfl
  rw [h5.1, h5.2, hcs, List.getElem?_eq_getElem (by omega)] at k5
  obtain ⟨z5, e5, _, _⟩ := DataW.trod_string hs k5
  have k6 := hg 6 f6 rfl
  rw [h6.1, h6.2, hcst, List.getElem?_eq_getElem (by omega)] at k6
  obtain ⟨p, q, c, E, e6, hC⟩ := leaf_things hst hcd (by omega) (fun n cs x h => trod_dot (cs := cs) hd hi hcd hci g0 g1 h) k6
  obtain ⟨l, hll, hD⟩ := dots_lie hC
  have c1 := take_one e1
  have c2 := take_one e2
  have c3 := take_one e3
  have c4 := take_one e4
  have c5 := take_one e5
  have c6 := take_one e6
  refine ⟨⟨⟨r, m, z1, z2, z3, z4, z5, l⟩, p, c⟩, ?_, hD, fun hp => ?_⟩
  · match cs, hl, e0, c1, c2, c3, c4, c5, c6 with
    | [a0, a1, a2, a3, a4, a5, a6, a7], _, e0, c1, c2, c3, c4, c5, c6 =>
      simp at e0 c1 c2 c3 c4 c5 c6
      obtain ⟨rfl, rfl⟩ := e0
      subst c1 c2 c3 c4 c5 c6
      simp [EvP.cells, hll]
  · have := (hC.nil hp).1
    rw [← hll] at this
    exact List.eq_nil_of_length_eq_zero this
/-- events that came in lie where they are -/
theorem evs_lie {p : Option Addr} {n c : Nat} {E : Nat → List Value} (h : CameR W p n c 8 (IsEv W) E) : ∃ L : List EvP, L.length = n ∧ EvsAt W p L := by
  have each : ∀ i, ∃ x : EvP, i < n → E i = x.cells ∧ x.Ok W := fun i => by
    by_cases hi : i < n
    · obtain ⟨x, he, hx⟩ := (h.each i hi).1
      exact ⟨x, fun _ => ⟨he, hx⟩⟩
    · exact ⟨⟨⟨0, 0, 0, 0, ByteArray.empty, 0, ByteArray.empty, []⟩, none, 0⟩, fun h => absurd h hi⟩
  obtain ⟨f, hf⟩ := Classical.axiomOfChoice each
  have hlen : ((List.range n).map f).length = n := by simp
  refine ⟨(List.range n).map f, hlen, ⟨fun hne => ?_, fun x hx => ?_, fun hp => ?_⟩⟩
  · have h0 : 0 < n := by
      rcases Nat.eq_zero_or_pos n with e | e
      · subst e; simp at hne
      · exact e
    obtain ⟨b, o, rfl, hr⟩ := h.lies h0
    refine ⟨b, o, rfl, fun j u hu => ?_⟩
    have hj : j < n * 8 := by
      have := (List.getElem?_eq_some_iff.1 hu).1
      rw [ecl_length, hlen] at this; exact this
    have hi : j / 8 < n := by omega
    have h1 := flat_get EvP.cells_len ((List.range n).map f) (j / 8) (by rw [hlen]; exact hi) (j % 8) (by omega)
    rw [show j / 8 * 8 + j % 8 = j by omega] at h1
    change (ecl _)[j]? = _ at h1
    rw [h1] at hu
    simp only [List.getElem_map, List.getElem_range] at hu
    have h2 := hr (j / 8) hi
    rw [(hf (j / 8) hi).1] at h2
    have h3 := h2 (j % 8) u hu
    rw [show o + j / 8 * 8 + j % 8 = o + j by omega] at h3
    exact h3
  · obtain ⟨i, hi, rfl⟩ := List.mem_map.1 hx
    exact (hf i (List.mem_range.1 hi)).2
  · have := (h.nil hp).1
    subst this; rfl
theorem trod_past {f0 f1 : Field} (ht : P.underlying t = some (.struct #[f0, f1])) (V : Vec P a i) (hci : P.cellsOf i = 1) (hca : P.cellsOf a = 64) (hs : P.underlying s = some (.slice e)) (hcs : P.cellsOf s = 1) (hce : P.cellsOf e = 8) (hc : P.cellsOf t = 65)
    (h0 : f0.type = s ∧ f0.offset = 0) (h1 : f1.type = a ∧ f1.offset = 1) (hQ : ∀ (n : Nat) (cs : List Value) (x : DataW H × List MemPlace), DataW.trod enc P W 0 (fun _ => true) true n e cs = some x → IsEv W cs)
    (h : DataW.trod enc P W 0 (fun _ => true) true fuel t cs = some x) : ∃ F p n c E, cs = .slice p n c :: (vf F).toList ∧ Wide F ∧ CameR W p n c 8 (IsEv W) E := by
  obtain ⟨ys, n, _, _, hl, hn, hg⟩ := DataW.trod_struct ht h
  rw [hc] at hl
  simp at hn
  have h2 := hg 0 f0 rfl
  rw [h0.1, h0.2, hcs, List.getElem?_eq_getElem (by omega)] at h2
  obtain ⟨p, m, c, E, hE, hC⟩ := leaf_things hs hce (by omega) hQ h2
  have h4 := hg 1 f1 rfl
  rw [h1.1, h1.2, hca, List.getElem?_eq_getElem (by omega)] at h4
  obtain ⟨F, hF, wF⟩ := vec_cells V hci hca h4
  refine ⟨F, p, m, c, E, ?_, wF, hC⟩
  have hz := take_one hE
  rw [← hF, List.take_of_length_le (by simp; omega)]
  match cs, hl, hz with
  | c :: cs, _, hz => simp at hz; subst hz; rfl
end
/-- a slice of events that came in -/
theorem open_evs {H : Type} {enc : TypeId × Value → H} {W : World} {base : Nat} {v : Value} {d : DataW H} {ps : List MemPlace} (hv : Value.okWide Tryd.prog W .any base 34 v)
    (h : DataW.Trod enc Tryd.prog W 0 (fun _ => true) true 34 v d ps) : ∃ (p : Option Addr) (c : Nat) (L : List EvP), v = .slice p L.length c ∧ EvsAt W p L ∧ (∀ a, p = some a → ∃ b o, a = ⟨b, o, none⟩) ∧ L.length ≤ c := by
  obtain ⟨p, n, c, E, rfl, hC⟩ := open_things Tryd.underlying34 (k := 8) (Q := IsEv W) (by kernel_rfl) (by omega) (fun n cs x h => trod_event Tryd.underlying31 Tryd.underlying28 Tryd.underlying3 Tryd.underlying9 Tryd.underlying29 (by kernel_rfl) (by kernel_rfl) (by kernel_rfl) (by kernel_rfl) (by kernel_rfl) ⟨rfl, rfl⟩ ⟨rfl, rfl⟩ ⟨rfl, rfl⟩ ⟨rfl, rfl⟩ ⟨rfl, rfl⟩ ⟨rfl, rfl⟩ ⟨rfl, rfl⟩ ⟨rfl, rfl⟩ ⟨rfl, rfl⟩ h) hv h
  obtain ⟨L, hl, hD⟩ := evs_lie hC
  refine ⟨p, c, L, by rw [hl], hD, fun a e => ?_, by rw [hl]; exact hC.le⟩
  subst e
  simp only [Value.okWide, Cell.okWide, Tryd.underlying34, Cell.ok, World.has] at hv
  obtain ⟨b, o, spot⟩ := a
  obtain rfl : spot = none := hv.2.2.2.1
  exact ⟨b, o, rfl⟩
end Go.Proofs.YtjmglgcifekhgaaDoor
/- States that came in, by value. -/
namespace Go.Proofs.YtjmglgcifekhgaaDoor
open Go Go.ChangeShapes Go.WideShapes Go.ChangeAt Go.RowKit
set_option linter.unusedVariables false
set_option maxRecDepth 1000000

/-- writes that came in lie where they are -/
theorem wrs_lie {W : World} {p : Option Addr} {n c : Nat} {E : Nat → List Value} (h : CameR W p n c 6 IsWrite E) : ∃ L : List Wr, L.length = n ∧ WrsAt W p L := by
  have each : ∀ i, ∃ x : Wr, i < n → E i = x.cells := fun i => by
    by_cases hi : i < n
    · obtain ⟨r, m, t, f, d, x, he, _⟩ := (h.each i hi).1
      exact ⟨⟨r, m, t, d, f, x⟩, fun _ => he⟩
    · exact ⟨⟨0, 0, 0, ByteArray.empty, 0, ByteArray.empty⟩, fun h => absurd h hi⟩
  obtain ⟨f, hf⟩ := Classical.axiomOfChoice each
  have hlen : ((List.range n).map f).length = n := by simp
  refine ⟨(List.range n).map f, hlen, ⟨fun hne => ?_, fun hp => ?_⟩⟩
  · have h0 : 0 < n := by
      rcases Nat.eq_zero_or_pos n with e | e
      · subst e; simp at hne
      · exact e
    obtain ⟨b, o, rfl, hr⟩ := h.lies h0
    refine ⟨b, o, rfl, fun j u hu => ?_⟩
    have hj : j < n * 6 := by
      have := (List.getElem?_eq_some_iff.1 hu).1
      rw [wcl_length, hlen] at this; exact this
    have hi : j / 6 < n := by omega
    have h1 := flat_get Wr.cells_len ((List.range n).map f) (j / 6) (by rw [hlen]; exact hi) (j % 6) (by omega)
    rw [show j / 6 * 6 + j % 6 = j by omega] at h1
    change (wcl _)[j]? = _ at h1
    rw [h1] at hu
    simp only [List.getElem_map, List.getElem_range] at hu
    have h2 := hr (j / 6) hi
    rw [hf (j / 6) hi] at h2
    have h3 := h2 (j % 6) u hu
    rw [show o + j / 6 * 6 + j % 6 = o + j by omega] at h3
    exact h3
  · have := (h.nil hp).1
    subst this; rfl
section
variable {H : Type} {enc : TypeId × Value → H} {P : Program} {W : World} {base fuel : Nat} {t e s a i : TypeId} {v : Value} {d : DataW H} {ps : List MemPlace} {cs : List Value} {x : DataW H × List MemPlace}
theorem trod_state {f0 f1 : Field} {Q : List Value → Prop} (ht : P.underlying t = some (.struct #[f0, f1])) (V : Vec P a i) (hci : P.cellsOf i = 1) (hca : P.cellsOf a = 64) (hs : P.underlying s = some (.slice e)) (hcs : P.cellsOf s = 1) (hce : P.cellsOf e = 6) (hc : P.cellsOf t = 65)
    (h0 : f0.type = a ∧ f0.offset = 0) (h1 : f1.type = s ∧ f1.offset = 64) (hQ : ∀ (n : Nat) (cs : List Value) (x : DataW H × List MemPlace), DataW.trod enc P W 0 (fun _ => true) true n e cs = some x → Q cs)
    (h : DataW.trod enc P W 0 (fun _ => true) true fuel t cs = some x) : ∃ F p n c E, cs = (vf F).toList ++ [.slice p n c] ∧ Wide F ∧ CameR W p n c 6 Q E := by
  obtain ⟨ys, n, _, _, hl, hn, hg⟩ := DataW.trod_struct ht h
  rw [hc] at hl
  simp at hn
  have h2 := hg 0 f0 rfl
  rw [h0.1, h0.2, hca, List.getElem?_eq_getElem (by omega)] at h2
  obtain ⟨F, hF, wF⟩ := vec_cells V hci hca h2
  have h4 := hg 1 f1 rfl
  rw [h1.1, h1.2, hcs, List.getElem?_eq_getElem (by omega)] at h4
  obtain ⟨p, m, c, E, hE, hC⟩ := leaf_things hs hce (by omega) hQ h4
  refine ⟨F, p, m, c, E, ?_, wF, hC⟩
  rw [← hF, ← hE, List.drop_zero, List.take_of_length_le (l := List.drop 64 cs) (by simp; omega), List.take_append_drop]
end
theorem typesSt : (Tryd.prog.cellTypes Tryd.prog.depth 26).map (fun ts => (ts.length, ts[64]?)) = some (65, some 24) := by kernel_rfl
/-- a state that came in -/
theorem open_state {H : Type} {enc : TypeId × Value → H} {W : World} {base : Nat} {v : Value} {d : DataW H} {ps : List MemPlace} (hv : Value.okWide Tryd.prog W .any base 26 v)
    (h : DataW.Trod enc Tryd.prog W 0 (fun _ => true) true 26 v d ps) : ∃ (F : Nat → Int) (p : Option Addr) (c : Nat) (L : List Wr), v = .agg (scs F (.slice p L.length c)) ∧ WrsAt W p L ∧ (∀ a, p = some a → ∃ b o, a = ⟨b, o, none⟩) := by
  obtain ⟨fuel, hf⟩ := h
  obtain ⟨F, p, n, c, E, hcs, _, hC⟩ := trod_state Tryd.underlying26 vecI (by kernel_rfl) (by kernel_rfl) Tryd.underlying24 (by kernel_rfl) (by kernel_rfl) (by kernel_rfl) ⟨rfl, rfl⟩ ⟨rfl, rfl⟩
    (fun n cs x h => trod_write Tryd.underlying50 Tryd.underlying28 Tryd.underlying3 Tryd.underlying9 (by kernel_rfl) (by kernel_rfl) (by kernel_rfl) (by kernel_rfl) ⟨rfl, rfl⟩ ⟨rfl, rfl⟩ ⟨rfl, rfl⟩ ⟨rfl, rfl⟩ ⟨rfl, rfl⟩ ⟨rfl, rfl⟩ ⟨rfl, rfl⟩ h) hf
  simp only [Value.okWide, Tryd.underlying26] at hv
  obtain ⟨xs, rfl, hxs, ts, hts, _, hrow⟩ := hv
  simp only [Value.cells] at hcs
  have hx : xs = scs F (.slice p n c) := by
    apply Array.toList_inj.1
    rw [hcs, scs]
  subst hx
  obtain ⟨L, hl, hD⟩ := wrs_lie hC
  have hT := typesSt
  rw [hts] at hT
  simp only [Option.map_some, Option.some.injEq, Prod.mk.injEq] at hT
  obtain ⟨u, hu, hok⟩ := hrow 64 (.slice p n c) (scs_slot _ _)
  rw [hT.1, show 64 % 65 = 64 from rfl, hT.2] at hu
  obtain rfl := Option.some.inj hu
  refine ⟨F, p, c, L, by rw [hl], hD, fun a e => ?_⟩
  subst e
  simp only [Cell.okWide, Tryd.underlying24, Cell.ok, World.has] at hok
  obtain ⟨b, o, spot⟩ := a
  obtain rfl : spot = none := hok.2.2.2.1
  exact ⟨b, o, rfl⟩
end Go.Proofs.YtjmglgcifekhgaaDoor
/- The table of shapes out of what the rows list; a world that holds it. -/
namespace Go.Proofs.YtjmglgcifekhgaaDoor
open Go Go.ChangeShapes Go.WideShapes Go.ChangeAt Go.RowKit

def shapeRows : List (List Int) := [[127, 0, 0], [2047, 192, 1], [65535, 224, 2], [1114111, 240, 3]]
theorem gShapes : Tryd.prog.globalNamed "scholia/utf.shapes" = some 0 := by kernel_rfl
theorem gShapesType : (Tryd.prog.globals[0]?).map (·.type) = some 120 := by kernel_rfl

theorem shapes_of {W : World} {l : List (String × DataW Unit)} (h : laidMet Tryd.prog l W) (hm : ("scholia/utf.shapes", Rows.laid_scholia_utf_shapes) ∈ l) : Shapes W := by
  obtain ⟨ps, hv, _⟩ := h
  obtain ⟨g, t, cs, fuel, p, h1, h2, h3, h4⟩ := laid_mem hv hm
  obtain rfl := Option.some.inj (gShapes.symm.trans h1)
  obtain rfl := Option.some.inj (gShapesType.symm.trans h2)
  have hr := rows_array (m := 3) (e := 3) (rows := shapeRows) Tryd.underlying120 Tryd.underlying119 Tryd.underlying3 (by kernel_rfl) (by kernel_rfl) rfl
    (fun i f h => by
      match i, h with
      | 0, h => cases h; exact ⟨rfl, rfl⟩
      | 1, h => cases h; exact ⟨rfl, rfl⟩
      | 2, h => cases h; exact ⟨rfl, rfl⟩
      | n + 3, h => simp at h)
    (by decide) h4
  have hc : ∀ i, i < 4 → ∀ j, j < 3 → W.cell? ⟨0, i * 3 + j, none⟩ = some (.int .i64 ((shapeRows.getD i []).getD j 0)) := fun i hi j hj => by
    have := hr i hi j hj
    rw [World.var?_cell gShapes h3, ← Array.getElem?_toList]
    exact this
  exact ⟨hc 0 (by omega) 0 (by omega), hc 0 (by omega) 1 (by omega), hc 0 (by omega) 2 (by omega), hc 1 (by omega) 0 (by omega), hc 1 (by omega) 1 (by omega), hc 1 (by omega) 2 (by omega),
    hc 2 (by omega) 0 (by omega), hc 2 (by omega) 1 (by omega), hc 2 (by omega) 2 (by omega), hc 3 (by omega) 0 (by omega), hc 3 (by omega) 1 (by omega), hc 3 (by omega) 2 (by omega)⟩

theorem laid_of {W : World} (h : laidMetH Tryd.prog [("scholia/utf.shapes", Rows.laid_scholia_utf_shapes)] W) : Shapes W := shapes_of h (by simp)

noncomputable def laidWorld (os : Os) : World :=
  { World.holding Tryd.prog os ⟨#[], #[], []⟩ with heap := (World.holding Tryd.prog os ⟨#[], #[], []⟩).heap.modify 0 fun
      | .cells _ t frozen => .cells ((shapeRows.flatten).map (Value.int .i64)).toArray t frozen
      | o => o }
theorem laid_met (os : Os) (args : Array Value) : laidMet Tryd.prog [("scholia/utf.shapes", Rows.laid_scholia_utf_shapes)] ((laidWorld os).forCall (fun _ _ => 0) ⟨#[], args, []⟩).memory :=
  laidMet_of_run' 8 (by kernel_rfl) (by kernel_rfl)
end Go.Proofs.YtjmglgcifekhgaaDoor
/- The law DocsBack, out of its walk: for every input it answers true, and what it was handed reads as it did. -/
namespace Go.Proofs.YtjmglgcifekhgaaDoor.docsBack
open Go Go.ChangeShapes Go.WideShapes Go.ChangeAt Go.RowKit
set_option linter.unusedVariables false

theorem own : ownKnob Tryd.prog.godebug = none := by kernel_rfl
theorem laidOut : laidOutB Tryd.prog = true := by kernel_rfl

set_option maxRecDepth 100000 in
theorem contract (H : Type) (enc : TypeId × Value → H) (W : World) (base : Nat) (args : Array Value) (ds gs : List (DataW H)) (before : List MemPlace)
    (hval0 : ∀ (j : Nat) t v, Tryd.f4.params[j]? = some t → args[j]? = some v → Value.okWide Tryd.prog W .any base t v)
    (hW : DataW.Whole enc Tryd.prog Tryd.f4.params.toList Rows.docsBackSpec.vars false W args.toList ds gs before)
    (hsz0 : (DataW.weightsEach Tryd.prog (Tryd.f4.params.toList ++ (OpenSpec.ofChange Rows.docsBackSpec).bare.plain.varTypes Tryd.prog) (ds ++ gs)).all (· ≤ reachBytes) = true) (hL : laidMetH Tryd.prog Rows.docsBackRow.laid W) :
    Calls Tryd.prog 4 args W fun e W' => ∃ v, e = .returned v ∧ Rows.docsBackSpec.post enc Tryd.prog Tryd.f4 false true false false W args v W' := by
  have hval : ∀ (j : Nat) t v, Tryd.f4.params[j]? = some t → args[j]? = some v → Value.okWide Tryd.prog W .any base t v := hval0
  have hsz : (DataW.weightsEach Tryd.prog (Tryd.f4.params.toList ++ (OpenSpec.ofChange Rows.docsBackSpec).bare.plain.varTypes Tryd.prog) (ds ++ gs)).all (· ≤ reachBytes) = true := hsz0
  have hW' := hW
  obtain ⟨p, q, hA0, hV, rfl, hfz, hnd⟩ := hW
  have hA : DataW.TrodAll enc Tryd.prog W 0 (fun _ => true) true Tryd.f4.params.toList args.toList ds p := hA0
  rw [Tryd.params4] at hA hval hsz
  obtain ⟨v0, vs0, d0, ds0, p0, q0, hargs, rfl, rfl, h0, r0⟩ := trodAll_cons hA
  obtain ⟨v1, vs1, d1, ds1, p1, q1, rfl, rfl, rfl, h1, r1⟩ := trodAll_cons r0
  obtain ⟨rfl, rfl, rfl⟩ := trodAll_nil r1
  obtain rfl : args = #[v0, v1] := by cases args; simp_all
  obtain ⟨rfl, rfl⟩ := trodVars_none hV
  have k0 := h0
  have lt0 : ∀ x ∈ p0, x.block < W.heap.size := by obtain ⟨m, hm⟩ := k0; exact DataW.trod_lt m _ _ _ hm
  obtain ⟨F0, a0, c0, l0, rfl, w0, n0⟩ := open_state (hval 0 26 v0 rfl rfl) h0
  have k1 := h1
  have lt1 : ∀ x ∈ p1, x.block < W.heap.size := by obtain ⟨m, hm⟩ := k1; exact DataW.trod_lt m _ _ _ hm
  obtain ⟨a1, c1, l1, rfl, w1⟩ := open_bytes Tryd.underlying41 Tryd.underlying5 (by kernel_rfl) (by kernel_rfl) (hval 1 41 v1 rfl rfl) h1 hsz 1 rfl rfl
  clear hA0 hval0
  refine (docsBack_walk F0 a0 c0 l0 a1 c1 l1 W w0 n0 w1 (laid_of hL)).mono fun e W' ⟨he, bel⟩ => ?_
  subst he
  exact ⟨_, rfl, _, _, _, [], _, [], hW', trodAll_mk1 (shut_bool Tryd.underlying4 _), (trodAll_cons_mk (Below.trod laidOut (by kernel_rfl) (of_decide_eq_true (by kernel_rfl)) k0 bel lt0) (trodAll_cons_mk (Below.trod laidOut (by kernel_rfl) (of_decide_eq_true (by kernel_rfl)) k1 bel lt1) trodAll_mk0)), rfl, bel.frame _, fun h => by cases h⟩

theorem reads (os : Os) {H : Type} (enc : TypeId × Value → H) : ∃ places, DataW.whole enc Tryd.prog ((laidWorld os).forCall (fun _ _ => 0) ⟨#[], #[.agg ((Array.replicate 64 (Value.int .i64 0)).push (Value.slice none 0 0)), .slice none 0 0], []⟩).memory Tryd.f4.params.toList Rows.docsBackSpec.vars false #[.agg ((Array.replicate 64 (Value.int .i64 0)).push (Value.slice none 0 0)), .slice none 0 0].toList 8 = some ([.agg [.agg (List.replicate 64 (.lit (.int .i64 0))), .nil], .nil], [], places) :=
  ⟨[], by kernel_rfl⟩

set_option maxRecDepth 100000 in
theorem lifted (os : Os) (started : os.Started) (H : Type) (enc : TypeId × Value → H) (F : Stop.Interp) :
    ReturnsInHanded {} Tryd.checked os 4 .any ((OpenSpec.ofChange Rows.docsBackSpec).preRow enc Tryd.prog Tryd.f4 Rows.docsBackRow.domain false Rows.docsBackRow.laid) (((OpenSpec.ofChange Rows.docsBackSpec).at F).post enc Tryd.prog Tryd.f4 false true false false) := by
  obtain ⟨places, hx⟩ := reads os enc
  refine returnsInHanded_of_row (C := Tryd.checked) (s := (OpenSpec.ofChange Rows.docsBackSpec)) own started (by kernel_rfl) Tryd.func4
    (witness_row_at (enc := enc) (C := Tryd.checked) false (laidWorld os) #[.agg ((Array.replicate 64 (Value.int .i64 0)).push (Value.slice none 0 0)), .slice none 0 0] rfl (by kernel_rfl) (by kernel_rfl) (by kernel_rfl)
      (OpenSpec.preRow_of_cond 8 hx (by kernel_rfl) (fun k hk => by cases hk) (by kernel_rfl) (laid_met os _))) ?_
  intro W base args ds gs before hval hW _ hcond hsz hL _ _
  exact contract H enc W base args ds gs before hval hW hsz hL

theorem said : Rows.DocsBackSaid :=
  OpenClaim.holds_of_cond 4 Tryd.f4 rfl rfl rfl rfl rfl rfl rfl ⟨rfl, rfl, rfl, rfl, rfl⟩ rfl rfl rfl rfl rfl (by kernel_rfl) Tryd.func4 (by kernel_rfl)
    (of_decide_eq_true (by kernel_rfl)) (by unfold Func.isWrapper; first | (rw [if_pos (by decide +kernel)]; kernel_rfl) | (rw [if_neg (by decide +kernel)]; exact ⟨rfl, rfl⟩))
    (fun os started H enc _ F => by rw [OpenClaim.pre_eq_preRow]; exact lifted os started H enc F)

theorem plain (f : FuncId) (fn : Func) (hf : Tryd.pinned.checked.prog.funcNamed "scholia/scholialaw12.DocsBack" = some f) (hfn : Tryd.pinned.checked.prog.funcs[f]? = some fn) :
    false = Tryd.pinned.checked.prog.looks [] ∧ ∀ (j : Nat) t, fn.params[j]? = some t → Tryd.pinned.checked.prog.wantsStandIn t = false := by
  obtain rfl : f = 4 := Option.some.inj ((show Tryd.prog.funcNamed "scholia/scholialaw12.DocsBack" = some 4 by kernel_rfl).symm.trans hf) |>.symm
  obtain rfl : fn = Tryd.f4 := (Option.some.inj (Tryd.func4.symm.trans hfn)).symm
  refine ⟨by kernel_rfl, fun j t ht => ?_⟩
  rw [Tryd.params4] at ht
  have hm : t ∈ [26, 41] := by simpa using Array.mem_of_getElem? ht
  have hall : ([26, 41].all fun u => !Tryd.prog.wantsStandIn u) = true := by kernel_rfl
  exact (show Tryd.prog.wantsStandIn t = false by simpa using List.all_eq_true.1 hall t hm)

theorem card : Rows.DocsBackCardSaid :=
  Claim7.holds_tied_plain_at .later [] _ _ _ _ said (fun _ h => by cases h) (by kernel_rfl) (fun _ h => by cases h) docsBack_row_tie rfl ⟨rfl, rfl⟩ (by kernel_rfl) rfl plain (by kernel_rfl)
#print axioms card
end Go.Proofs.YtjmglgcifekhgaaDoor.docsBack
