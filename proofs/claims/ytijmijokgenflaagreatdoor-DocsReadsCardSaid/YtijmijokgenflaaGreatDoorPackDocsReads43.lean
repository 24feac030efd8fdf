/- The statement DocsReads, proved for every input that its row reads: part 43 of 54. -/
import Derived.Test.YtijmijokgenflaaGreatDoorPackDocsReads28
import Derived.Test.YtijmijokgenflaaGreatDoorPackDocsReads42
import Derived.Test.YtijmijokgenflaaGreatDoorPackDocsReads15
/- The document's Of: a state's writes of a document, of a field. -/
namespace Go.Proofs.YtijmijokgenflaaGreatDoor
open Go Go.RowKit
set_option linter.unusedVariables false
set_option maxRecDepth 1000000

theorem ofW_snoc (L : List Wr) (y : Wr) (doc : ByteArray) (field : Int) : ofW (L ++ [y]) doc field = ofW L doc field ++ (if notOf doc field y then [] else [y]) := by
  unfold ofW
  rw [List.filter_append]
  congr 1
  cases e : notOf doc field y <;> simp [List.filter_cons, e]
theorem ofW_len (L : List Wr) (doc : ByteArray) (field : Int) : (ofW L doc field).length ≤ L.length := List.length_filter_le _ _
set_option maxHeartbeats 4000000 in
theorem refOf_is (F : Nat → Int) (p : Option Addr) (c : Nat) (L : List Wr) (doc : ByteArray) (field : Int) (w : World) (h : WrsAt w p L) (hn : L.length ≤ 1000) :
    Calls Tryz.prog 10 #[.agg (scs F (.slice p L.length c)), .string doc, .int .i64 field] w (LeftW w (ofW L doc field)) := by
  have HW := Lib.hid h
  clear h
  go_enter Tryz.func10, Tryz.ntmps10
  go_wp2_with (refine wpList_gbox rfl _ rfl (scs F (.slice p L.length c)) rfl ?_)
  intro g2 w1 l2 h2 hb1
  have S1 : Hid (Sx w1 g2 F (.slice p L.length c)) := Lib.hid h2
  have B1 := Lib.hid hb1
  clear h2 hb1
  have s1 := S1.out.slot
  go_wp2_with fail
  clear s1 S1
  go_loopw [7, 13] (fun v i wr => ∃ k : Nat, k ≤ L.length ∧ i = .int .i64 k ∧ Hid (wr.ownsRow w.heap.size 39 6 v (ofW (L.take k) doc field).length (wcl (ofW (L.take k) doc field))) ∧ Hid (Below w.heap.size w wr)) (fun _ i _ => L.length - (RowKit.intOf i).toNat)
  case atStart => exact ⟨0, Nat.zero_le _, rfl, Lib.hid ⟨rfl, .inl ⟨rfl, rfl⟩⟩, B1⟩
  case round =>
    clear B1
    obtain ⟨k, hk, rfl, OO, BB⟩ := hrel
    obtain ⟨q, cq, hq⟩ := own_slice OO.out
    subst hq
    by_cases hkl : k < L.length
    · have hkl' : (k : Int) < L.length := by omega
      obtain ⟨b, o, rfl, hlt, hr⟩ := (HW.out.below BB.out).at hkl
      obtain ⟨c0, c1, c2, c3, c4, c5⟩ := wr_cells hr
      have TK0 : Hid (ofW (L.take (k + 1)) doc field = ofW (L.take k) doc field ++ (if notOf doc field L[k] then [] else [L[k]])) := Lib.hid (by rw [List.take_succ_eq_append_getElem hkl, ofW_snoc])
      have ML : (ofW (L.take k) doc field).length ≤ 1000 := by
        have := ofW_len (L.take k) doc field
        rw [List.length_take] at this; omega
      clear hr hlt
      obtain ⟨y, hy⟩ : ∃ y, L[k] = y := ⟨_, rfl⟩
      rw [hy] at c0 c1 c2 c3 c4 c5 TK0
      clear hy
      obtain ⟨r, n, t, d, fl, tx⟩ := y
      simp only at c0 c1 c2 c3 c4 c5
      generalize ofW (L.take k) doc field = M at OO TK0 ML
      have TK : Hid (notOf doc field ⟨r, n, t, d, fl, tx⟩ = false → ofW (L.take (k + 1)) doc field = M ++ [⟨r, n, t, d, fl, tx⟩]) := Lib.hid fun e => by rw [TK0.out, e]; rfl
      have TN : Hid (notOf doc field ⟨r, n, t, d, fl, tx⟩ = true → ofW (L.take (k + 1)) doc field = M) := Lib.hid fun e => by rw [TK0.out, e]; simp
      have b7 := below_alloc wr (.cells #[.int .i64 r, .int .i64 n, .int .i64 t, .string d, .int .i64 fl, .string tx] 39)
      have B7 := Lib.hid (thenBelow BB.out b7)
      have O7 := Lib.hid (own_later OO.out b7)
      clear b7 TK0
      have NB : Hid (notOf doc field ⟨r, n, t, d, fl, tx⟩ = (!(d.toList == doc.toList) || (decide (field ≥ 0) && (fl != field)))) := Lib.hid rfl
      cases e1 : (d.toList == doc.toList) with
      | false =>
        have HB : notOf doc field ⟨r, n, t, d, fl, tx⟩ = true := by rw [NB.out, e1]; rfl
        have O6 : Hid ((wr.alloc (.cells #[.int .i64 r, .int .i64 n, .int .i64 t, .string d, .int .i64 fl, .string tx] 39)).ownsRow w.heap.size 39 6 (.slice q (ofW (L.take (k + 1)) doc field).length cq) (ofW (L.take (k + 1)) doc field).length (wcl (ofW (L.take (k + 1)) doc field))) := Lib.hid (by rw [TN.out HB]; exact O7.out)
        have QL : Hid (M.length = (ofW (L.take (k + 1)) doc field).length) := Lib.hid (by rw [TN.out HB])
        go_wp2
        go_roundw
        case rel => exact ⟨k + 1, by omega, by go_num, by rw [QL.out]; exact O6, B7⟩
        case measure => simp [RowKit.intOf]; omega
      | true =>
        by_cases h0 : field < 0
        · have HB : notOf doc field ⟨r, n, t, d, fl, tx⟩ = false := by rw [NB.out, e1, decide_eq_false (by omega)]; rfl
          go_wp2_with (at_builtin; refine wpList_wr _ rfl _ _ rfl w.heap.size M.length (wcl M) _ rfl O7.out ⟨r, n, t, d, fl, tx⟩ (by rw [World.size_alloc]; rfl) (by omega) B7.out.size ?_)
          intro v6 w6 o6 g6
          have B6 := Lib.hid (B7.out.grown g6 B7.out.size (fun k hk => (O7.out.lt k hk).1))
          have O6 : Hid (w6.ownsRow w.heap.size 39 6 v6 (ofW (L.take (k + 1)) doc field).length (wcl (ofW (L.take (k + 1)) doc field))) := Lib.hid (by rw [TK.out HB, wcl_append, List.length_append]; simpa [wcl] using o6)
          clear o6 g6 c0 c1 c2 c3 c4 c5
          go_wp2
          go_roundw
          case rel => exact ⟨k + 1, by omega, by go_num, O6, B6⟩
          case measure => simp [RowKit.intOf]; omega
        · by_cases hf : fl = field
          · subst hf
            have HB : notOf doc fl ⟨r, n, t, d, fl, tx⟩ = false := by rw [NB.out, e1]; simp
            go_wp2_with (at_builtin; refine wpList_wr _ rfl _ _ rfl w.heap.size M.length (wcl M) _ rfl O7.out ⟨r, n, t, d, fl, tx⟩ (by rw [World.size_alloc]; rfl) (by omega) B7.out.size ?_)
            intro v6 w6 o6 g6
            have B6 := Lib.hid (B7.out.grown g6 B7.out.size (fun k hk => (O7.out.lt k hk).1))
            have O6 : Hid (w6.ownsRow w.heap.size 39 6 v6 (ofW (L.take (k + 1)) doc fl).length (wcl (ofW (L.take (k + 1)) doc fl))) := Lib.hid (by rw [TK.out HB, wcl_append, List.length_append]; simpa [wcl] using o6)
            clear o6 g6 c0 c1 c2 c3 c4 c5
            go_wp2
            go_roundw
            case rel => exact ⟨k + 1, by omega, by go_num, O6, B6⟩
            case measure => simp [RowKit.intOf]; omega
          · have HB : notOf doc field ⟨r, n, t, d, fl, tx⟩ = true := by rw [NB.out, e1, decide_eq_true (by omega)]; simp [hf]
            have hf' : (fl == field) = false := by simp [hf]
            have O6 : Hid ((wr.alloc (.cells #[.int .i64 r, .int .i64 n, .int .i64 t, .string d, .int .i64 fl, .string tx] 39)).ownsRow w.heap.size 39 6 (.slice q (ofW (L.take (k + 1)) doc field).length cq) (ofW (L.take (k + 1)) doc field).length (wcl (ofW (L.take (k + 1)) doc field))) := Lib.hid (by rw [TN.out HB]; exact O7.out)
            have QL : Hid (M.length = (ofW (L.take (k + 1)) doc field).length) := Lib.hid (by rw [TN.out HB])
            go_wp2
            go_roundw
            case rel => exact ⟨k + 1, by omega, by go_num, by rw [QL.out]; exact O6, B7⟩
            case measure => simp [RowKit.intOf]; omega
    · obtain rfl : k = L.length := by omega
      have hkl' : ¬ ((L.length : Nat) : Int) < L.length := by omega
      have TZ : L.take L.length = L := List.take_length
      rw [TZ] at OO
      rw [TZ]
      go_wp2
      go_ret
      exact ⟨_, rfl, OO.out, BB.out⟩
end Go.Proofs.YtijmijokgenflaaGreatDoor
/- The document's Read. -/
namespace Go.Proofs.YtijmijokgenflaaGreatDoor
open Go Go.RowKit
set_option linter.unusedVariables false
set_option maxRecDepth 1000000

/-- does a write stand ahead of another by time, then by dot? -/
def aheadT (x y : Wr) : Bool := decide (x.time < y.time) || (decide (x.time = y.time) && lessD x.rep x.n y.rep y.n)
theorem aheadT_cmp (x y : Wr) : aheadT x y = decide (cmpT x y < 0) := by
  unfold aheadT cmpT orL orL orL cmpI
  by_cases h1 : x.time < y.time
  · simp [h1]
  · by_cases h2 : x.time > y.time
    · have h3 : ¬ x.time = y.time := by omega
      simp [h1, h2, h3]
    · have h3 : x.time = y.time := by omega
      have := cmpD_lt x.rep x.n y.rep y.n
      simp [h3, ← this]
      by_cases h4 : cmpD x.rep x.n y.rep y.n = 0 <;> simp [h4]
theorem cmpT_ge (x y : Wr) : cmpT x y ≥ 0 ↔ aheadT x y = false := by
  rw [aheadT_cmp, decide_eq_false_iff_not]; omega
def wcsT (r n t f : Int) (d x : ByteArray) : Array Value := #[.int .i64 r, .int .i64 n, .int .i64 t, .string d, .int .i64 f, .string x]
def aheadWT (r n t r' n' t' : Int) : Bool := decide (t < t') || (decide (t = t') && lessD r n r' n')
set_option maxHeartbeats 1000000 in
set_option maxRecDepth 100000 in
theorem aheadT_is (r n t f r' n' t' f' : Int) (d x d' x' : ByteArray) (w : World) :
    Calls Tryz.prog 26 #[.agg (wcsT r n t f d x), .agg (wcsT r' n' t' f' d' x')] w fun e w' => e = .returned (.bool (aheadWT r n t r' n' t')) ∧ Below w.heap.size w w' := by
  have L0 : Hid (aheadWT r n t r' n' t' = (decide (t < t') || (decide (t = t') && lessD r n r' n'))) := rfl
  go_enter Tryz.func26, Tryz.ntmps26
  go_wp2_with (refine wpList_gbox rfl _ rfl (wcsT r n t f d x) rfl ?_)
  intro ga w1 la hA hb1
  have B1 := Lib.hid hb1
  have A0 := Lib.hid ((cell_of_row _ ga 0 _ _ _ hA).trans (show _ = some (.int .i64 r) from rfl))
  have A1 := Lib.hid ((cell_of_row _ ga 1 _ _ _ hA).trans (show _ = some (.int .i64 n) from rfl))
  have A2 := Lib.hid ((cell_of_row _ ga 2 _ _ _ hA).trans (show _ = some (.int .i64 t) from rfl))
  clear hA hb1
  go_wp2_with (refine wpList_gbox rfl _ rfl (wcsT r' n' t' f' d' x') rfl ?_)
  intro gb w2 lb hB hb2
  have B2 := Lib.hid (thenBelow B1.out hb2)
  have b0 := (cell_of_row _ gb 0 _ _ _ hB).trans (show _ = some (.int .i64 r') from rfl)
  have b1 := (cell_of_row _ gb 1 _ _ _ hB).trans (show _ = some (.int .i64 n') from rfl)
  have b2 := (cell_of_row _ gb 2 _ _ _ hB).trans (show _ = some (.int .i64 t') from rfl)
  have a0 := (hb2.cell (p := ⟨ga, 0, none⟩) (World.block_lt_of_cell? _ _ A0.out)).trans A0.out
  have a1 := (hb2.cell (p := ⟨ga, 1, none⟩) (World.block_lt_of_cell? _ _ A1.out)).trans A1.out
  have a2 := (hb2.cell (p := ⟨ga, 2, none⟩) (World.block_lt_of_cell? _ _ A2.out)).trans A2.out
  clear hB hb2
  have LE := Lib.hid (less_is r n r' n' w2)
  by_cases h1 : t < t'
  · go_wp2
    go_ret
    exact ⟨ret_bool (by rw [L0.out]; simp [h1]), B2.out⟩
  · by_cases h2 : t = t'
    · subst h2
      have L1 : Hid (aheadWT r n t r' n' t = lessD r n r' n') := by show _ = _; rw [L0.out]; simp
      generalize lessD r n r' n' = y at LE L1
      clear L0
      go_wp2_with fail
      refine LE.out.mono ?_
      rintro e w3 ⟨rfl, hb3⟩
      have B3 := Lib.hid (thenBelow B2.out hb3)
      clear hb3 a0 a1 a2 b0 b1 b2
      go_wp2
      go_ret
      exact ⟨ret_bool (by first | (rw [L1.out]; done) | (rw [L1.out]; simp)), B3.out⟩
    · have h3 : (t == t') = false := by simpa using h2
      have L1 : Hid (aheadWT r n t r' n' t' = false) := by show _ = _; rw [L0.out]; simp [h1, h2]
      clear L0
      go_wp2
      go_ret
      exact ⟨ret_bool (by first | (rw [L1.out]; done) | (rw [L1.out]; simp)), B2.out⟩

theorem refAheadT_is (x y : Wr) (w : World) : Calls Tryz.prog 26 #[.agg x.cells.toArray, .agg y.cells.toArray] w fun e w' => e = .returned (.bool (aheadT x y)) ∧ Below w.heap.size w w' :=
  aheadT_is x.rep x.n x.time x.field y.rep y.n y.time y.field x.doc x.text y.doc y.text w
theorem dvA_dcv (i a b c d : ByteArray) (t : Nat → ByteArray) (h : t 0 = a ∧ t 1 = b ∧ t 2 = c ∧ t 3 = d) : dcv i t = dvA ⟨i, a, b, c, d⟩ := by
  obtain ⟨rfl, rfl, rfl, rfl⟩ := h; rfl
theorem WrsAt.keptG {w w' : World} {p : Option Addr} {L : List Wr} {g : Nat} (h : WrsAt w p L) (hne : ∀ b o, p = some ⟨b, o, Option.none⟩ → b ≠ g) (hg : w.grownBy w' (some g)) : WrsAt w' p L :=
  ⟨fun hn => by
    obtain ⟨b, o, rfl, hr⟩ := h.row hn
    exact ⟨b, o, rfl, fun j u hu => hg.cell (hr j u hu) (by intro e; exact hne b o rfl (by have := Option.some.inj e; simpa using this))⟩, h.none⟩
set_option maxHeartbeats 16000000 in
theorem refRead_is (F : Nat → Int) (p : Option Addr) (c : Nat) (L : List Wr) (doc : ByteArray) (w : World) (h : WrsAt w p L) (hn : L.length ≤ 1000) :
    Calls Tryz.prog 7 #[.agg (scs F (.slice p L.length c)), .string doc] w (ReadDR w L doc) := by
  have OF := Lib.hid (fun (V : World) (hV : Below w.heap.size w V) (k : Int) => refOf_is F p c L doc k V (h.below hV) hn)
  have AH := Lib.hid refAheadT_is
  clear h
  go_enter Tryz.func7, Tryz.ntmps7
  go_wp2_with (refine wpList_gbox rfl _ rfl (scs F (.slice p L.length c)) rfl ?_)
  intro g2 w1 l2 h2 hb1
  have S1 : Hid (Sx w1 g2 F (.slice p L.length c)) := Lib.hid h2
  have B1 := Lib.hid hb1
  clear h2 hb1
  go_wp2_with (refine wpList_galloc _ zeroDoc rfl rfl ?_)
  intro g4 w2 l4 h4 hb2
  have S2 := Lib.hid (S1.out.later hb2); have B2 := Lib.hid (thenBelow B1.out hb2); have D2 := Lib.hid h4
  have lw4 : w.heap.size ≤ g4 := Nat.le_trans B1.out.size l4
  clear h4 hb2 S1 B1
  have SW := Lib.hid (S2.out.whole)
  go_wp2_with (refine wpList_gload rfl _ rfl g2 0 rfl _ SW.out _ Tryz.underlying26 rfl (sizeStl _ _) ?_)
  refine (OF.out w2 B2.out (-1)).mono ?_
  rintro e w3 ⟨v, rfl, o3, hb3⟩
  obtain ⟨p3, c3, hv, _, hw3, _⟩ := own_wat o3
  subst hv
  have B3 := Lib.hid (thenBelow B2.out hb3)
  have D3 := Lib.hid ((hb3.block g4 (Array.getElem?_eq_some_iff.1 D2.out).1).trans D2.out)
  have S3 := Lib.hid (S2.out.later hb3)
  clear o3 hb3 hw3 SW S2 D2 B2
  dsimp only
  cases hl : ofW L doc (-1) with
  | nil =>
    obtain ⟨e1, e2⟩ := readD_none hl
    have HR : Hid (ReadDR w L doc = fun e w' => e = .returned (.tuple #[.agg (dcv ByteArray.empty fun _ => ByteArray.empty), .bool false]) ∧ Below w.heap.size w w') := Lib.hid (by unfold ReadDR; rw [e1, e2]; rfl)
    clear OF AH S3 e1 e2 hl
    go_wp2_with (first | refine wpList_pbuild (by rfl) _ rfl (dcv ByteArray.empty fun _ => ByteArray.empty) (by simp only [List.map_toArray, List.map_cons, List.map_nil]; exact builtDoc0 _) ?_ | refine wpList_gstore rfl _ _ rfl g4 rfl (dcv ByteArray.empty fun _ => ByteArray.empty) rfl _ _ D3.out (sizeDoc _ _) rfl (dcv_one _ _) ?_)
    intro w9 h9 g9
    have H9 := Lib.hid h9
    have B9 := Lib.hid (B3.out.trans (grown_below g9 B3.out.size lw4))
    clear h9 g9
    go_wp2
    exact bodyPost_ret (v := .tuple #[.agg (dcv ByteArray.empty fun _ => ByteArray.empty), .bool false]) (results_cell_two (p := 4) (q := 5) rfl _ w9 g4 _ _ (0, 0) _ rfl H9.out Tryz.underlying31 rfl (sizeDoc _ _) (.bool false) rfl) rfl (by rw [HR.out]; exact ⟨rfl, B9.out⟩)
  | cons y l =>
    obtain ⟨e1, e2⟩ := readD_some hl
    obtain ⟨lt, hlt⟩ : ∃ lt : Int → ByteArray, (fun k => latestOf (ofW L doc (-1)) k) = lt := ⟨_, rfl⟩
    have HLT : Hid (∀ k : Nat, latestOf (ofW L doc ((k : Int) + 1)) ((k : Int) + 1) = lt ((k : Int) + 1)) := Lib.hid fun k => by rw [latest_field L doc _ (by omega), ← hlt]
    have HR : Hid (ReadDR w L doc = fun e w' => e = .returned (.tuple #[.agg (dcv doc fun i => lt ((i : Int) + 1)), .bool true]) ∧ Below w.heap.size w w') := Lib.hid (by
      unfold ReadDR
      rw [e1, e2, ← hlt]
      rfl)
    have hpos : (((y :: l).length : Int) == 0) = false := beq_eq_false_iff_ne.2 (by simp; omega)
    obtain ⟨n0, hn0⟩ : ∃ n0, (y :: l).length = n0 := ⟨_, rfl⟩
    rw [hn0] at hpos ⊢
    clear hn0 hl hlt e1 e2
    go_wp2_with (first | refine wpList_pbuild (by rfl) _ rfl (dcv doc fun _ => ByteArray.empty) (by simp only [List.map_toArray, List.map_cons, List.map_nil]; exact builtDoc _ _) ?_ | refine wpList_galloc _ zeroDoc rfl rfl ?_)
    intro g6 w4 l6 h6 hb4
    have B4 := Lib.hid (thenBelow B3.out hb4)
    have D4 := Lib.hid ((hb4.block g4 (Array.getElem?_eq_some_iff.1 D3.out).1).trans D3.out)
    have S4 := Lib.hid (S3.out.later hb4)
    have E4 := Lib.hid h6
    have n26 : g2 < g6 := Nat.lt_of_lt_of_le S3.out.lt l6
    have n46 : g4 < g6 := Nat.lt_of_lt_of_le (Array.getElem?_eq_some_iff.1 D3.out).1 l6
    have lw6 : w.heap.size ≤ g6 := Nat.le_trans B3.out.size l6
    clear h6 hb4 S3 D3
    go_wp2_with (refine wpList_gstore rfl _ _ rfl g6 rfl (dcv doc fun _ => ByteArray.empty) rfl _ _ E4.out (sizeDoc _ _) rfl (dcv_one _ _) ?_)
    intro w5 h5 g5
    have B5 := Lib.hid (B4.out.trans (grown_below g5 B4.out.size lw6))
    have D5 := Lib.hid ((g5.block g4 (Array.getElem?_eq_some_iff.1 D4.out).1 (by simp; omega)).trans D4.out)
    have S5 := Lib.hid (S4.out.kept g5 (by simp; omega))
    have E5 := Lib.hid h5
    clear h5 g5 E4 D4 S4
    go_wp2
    go_loopw [20] (fun i wr => ∃ (k : Nat) (t : Nat → ByteArray), k ≤ 4 ∧ i = .int .i64 k ∧ Hid (∀ i, i < 4 → t i = if i < k then lt ((i : Int) + 1) else ByteArray.empty) ∧ Hid (wr.heap[g6]? = some (.cells (dcv doc t) 31 (0, 0))) ∧ Hid (wr.heap[g4]? = some (.cells (dcv ByteArray.empty fun _ => ByteArray.empty) 31 (0, 0))) ∧ Hid (Sx wr g2 F (.slice p L.length c)) ∧ Hid (Below w.heap.size w wr)) (fun i _ => 4 - (RowKit.intOf i).toNat)
    case atStart => exact ⟨0, fun _ => ByteArray.empty, by omega, rfl, Lib.hid (fun i hi => by rw [if_neg (by omega)]), E5, D5, S5, B5⟩
    case round =>
      clear E5 D5 S5 B5 B4 B3
      obtain ⟨k, t, hk, rfl, HT, EE, DD, SS, BB⟩ := hrel
      obtain ⟨V0, hV0⟩ : ∃ V0 : World, V0 = wr := ⟨_, rfl⟩
      subst hV0
      by_cases hk4 : k < 4
      · have hk4' : (k : Int) < 4 := by omega
        have hk4' : (k : Int) < 4 := by omega
        go_wp2_with (first | refine wpList_pbuild (by rfl) _ rfl noWr.cells.toArray (by simp only [List.map_toArray, List.map_nil]; exact builtWr0 _) ?_ | refine wpList_galloc _ (fun w => show (zeroValue 39).run Tryz.prog w = .ok (.agg noWr.cells.toArray) w by kernel_rfl) rfl rfl ?_)
        intro g8 wa l8 h8 hba
        have n68 : g6 < g8 := Nat.lt_of_lt_of_le (Array.getElem?_eq_some_iff.1 EE.out).1 l8
        have n48 : g4 < g8 := Nat.lt_of_lt_of_le (Array.getElem?_eq_some_iff.1 DD.out).1 l8
        go_wp2_with (refine wpList_gstore rfl _ _ rfl g8 rfl noWr.cells.toArray rfl _ _ h8 (by rw [List.size_toArray]; exact sizeWr _) rfl (fun v hv => Wr.cells_one _ v (by simpa using hv)) ?_)
        intro wb hb8 gb
        have Bb := Lib.hid (hba.trans (grown_below gb hba.size l8))
        have N8 := Lib.hid hb8
        have hg8 : g8 < wb.heap.size := (Array.getElem?_eq_some_iff.1 hb8).1
        have SW := Lib.hid ((SS.out.later Bb.out).whole)
        clear h8 hba hb8 gb
        go_wp2_with (refine wpList_gload rfl _ rfl g2 0 rfl _ SW.out _ Tryz.underlying26 rfl (sizeStl _ _) ?_)
        refine (OF.out wb (thenBelow BB.out Bb.out) ((k : Int) + 1)).mono ?_
        rintro e wc ⟨v, rfl, o3, b3⟩
        obtain ⟨p3, c3, hv, _, hw3, hs3⟩ := own_wat o3
        subst hv
        have NE : Hid (∀ b o, p3 = some ⟨b, o, none⟩ → b ≠ g8) := Lib.hid fun b o e => by
          have := (o3.lt b (by rw [e]; rfl)).1
          omega
        have WW := Lib.hid hw3
        have Bc := Lib.hid (thenBelow Bb.out b3)
        have N8 := Lib.hid ((b3.block g8 hg8).trans N8.out)
        have HF : Hid (∀ y ∈ ofW L doc ((k : Int) + 1), y.field = (k : Int) + 1) := Lib.hid fun y hy => ofW_fld (by omega) hy
        have HLK := Lib.hid (HLT.out k)
        have hlen := ofW_len L doc ((k : Int) + 1)
        clear o3 b3 hw3 SW
        obtain ⟨fk, hfk⟩ : ∃ fk : Int, (k : Int) + 1 = fk := ⟨_, rfl⟩
        have HFK := Lib.hid hfk
        rw [hfk] at HF HLK hlen WW ⊢
        clear hfk
        generalize ofW L doc fk = Lk at HF HLK hlen WW ⊢
        dsimp only
        go_wp2_with fail
        go_loopw [9, 30] (fun fd i wy => ∃ (j : Nat) (last : Wr) (f : Bool), j ≤ Lk.length ∧ i = .int .i64 j ∧ fd = .bool f ∧ Hid ((last, f) = lastL (Lk.take j) fk) ∧ Hid (wy.heap[g8]? = some (.cells last.cells.toArray 39 (0, 0))) ∧ Hid (WrsAt wy p3 Lk) ∧ Hid (Below V0.heap.size V0 wy)) (fun _ i _ => Lk.length - (RowKit.intOf i).toNat)
        case atStart => exact ⟨0, noWr, false, Nat.zero_le _, rfl, rfl, Lib.hid rfl, N8, WW, Bc⟩
        case round =>
          clear N8 WW Bc
          obtain ⟨j, last, f, hj, rfl, rfl, HLS, H5, WW, BY⟩ := hrel
          by_cases hjl : j < Lk.length
          · have hjl' : (j : Int) < Lk.length := by omega
            obtain ⟨b, o, rfl, hlt, hr⟩ := WW.out.at hjl
            obtain ⟨c0, c1, c2, c3', c4, c5⟩ := wr_cells hr
            have HS := Lib.hid (lastL_take Lk fk j hjl)
            rw [← HLS.out] at HS
            have hfl := HF.out _ (List.getElem_mem hjl)
            clear hr hlt
            obtain ⟨y, hy⟩ : ∃ y, Lk[j] = y := ⟨_, rfl⟩
            rw [hy] at c0 c1 c2 c3' c4 c5 HS hfl
            clear hy
            obtain ⟨r, n, tt, d, fl, tx⟩ := y
            simp only at c0 c1 c2 c3' c4 c5 hfl
            subst hfl
            have ba := below_alloc wr (.cells #[.int .i64 r, .int .i64 n, .int .i64 tt, .string d, .int .i64 fl, .string tx] 39)
            have H6 := Lib.hid ((ba.block g8 (Array.getElem?_eq_some_iff.1 H5.out).1).trans H5.out)
            have BA := Lib.hid (thenBelow BY.out ba)
            have WA := Lib.hid (WW.out.below ba)
            have ST := Lib.hid (AH.out ⟨r, n, tt, d, fl, tx⟩ last (wr.alloc (.cells #[.int .i64 r, .int .i64 n, .int .i64 tt, .string d, .int .i64 fl, .string tx] 39)))
            have rl : (wr.alloc (.cells #[.int .i64 r, .int .i64 n, .int .i64 tt, .string d, .int .i64 fl, .string tx] 39)).rangeAt g8 0 last.cells := by simpa using range_of_block H6.out
            obtain ⟨a0, a1, a2, a3, a4, a5⟩ := wr_cells rl
            simp only [Nat.zero_add] at a0 a1 a2 a3 a4 a5
            clear ba rl WW H5 BY
            cases f with
            | false =>
              have HN : Hid (((⟨r, n, tt, d, fl, tx⟩ : Wr), true) = lastL (Lk.take (j + 1)) fl) := Lib.hid (by rw [HS.out]; unfold stepL; rw [if_pos ⟨rfl, .inl rfl⟩])
              clear ST HS
              go_wp2_with (refine wpList_gstore rfl _ _ rfl g8 rfl (Wr.cells ⟨r, n, tt, d, fl, tx⟩).toArray rfl _ _ H6.out (by rw [List.size_toArray]; exact sizeWr _) rfl (fun v hv => Wr.cells_one _ v (by simpa using hv)) ?_)
              intro w9 h9 g9
              have H9 := Lib.hid h9
              have B9 := Lib.hid (BA.out.trans (grown_below g9 BA.out.size l8))
              have W9 := Lib.hid (WA.out.keptG NE.out g9)
              clear h9 g9
              go_wp2
              go_roundw
              case rel => exact ⟨j + 1, ⟨r, n, tt, d, fl, tx⟩, true, by omega, by go_num, rfl, HN, H9, W9, B9⟩
              case measure => simp [RowKit.intOf]; omega
            | true =>
              obtain ⟨cm, hcm⟩ : ∃ cm, aheadT ⟨r, n, tt, d, fl, tx⟩ last = cm := ⟨_, rfl⟩
              rw [hcm] at ST
              have HCM := Lib.hid hcm
              have HC2 := Lib.hid (cmpT_ge ⟨r, n, tt, d, fl, tx⟩ last)
              clear hcm
              obtain ⟨lr, ln, lt', ld, lf, lx⟩ := last
              simp only [Wr.cells] at a0 a1 a2 a3 a4 a5 ST
              go_wp2_with fail
              refine ST.out.mono ?_
              rintro e w7 ⟨rfl, hb7⟩
              have H7 := Lib.hid ((hb7.block g8 (Array.getElem?_eq_some_iff.1 H6.out).1).trans H6.out)
              have B7 := Lib.hid (thenBelow BA.out hb7)
              have W7 := Lib.hid (WA.out.below hb7)
              have n8 := (hb7.block _ (Array.getElem?_eq_some_iff.1 (heap_alloc_new wr (.cells #[.int .i64 r, .int .i64 n, .int .i64 tt, .string d, .int .i64 fl, .string tx] 39))).1).trans (heap_alloc_new wr (.cells #[.int .i64 r, .int .i64 n, .int .i64 tt, .string d, .int .i64 fl, .string tx] 39))
              have y0 := (cell_of_row w7 wr.heap.size 0 _ _ _ n8).trans (show _ = some (Value.int .i64 r) from rfl)
              have y1 := (cell_of_row w7 wr.heap.size 1 _ _ _ n8).trans (show _ = some (Value.int .i64 n) from rfl)
              have y2 := (cell_of_row w7 wr.heap.size 2 _ _ _ n8).trans (show _ = some (Value.int .i64 tt) from rfl)
              have y3 := (cell_of_row w7 wr.heap.size 3 _ _ _ n8).trans (show _ = some (Value.string d) from rfl)
              have y4 := (cell_of_row w7 wr.heap.size 4 _ _ _ n8).trans (show _ = some (Value.int .i64 fl) from rfl)
              have y5 := (cell_of_row w7 wr.heap.size 5 _ _ _ n8).trans (show _ = some (Value.string tx) from rfl)
              clear hb7 ST a0 a1 a2 a3 a4 a5 c0 c1 c2 c3' c4 c5 n8
              dsimp only
              cases cm with
              | false =>
                have HN : Hid (((⟨r, n, tt, d, fl, tx⟩ : Wr), true) = lastL (Lk.take (j + 1)) fl) := Lib.hid (by rw [HS.out]; unfold stepL; rw [if_pos ⟨rfl, .inr (HC2.out.2 HCM.out)⟩])
                clear HS
                go_wp2_with (refine wpList_gstore rfl _ _ rfl g8 rfl (Wr.cells ⟨r, n, tt, d, fl, tx⟩).toArray rfl _ _ H7.out (by rw [List.size_toArray]; exact sizeWr _) rfl (fun v hv => Wr.cells_one _ v (by simpa using hv)) ?_)
                intro w9 h9 g9
                have H9 := Lib.hid h9
                have B9 := Lib.hid (B7.out.trans (grown_below g9 B7.out.size l8))
                have W9 := Lib.hid (W7.out.keptG NE.out g9)
                clear h9 g9
                go_wp2
                go_roundw
                case rel => exact ⟨j + 1, ⟨r, n, tt, d, fl, tx⟩, true, by omega, by go_num, rfl, HN, H9, W9, B9⟩
                case measure => simp [RowKit.intOf]; omega
              | true =>
                have HN : Hid (((⟨lr, ln, lt', ld, lf, lx⟩ : Wr), true) = lastL (Lk.take (j + 1)) fl) := Lib.hid (by rw [HS.out]; unfold stepL; rw [if_neg (fun h => by rcases h.2 with h | h; cases h; rw [HC2.out.1 h] at HCM; cases HCM.out)])
                clear HS
                go_wp2
                go_roundw
                case rel => exact ⟨j + 1, ⟨lr, ln, lt', ld, lf, lx⟩, true, by omega, by go_num, rfl, HN, H7, W7, B7⟩
                case measure => simp [RowKit.intOf]; omega
          · obtain rfl : j = Lk.length := by omega
            have hjl' : ¬ ((Lk.length : Nat) : Int) < Lk.length := by omega
            have HX : Hid (last.text = lt fk) := Lib.hid (by rw [← HLK.out]; unfold latestOf; have := HLS.out; rw [List.take_length] at this; rw [← this])
            have c5 := (wr_cells (x := last) (o := 0) (by simpa using range_of_block H5.out)).2.2.2.2.2
            simp only [Nat.zero_add] at c5
            rw [HX.out] at c5
            have E5 := Lib.hid ((BY.out.block g6 (Array.getElem?_eq_some_iff.1 EE.out).1).trans EE.out)
            have D5 := Lib.hid ((BY.out.block g4 (Array.getElem?_eq_some_iff.1 DD.out).1).trans DD.out)
            have S5 := Lib.hid (SS.out.later BY.out)
            have B5 := Lib.hid (thenBelow BB.out BY.out)
            have lw : w.heap.size ≤ g6 := lw6
            clear HLS WW BY EE DD SS HF HLK HX
            have cas : k = 0 ∨ k = 1 ∨ k = 2 ∨ k = 3 := by omega
            rcases cas with rfl | rfl | rfl | rfl
            · have k1 := (cell_of_row wr g6 1 _ _ _ E5.out).trans (show _ = some (Value.string (t 0)) from rfl)
              have k2 := frozen_of_row wr g6 1 _ _ E5.out
              have gS := grown_cell wr g6 1 (.string (lt fk))
              have hS := heap_setCell_same wr g6 1 _ _ (.string (lt fk)) E5.out
              have HS : Hid ((wr.setCell ⟨g6, 1, none⟩ (.string (lt fk))).heap[g6]? = some (.cells (dcv doc (fun i => if i = 0 then lt fk else t i)) 31 (0, 0))) := Lib.hid (by rw [hS]; congr 2)
              have DS := Lib.hid ((gS.block g4 (Array.getElem?_eq_some_iff.1 D5.out).1 (by simp; omega)).trans D5.out)
              have SS := Lib.hid (S5.out.kept gS (by simp; omega))
              have BS := Lib.hid (B5.out.trans (grown_below gS B5.out.size lw))
              have HN : Hid (∀ i, i < 4 → (fun i => if i = 0 then lt fk else t i) i = if i < 1 then lt ((i : Int) + 1) else ByteArray.empty) := Lib.hid (fun i hi => by
                simp only
                by_cases h1 : i = 0
                · subst h1; rw [if_pos rfl, if_pos (by omega), ← HFK.out]
                · rw [if_neg h1, HT.out i hi]
                  by_cases h2 : i < 0
                  · rw [if_pos h2, if_pos (by omega)]
                  · rw [if_neg h2, if_neg (by omega)])
              clear gS hS B5 S5 D5 E5 HT
              go_wp2
              go_roundw
              case rel => exact ⟨1, _, by omega, by go_num, HN, HS, DS, SS, BS⟩
              case measure => simp [RowKit.intOf]
            · have k1 := (cell_of_row wr g6 2 _ _ _ E5.out).trans (show _ = some (Value.string (t 1)) from rfl)
              have k2 := frozen_of_row wr g6 2 _ _ E5.out
              have gS := grown_cell wr g6 2 (.string (lt fk))
              have hS := heap_setCell_same wr g6 2 _ _ (.string (lt fk)) E5.out
              have HS : Hid ((wr.setCell ⟨g6, 2, none⟩ (.string (lt fk))).heap[g6]? = some (.cells (dcv doc (fun i => if i = 1 then lt fk else t i)) 31 (0, 0))) := Lib.hid (by rw [hS]; congr 2)
              have DS := Lib.hid ((gS.block g4 (Array.getElem?_eq_some_iff.1 D5.out).1 (by simp; omega)).trans D5.out)
              have SS := Lib.hid (S5.out.kept gS (by simp; omega))
              have BS := Lib.hid (B5.out.trans (grown_below gS B5.out.size lw))
              have HN : Hid (∀ i, i < 4 → (fun i => if i = 1 then lt fk else t i) i = if i < 2 then lt ((i : Int) + 1) else ByteArray.empty) := Lib.hid (fun i hi => by
                simp only
                by_cases h1 : i = 1
                · subst h1; rw [if_pos rfl, if_pos (by omega), ← HFK.out]
                · rw [if_neg h1, HT.out i hi]
                  by_cases h2 : i < 1
                  · rw [if_pos h2, if_pos (by omega)]
                  · rw [if_neg h2, if_neg (by omega)])
              clear gS hS B5 S5 D5 E5 HT
              go_wp2
              go_roundw
              case rel => exact ⟨2, _, by omega, by go_num, HN, HS, DS, SS, BS⟩
              case measure => simp [RowKit.intOf]
            · have k1 := (cell_of_row wr g6 3 _ _ _ E5.out).trans (show _ = some (Value.string (t 2)) from rfl)
              have k2 := frozen_of_row wr g6 3 _ _ E5.out
              have gS := grown_cell wr g6 3 (.string (lt fk))
              have hS := heap_setCell_same wr g6 3 _ _ (.string (lt fk)) E5.out
              have HS : Hid ((wr.setCell ⟨g6, 3, none⟩ (.string (lt fk))).heap[g6]? = some (.cells (dcv doc (fun i => if i = 2 then lt fk else t i)) 31 (0, 0))) := Lib.hid (by rw [hS]; congr 2)
              have DS := Lib.hid ((gS.block g4 (Array.getElem?_eq_some_iff.1 D5.out).1 (by simp; omega)).trans D5.out)
              have SS := Lib.hid (S5.out.kept gS (by simp; omega))
              have BS := Lib.hid (B5.out.trans (grown_below gS B5.out.size lw))
              have HN : Hid (∀ i, i < 4 → (fun i => if i = 2 then lt fk else t i) i = if i < 3 then lt ((i : Int) + 1) else ByteArray.empty) := Lib.hid (fun i hi => by
                simp only
                by_cases h1 : i = 2
                · subst h1; rw [if_pos rfl, if_pos (by omega), ← HFK.out]
                · rw [if_neg h1, HT.out i hi]
                  by_cases h2 : i < 2
                  · rw [if_pos h2, if_pos (by omega)]
                  · rw [if_neg h2, if_neg (by omega)])
              clear gS hS B5 S5 D5 E5 HT
              go_wp2
              go_roundw
              case rel => exact ⟨3, _, by omega, by go_num, HN, HS, DS, SS, BS⟩
              case measure => simp [RowKit.intOf]
            · have k1 := (cell_of_row wr g6 4 _ _ _ E5.out).trans (show _ = some (Value.string (t 3)) from rfl)
              have k2 := frozen_of_row wr g6 4 _ _ E5.out
              have gS := grown_cell wr g6 4 (.string (lt fk))
              have hS := heap_setCell_same wr g6 4 _ _ (.string (lt fk)) E5.out
              have HS : Hid ((wr.setCell ⟨g6, 4, none⟩ (.string (lt fk))).heap[g6]? = some (.cells (dcv doc (fun i => if i = 3 then lt fk else t i)) 31 (0, 0))) := Lib.hid (by rw [hS]; congr 2)
              have DS := Lib.hid ((gS.block g4 (Array.getElem?_eq_some_iff.1 D5.out).1 (by simp; omega)).trans D5.out)
              have SS := Lib.hid (S5.out.kept gS (by simp; omega))
              have BS := Lib.hid (B5.out.trans (grown_below gS B5.out.size lw))
              have HN : Hid (∀ i, i < 4 → (fun i => if i = 3 then lt fk else t i) i = if i < 4 then lt ((i : Int) + 1) else ByteArray.empty) := Lib.hid (fun i hi => by
                simp only
                by_cases h1 : i = 3
                · subst h1; rw [if_pos rfl, if_pos (by omega), ← HFK.out]
                · rw [if_neg h1, HT.out i hi]
                  by_cases h2 : i < 3
                  · rw [if_pos h2, if_pos (by omega)]
                  · rw [if_neg h2, if_neg (by omega)])
              clear gS hS B5 S5 D5 E5 HT
              go_wp2
              go_roundw
              case rel => exact ⟨4, _, by omega, by go_num, HN, HS, DS, SS, BS⟩
              case measure => simp [RowKit.intOf]
      · obtain rfl : k = 4 := by omega
        have HV : Hid (dcv doc t = dcv doc fun i : Nat => lt ((i : Int) + 1)) := Lib.hid (dcv_congr _ _ _ (fun i hi => by rw [HT.out i hi, if_pos hi]))
        rw [HV.out] at EE
        have RE : Hid (V0.rangeAt g6 0 (dcv doc fun i : Nat => lt ((i : Int) + 1)).toList) := Lib.hid (range_of_block EE.out)
        clear OF AH HLT SS
        go_wp2_with (first | refine wpList_gload rfl _ rfl g6 0 rfl _ RE.out _ Tryz.underlying31 rfl (sizeDocl _ _) ?_ | refine wpList_gstore rfl _ _ rfl g4 rfl (dcv doc fun i : Nat => lt ((i : Int) + 1)) rfl _ _ DD.out (sizeDoc _ _) rfl (dcv_one _ _) ?_)
        intro w9 h9 g9
        have H9 := Lib.hid h9
        have B9 := Lib.hid (BB.out.trans (grown_below g9 BB.out.size lw4))
        clear h9 g9
        go_wp2
        exact bodyPost_ret (v := .tuple #[.agg (dcv doc fun i : Nat => lt ((i : Int) + 1)), .bool true]) (results_cell_two (p := 4) (q := 5) rfl _ w9 g4 _ _ (0, 0) _ rfl H9.out Tryz.underlying31 rfl (sizeDoc _ _) (.bool true) rfl) rfl (by rw [HR.out]; exact ⟨rfl, B9.out⟩)
end Go.Proofs.YtijmijokgenflaaGreatDoor
/- The document's Names: the documents that are there, in order. -/
namespace Go.Proofs.YtijmijokgenflaaGreatDoor
open Go Go.RowKit
set_option linter.unusedVariables false
set_option maxRecDepth 1000000

theorem str_at {w : World} {B : Nat} {p : Option Addr} {c : Nat} {l : List ByteArray} (h : w.ownsRow B 9 1 (.slice p l.length c) l.length (strs l)) {k : Nat} (hk : k < l.length) : ∃ g, p = some ⟨g, 0, none⟩ ∧ w.cell? ⟨g, k, none⟩ = some (.string l[k]) := by
  rcases h.2 with ⟨_, h1⟩ | ⟨g, cap, cur, h0, _⟩
  · omega
  · injection h0 with h0 _ _
    subst h0
    refine ⟨g, rfl, ?_⟩
    rw [World.ownsRow.cellAt h k (by omega)]
    simp [strs, hk]
theorem strs_drop1 (L : List ByteArray) (k : Nat) : strs (L.drop k) = (strs L).drop k := by simp [strs]
theorem strs_take1 (L : List ByteArray) (k : Nat) : strs (L.take k) = (strs L).take k := by simp [strs]
theorem namesIn_nil : namesIn [] = [] := List.eq_nil_of_length_eq_zero (by have := namesIn_len []; simpa using this)
theorem mem_takeS {o : List ByteArray} {j : Nat} (h : j < o.length) (d : ByteArray) : d ∈ o.take (j + 1) ↔ d ∈ o.take j ∨ o[j] = d := by
  rw [List.take_succ_eq_append_getElem h, List.mem_append, List.mem_singleton]
  exact ⟨fun e => e.imp id Eq.symm, fun e => e.imp id Eq.symm⟩
set_option maxHeartbeats 16000000 in
theorem refNames_is (F : Nat → Int) (p : Option Addr) (c : Nat) (L : List Wr) (w : World) (h : WrsAt w p L) (hn : L.length ≤ 1000) :
    Calls Tryz.prog 16 #[.agg (scs F (.slice p L.length c))] w (RetStrs w (namesIn L)) := by
  have HW := Lib.hid h
  clear h
  go_enter Tryz.func16, Tryz.ntmps16
  go_wp2_with (refine wpList_gbox rfl _ rfl (scs F (.slice p L.length c)) rfl ?_)
  intro g2 w1 l2 h2 hb1
  have S1 : Hid (Sx w1 g2 F (.slice p L.length c)) := Lib.hid h2
  have B1 := Lib.hid hb1
  clear h2 hb1
  have s1 := S1.out.slot
  go_wp2_with fail
  clear s1 S1
  go_loopw [3, 14] (fun v i wr => ∃ k : Nat, k ≤ L.length ∧ i = .int .i64 k ∧ Hid (wr.ownsRow w.heap.size 9 1 v (namesIn (L.take k)).length (strs (namesIn (L.take k)))) ∧ Hid (Below w.heap.size w wr)) (fun _ i _ => L.length - (RowKit.intOf i).toNat)
  case atStart => exact ⟨0, Nat.zero_le _, rfl, Lib.hid (by rw [List.take_zero, namesIn_nil]; exact ⟨rfl, .inl ⟨rfl, rfl⟩⟩), B1⟩
  case round =>
    clear B1
    obtain ⟨k, hk, rfl, OO, BB⟩ := hrel
    obtain ⟨q, cq, hq⟩ := own_slice OO.out
    subst hq
    by_cases hkl : k < L.length
    · have hkl' : (k : Int) < L.length := by omega
      obtain ⟨b, o', rfl, hlt, hr⟩ := (HW.out.below BB.out).at hkl
      obtain ⟨c0, c1, c2, c3, c4, c5⟩ := wr_cells hr
      have hOL : (namesIn (L.take k)).length ≤ 1000 := by
        have := namesIn_len (L.take k)
        rw [List.length_take] at this; omega
      have RI := Lib.hid (namesIn_rise (L.take k))
      have TK : Hid (L.take (k + 1) = L.take k ++ [L[k]]) := Lib.hid (List.take_succ_eq_append_getElem hkl)
      have HAS : Hid (L[k].doc ∈ namesIn (L.take k) → namesIn (L.take (k + 1)) = namesIn (L.take k)) := Lib.hid fun h => by rw [TK.out]; exact namesIn_has h
      have PUT : Hid (∀ A, SrchL ltB (namesIn (L.take k)) L[k].doc (namesIn (L.take k)).length A → L[k].doc ∉ namesIn (L.take k) → (namesIn (L.take k)).take A ++ [L[k].doc] ++ (namesIn (L.take k)).drop A = namesIn (L.take (k + 1))) := Lib.hid fun A h1 h2 => by rw [TK.out]; exact namesIn_put h1 h2
      clear hr hlt
      obtain ⟨y, hy⟩ : ∃ y, L[k] = y := ⟨_, rfl⟩
      rw [hy] at c0 c1 c2 c3 c4 c5 HAS PUT
      clear hy TK
      obtain ⟨r, n, tt, d, fl, tx⟩ := y
      simp only at c0 c1 c2 c3 c4 c5 HAS PUT
      obtain ⟨TG, hTG⟩ : ∃ TG, namesIn (L.take (k + 1)) = TG := ⟨_, rfl⟩
      have HTG := Lib.hid hTG
      rw [hTG] at HAS PUT
      clear hTG
      generalize namesIn (L.take k) = o at *
      have b7 := below_alloc wr (.cells #[.int .i64 r, .int .i64 n, .int .i64 tt, .string d, .int .i64 fl, .string tx] 39)
      have B7 := Lib.hid (thenBelow BB.out b7)
      have O7 := Lib.hid (own_later OO.out b7)
      have Y7 : Hid ((wr.alloc (.cells #[.int .i64 r, .int .i64 n, .int .i64 tt, .string d, .int .i64 fl, .string tx] 39)).rangeAt wr.heap.size 0 [.int .i64 r, .int .i64 n, .int .i64 tt, .string d, .int .i64 fl, .string tx]) := Lib.hid (range_of_block (heap_alloc_new wr _))
      clear b7 OO BB
      go_wp2_with fail
      generalize wr.alloc (.cells #[.int .i64 r, .int .i64 n, .int .i64 tt, .string d, .int .i64 fl, .string tx] 39) = V5 at B7 O7 Y7 ⊢
      obtain ⟨yb, hyb⟩ : ∃ yb, wr.heap.size = yb := ⟨_, rfl⟩
      rw [hyb] at Y7 ⊢
      clear hyb c0 c1 c2 c3 c4 c5
      go_loopw [6, 7, 20] (fun a tv i wr => ∃ (j A : Nat) (tb : Bool), j ≤ o.length ∧ a = .int .i64 A ∧ tv = .bool tb ∧ i = .int .i64 j ∧ Hid (SrchL ltB o d j A) ∧ Hid (tb = true ↔ d ∈ o.take j) ∧ Hid (Below V5.heap.size V5 wr)) (fun _ _ i _ => o.length - (RowKit.intOf i).toNat)
      case atStart => exact ⟨0, 0, false, Nat.zero_le _, rfl, rfl, rfl, Lib.hid (SrchL.start _ _), Lib.hid (by simp), Lib.hid (Below.refl _ _)⟩
      case round =>
        obtain ⟨j, A, tb, hj, rfl, rfl, rfl, SS, TT, BX⟩ := hrel
        by_cases hjo : j < o.length
        · have hjo' : (j : Int) < o.length := by omega
          obtain ⟨g, rfl, d0⟩ := str_at (own_later O7.out BX.out) hjo
          have SY : Hid (Op.bytesLess o[j].toList d.toList = true → SrchL ltB o d (j + 1) (j + 1)) := Lib.hid fun e => SS.out.yes lin_B RI.out hjo e
          have SN : Hid (Op.bytesLess o[j].toList d.toList = false → SrchL ltB o d (j + 1) A) := Lib.hid fun e => SS.out.no hjo e
          have MT : Hid (d ∈ o.take (j + 1) ↔ d ∈ o.take j ∨ o[j] = d) := Lib.hid (mem_takeS hjo d)
          obtain ⟨x, hx⟩ : ∃ x, o[j] = x := ⟨_, rfl⟩
          rw [hx] at d0 SY SN MT
          clear hx SS
          obtain ⟨m0, m1, m2, m3, m4, m5⟩ := wr_cells (x := ⟨r, n, tt, d, fl, tx⟩) (range_below Y7.out BX.out)
          simp only [Nat.zero_add] at m0 m1 m2 m3 m4 m5
          cases tb with
          | true =>
            have TJ : Hid (true = true ↔ d ∈ o.take (j + 1)) := Lib.hid ⟨fun _ => MT.out.2 (.inl (TT.out.1 rfl)), fun _ => rfl⟩
            cases hlt : Op.bytesLess x.toList d.toList with
            | true =>
              have S9 := Lib.hid (SY.out hlt)
              go_wp2
              go_roundw
              case rel => exact ⟨j + 1, j + 1, true, by omega, by go_num, rfl, by go_num, S9, TJ, BX⟩
              case measure => simp [RowKit.intOf]; omega
            | false =>
              have S9 := Lib.hid (SN.out hlt)
              go_wp2
              go_roundw
              case rel => exact ⟨j + 1, A, true, by omega, rfl, rfl, by go_num, S9, TJ, BX⟩
              case measure => simp [RowKit.intOf]; omega
          | false =>
            cases hq : (x.toList == d.toList) with
            | true =>
              have TJ : Hid (true = true ↔ d ∈ o.take (j + 1)) := Lib.hid ⟨fun _ => MT.out.2 (.inr (toList_eqB.1 hq)), fun _ => rfl⟩
              cases hlt : Op.bytesLess x.toList d.toList with
              | true =>
                have S9 := Lib.hid (SY.out hlt)
                go_wp2
                go_roundw
                case rel => exact ⟨j + 1, j + 1, true, by omega, by go_num, rfl, by go_num, S9, TJ, BX⟩
                case measure => simp [RowKit.intOf]; omega
              | false =>
                have S9 := Lib.hid (SN.out hlt)
                go_wp2
                go_roundw
                case rel => exact ⟨j + 1, A, true, by omega, rfl, rfl, by go_num, S9, TJ, BX⟩
                case measure => simp [RowKit.intOf]; omega
            | false =>
              have TJ : Hid (false = true ↔ d ∈ o.take (j + 1)) := Lib.hid ⟨fun h => (by cases h), fun h => by
                rcases MT.out.1 h with h | h
                · exact TT.out.2 h
                · rw [toList_eqB.2 h] at hq; cases hq⟩
              cases hlt : Op.bytesLess x.toList d.toList with
              | true =>
                have S9 := Lib.hid (SY.out hlt)
                go_wp2
                go_roundw
                case rel => exact ⟨j + 1, j + 1, false, by omega, by go_num, rfl, by go_num, S9, TJ, BX⟩
                case measure => simp [RowKit.intOf]; omega
              | false =>
                have S9 := Lib.hid (SN.out hlt)
                go_wp2
                go_roundw
                case rel => exact ⟨j + 1, A, false, by omega, rfl, rfl, by go_num, S9, TJ, BX⟩
                case measure => simp [RowKit.intOf]; omega
        · obtain rfl : j = o.length := by omega
          have hjo' : ¬ ((o.length : Nat) : Int) < o.length := by omega
          have hA2 : A ≤ o.length := SS.out.le
          have HO := Lib.hid (own_later O7.out BX.out)
          have R2 : Hid (wr.rangeAt yb 0 (Wr.cells ⟨r, n, tt, d, fl, tx⟩)) := Lib.hid (range_below Y7.out BX.out)
          have B2 := Lib.hid (thenBelow B7.out BX.out)
          rw [List.take_length] at TT
          cases tb with
          | true =>
            have e := HAS.out (TT.out.1 rfl)
            subst e
            clear SS PUT RI O7 Y7 B7 BX TT HAS
            go_wp2
            go_roundw
            case rel => exact ⟨k + 1, by omega, by go_num, by rw [HTG.out]; exact HO, B2⟩
            case measure => simp [RowKit.intOf]; omega
          | false =>
            have FIN0 := Lib.hid (PUT.out A SS.out (fun h => by have := TT.out.2 h; cases this))
            clear SS PUT RI O7 Y7 B7 BX TT HAS
            rcases HO.out.2 with ⟨h1, h2⟩ | ⟨g, cap, cur, h1, hg1, hg2, hg3, _⟩
            · injection h1 with h1 _ hc0
              subst h1 hc0
              have hl0 : o = [] := List.eq_nil_of_length_eq_zero h2
              subst hl0
              obtain rfl : A = 0 := by simpa using hA2
              clear h2 hA2 hjo hjo' hj
              obtain ⟨c0, c1, c2, c3, c4, c5⟩ := wr_cells R2.out
              simp only [Nat.zero_add, Nat.add_zero] at c0 c1 c2 c3 c4 c5
              go_wp2_with (at_builtin; refine wpList_str _ rfl _ _ rfl wr.heap.size 0 [] (.slice none 0 0) rfl ⟨rfl, .inl ⟨rfl, rfl⟩⟩ (d) rfl (by omega) (Nat.le_refl _) ?_)
              clear c0 c1 c2 c3 c4 c5
              intro v6 w6 o6 g6
              have D6 := Lib.hid ((Below.refl wr.heap.size wr).grown g6 (Nat.le_refl _) (fun k hk => by cases hk))
              have O6 := Lib.hid o6
              clear o6 g6
              go_wp2_with (at_builtin; refine wpList_strNone w6 rfl _ _ rfl wr.heap.size _ _ _ rfl O6.out rfl ?_)
              have O7 : Hid (w6.ownsRow w.heap.size 9 1 v6 TG.length (strs TG)) := Lib.hid (by
                have h9 := own_base O6.out B2.out.size
                rw [← FIN0.out]
                simpa [strs] using h9)
              have B7 := Lib.hid (B2.out.trans (D6.out.mono B2.out.size))
              go_wp2
              go_roundw
              case rel => exact ⟨k + 1, by omega, by go_num, by rw [HTG.out]; exact O7, B7⟩
              case measure => simp [RowKit.intOf]; omega
            · injection h1 with h1 _ hc0
              subst h1 hc0
              have hcap : A ≤ cq := by omega
              have RW : Hid (wr.rangeAt g 0 (strs o)) := Lib.hid fun j u hu => by
                have hj : j < o.length * 1 := by rw [← strs_lenK]; exact (List.getElem?_eq_some_iff.1 hu).1
                rw [Nat.zero_add, HO.out.cellAt j hj]; exact hu
              have RD : Hid (wr.rangeAt g (A) (strs (o.drop A))) := Lib.hid fun j u hu => by
                rw [strs_drop1, List.getElem?_drop] at hu
                have := RW.out (A + j) u hu
                rwa [Nat.zero_add] at this
              have RT : Hid (wr.rangeAt g 0 (strs (o.take A))) := Lib.hid fun j u hu => by
                rw [strs_take1] at hu
                by_cases h5 : j < A
                · rw [List.getElem?_take_of_lt h5] at hu; exact RW.out j u hu
                · rw [List.getElem?_eq_none (by rw [List.length_take]; omega)] at hu; cases hu
              have LT : Hid ((o.take A).length = A) := Lib.hid (by rw [List.length_take]; omega)
              have LD : Hid ((o.drop A).length = o.length - A) := Lib.hid (by rw [List.length_drop])
              have FIN : Hid (A + 1 + (o.length - A) = TG.length ∧ strs (o.take A) ++ [.string d] ++ strs (o.drop A) = strs TG) := Lib.hid (by
                rw [← FIN0.out]
                refine ⟨by rw [List.length_append, List.length_append, List.length_singleton, LT.out, LD.out], ?_⟩
                rw [strs_append, strs_append]
                simp [strs])
              clear hg1 hg2 RW
              obtain ⟨m, hm2⟩ : ∃ m, o.length = m := ⟨_, rfl⟩
              rw [hm2] at FIN LD hA2 hOL hg3 ⊢
              go_wp2_with (at_builtin; refine wpList_strs wr rfl _ _ rfl wr.heap.size 0 [] (.slice none 0 0) rfl ⟨rfl, .inl ⟨rfl, rfl⟩⟩ g 0 A cq (o.take A) LT.out rfl RT.out (by omega) (Nat.le_refl _) ?_)
              intro v5 w5 o5 g5
              have D5 := Lib.hid ((Below.refl wr.heap.size wr).grown g5 (Nat.le_refl _) (fun k hk => by cases hk))
              have R5 := Lib.hid (range_below R2.out D5.out)
              have HA1 : Hid (A + 1 ≤ 1000000) := Lib.hid (by omega)
              have O5 : Hid (w5.ownsRow wr.heap.size 9 1 v5 A (strs (o.take A))) := Lib.hid (by simpa using o5)
              have S5 := Lib.hid D5.out.size
              clear o5 g5 R2 RT
              obtain ⟨c0, c1, c2, c3, c4, c5⟩ := wr_cells R5.out
              simp only [Nat.zero_add, Nat.add_zero] at c0 c1 c2 c3 c4 c5
              go_wp2_with (at_builtin; refine wpList_str _ rfl _ _ rfl wr.heap.size A (strs (o.take A)) v5 rfl O5.out (d) rfl HA1.out S5.out ?_)
              clear c0 c1 c2 c3 c4 c5
              intro v6 w6 o6 g6
              have D6 := Lib.hid (D5.out.grown g6 S5.out (fun k hk => (O5.out.lt k hk).1))
              have O6 := Lib.hid o6; have S6 := Lib.hid D6.out.size
              have RD6 := Lib.hid (range_below RD.out D6.out)
              clear o6 g6 RD
              have HA2 : Hid (A + 1 + (m - A) ≤ 1000000) := Lib.hid (by omega)
              have hAn : A ≤ m := hA2
              by_cases hcA : cq = A
              · obtain rfl : cq = A := hcA
                obtain rfl : m = cq := by omega
                have RZ : Hid (w6.rangeAt g 0 (strs (o.drop m))) := Lib.hid (by
                  have h9 : o.drop m = [] := List.eq_nil_of_length_eq_zero (by rw [LD.out]; omega)
                  rw [h9]
                  intro j u hu
                  simp [strs] at hu)
                have hz : m - m = 0 := Nat.sub_self m
                rw [hz] at LD HA2 FIN
                clear RD6 hm2
                go_wp2_with (at_builtin; refine wpList_strs w6 rfl _ _ rfl wr.heap.size (m + 1) (strs (o.take m) ++ [.string d]) v6 rfl O6.out g 0 0 0 (o.drop m) LD.out rfl RZ.out HA2.out S6.out ?_)
                intro v7 w7 o7 g7
                have D7 := Lib.hid (D6.out.grown g7 S6.out (fun k hk => (O6.out.lt k hk).1))
                have B7 := Lib.hid (B2.out.trans (D7.out.mono B2.out.size))
                have O7 : Hid (w7.ownsRow w.heap.size 9 1 v7 TG.length (strs TG)) := Lib.hid (by rw [← FIN.out.1, ← FIN.out.2, List.append_assoc]; exact own_base o7 B2.out.size)
                clear o7 g7
                go_wp2
                go_roundw
                case rel => exact ⟨k + 1, by omega, by go_num, by rw [HTG.out]; exact O7, B7⟩
                case measure => simp [RowKit.intOf]; omega
              · clear hm2
                go_wp2_with (at_builtin; refine wpList_strs w6 rfl _ _ rfl wr.heap.size (A + 1) (strs (o.take A) ++ [.string d]) v6 rfl O6.out g (A) (m - A) (cq - A) (o.drop A) LD.out rfl RD6.out HA2.out S6.out ?_)
                intro v7 w7 o7 g7
                have D7 := Lib.hid (D6.out.grown g7 S6.out (fun k hk => (O6.out.lt k hk).1))
                have B7 := Lib.hid (B2.out.trans (D7.out.mono B2.out.size))
                have O7 : Hid (w7.ownsRow w.heap.size 9 1 v7 TG.length (strs TG)) := Lib.hid (by rw [← FIN.out.1, ← FIN.out.2, List.append_assoc]; exact own_base o7 B2.out.size)
                clear o7 g7
                go_wp2
                go_roundw
                case rel => exact ⟨k + 1, by omega, by go_num, by rw [HTG.out]; exact O7, B7⟩
                case measure => simp [RowKit.intOf]; omega
    · obtain rfl : k = L.length := by omega
      have hkl' : ¬ ((L.length : Nat) : Int) < L.length := by omega
      have TZ : L.take L.length = L := List.take_length
      rw [TZ] at OO
      rw [TZ]
      go_wp2
      go_ret
      exact ⟨_, rfl, OO.out, BB.out⟩
end Go.Proofs.YtijmijokgenflaaGreatDoor
