/- The words of terms as a dictionary: suggest.All. -/
import Derived.Test.YtnmigbbokmibnaaDoorStrSort
import Derived.Test.YtnmigbbokmibnaaDoorDictW
import Derived.Lib.SlicesCompact
namespace Go.Proofs.YtnmigbbokmibnaaDoor
open Go Go.RowKit Go.Sort
set_option linter.unusedVariables false

/-- terms that lie: of each its text, and a list -/
def LiesT (w : World) (p : Option Addr) (l : List ByteArray) : Prop :=
  l ≠ [] → ∃ b o, p = some ⟨b, o, none⟩ ∧ ∀ i, i < l.length → w.cell? ⟨b, o + i * 2, none⟩ = some (.string (l.getD i noW)) ∧ ∃ q n c, w.cell? ⟨b, o + i * 2 + 1, none⟩ = some (.slice q n c)
theorem LiesT.at {w w' : World} {p : Option Addr} {l : List ByteArray} (h : LiesT w p l) (hb : Below w.heap.size w w') {i : Nat} (hi : i < l.length) :
    ∃ b o q n c, p = some ⟨b, o, none⟩ ∧ w'.cell? ⟨b, o + i * 2, none⟩ = some (.string (l.getD i noW)) ∧ w'.cell? ⟨b, o + i * 2 + 1, none⟩ = some (.slice q n c) := by
  obtain ⟨b, o, rfl, hc⟩ := h (by rintro rfl; simp at hi)
  obtain ⟨h1, q, n, c, h2⟩ := hc i hi
  have hlt := World.block_lt_of_cell? w _ h1
  exact ⟨b, o, q, n, c, rfl, (hb.cell (p := ⟨b, o + i * 2, none⟩) hlt).trans h1, (hb.cell (p := ⟨b, o + i * 2 + 1, none⟩) hlt).trans h2⟩
theorem LiesT.below {w w' : World} {p : Option Addr} {l : List ByteArray} (h : LiesT w p l) (hb : Below w.heap.size w w') : LiesT w' p l := by
  intro h0
  obtain ⟨b, o, rfl, hc⟩ := h h0
  refine ⟨b, o, rfl, fun i hi => ?_⟩
  obtain ⟨h1, q, n, c, h2⟩ := hc i hi
  have hlt := World.block_lt_of_cell? w _ h1
  exact ⟨(hb.cell (p := ⟨b, o + i * 2, none⟩) hlt).trans h1, q, n, c, (hb.cell (p := ⟨b, o + i * 2 + 1, none⟩) hlt).trans h2⟩

/-- a row of texts of which the first j are there -/
def filled (l : List ByteArray) (j : Nat) : List Value := strs (l.take j) ++ List.replicate (l.length - j) (.string noW)
theorem take_succD (l : List ByteArray) (j : Nat) (h : j < l.length) : l.take (j + 1) = l.take j ++ [l.getD j noW] := by
  rw [List.take_add_one, List.getElem?_eq_getElem h]; simp [List.getD, List.getElem?_eq_getElem h]
theorem filled_set (l : List ByteArray) (j : Nat) (h : j < l.length) : (filled l j).set j (.string (l.getD j noW)) = filled l (j + 1) := by
  have e : l.length - j = (l.length - (j + 1)) + 1 := by omega
  have hl : (strs (l.take j)).length = j := by rw [strs_length, List.length_take]; omega
  unfold filled
  rw [e, List.replicate_succ, List.set_append_right _ _ (by omega), hl, Nat.sub_self, take_succD l j h, strs_append]
  simp [strs]
theorem filled_at (l : List ByteArray) (j : Nat) (h : j < l.length) : (filled l j)[j]? = some (.string noW) := by
  have hl : (strs (l.take j)).length = j := by rw [strs_length, List.length_take]; omega
  unfold filled
  rw [List.getElem?_append_right (by omega), hl, Nat.sub_self, List.getElem?_replicate]
  simp; omega
theorem filled_end (l : List ByteArray) : filled l l.length = strs l := by simp [filled]

/-- the words of terms, in order, each once -/
def wordsIn (l : List ByteArray) : List ByteArray := compS (sortS l)
theorem wordsIn_len (l : List ByteArray) : (wordsIn l).length ≤ l.length := by
  have h1 := compS_len (sortS l); have h2 := sortS_len l
  unfold wordsIn; omega
/-- those of a dictionary of them -/
def wordsOf (l : List ByteArray) : List ByteArray := if verdict (wordsIn l) = 0 then wordsIn l else []
theorem verdict_none : verdict [] = 0 := verdict_ok (by decide) (fun i hi => by simp at hi)
def goodW (x : ByteArray) : Prop := x.toList.isEmpty = false ∧ x.size ≤ 64
theorem goodW_of {l : List ByteArray} (h : verdict l = 0) (i : Nat) (hi : i < l.length) : goodW (l.getD i noW) := by
  rcases verdict_cases l with ⟨hv, _⟩ | ⟨_, _, hp⟩ | ⟨hv, _⟩
  · rw [h] at hv; cases hv
  · have h1 := hp i hi
    unfold okAt goes at h1
    simp only [Bool.and_eq_true, Bool.not_eq_true', decide_eq_true_eq] at h1
    refine ⟨?_, h1.2⟩
    cases he : (l.getD i noW).toList.isEmpty with
    | false => rfl
    | true =>
      have : l.getD i noW = noW := toList_nil.1 (List.isEmpty_iff.1 he)
      rw [this, leB_none] at h1
      cases h1.1
  · rw [h] at hv; cases hv
theorem verdict_of_good (l : List ByteArray) (hn : l.length ≤ 16384) (hg : ∀ i, i < (wordsIn l).length → goodW ((wordsIn l).getD i noW)) : verdict (wordsIn l) = 0 := by
  have hr := compS_rise l
  have hlen := wordsIn_len l
  change (wordsIn l).Pairwise _ at hr
  generalize wordsIn l = s at hr hg hlen
  refine verdict_ok (by omega) fun i hi => ?_
  obtain ⟨h1, h2⟩ := hg i hi
  unfold okAt goes
  rw [decide_eq_true h2, Bool.and_true]
  cases i with
  | zero =>
    have e : aheadOf s 0 = noW := rfl
    rw [e, leB_to_none, decide_eq_false]
    · rfl
    · intro e
      rw [e] at h1
      rw [toList_nil.2 rfl] at h1
      cases h1
  | succ i =>
    rw [aheadOf_succ]
    have h3 := List.pairwise_iff_getElem.1 hr i (i + 1) (by omega) hi (by omega)
    have g : ∀ k (hk : k < s.length), s.getD k noW = s[k] := fun k hk => by simp [List.getD, List.getElem?_eq_getElem hk]
    rw [g i (by omega), g (i + 1) hi]
    generalize s[i] = a at h3
    generalize s[i + 1] = b at h3
    unfold leB
    rw [bytesLess_eq] at h3 ⊢
    have h3' : a.toList < b.toList := by simpa using h3
    have n1 : ¬ b.toList < a.toList := fun h => List.lt_irrefl _ (List.lt_trans h3' h)
    have n2 : b.toList ≠ a.toList := fun h => by rw [h] at h3'; exact List.lt_irrefl _ h3'
    simp [n1, n2]

set_option maxHeartbeats 8000000 in
set_option maxRecDepth 100000 in
theorem all_is (p : Option Addr) (c : Nat) (l : List ByteArray) (w : World) (h : LiesT w p l) (hl : l.length ≤ 41) :
    Calls Tryd.prog 16 #[.slice p l.length c] w fun e w' => ∃ D, e = .returned (.pointer (some ⟨D, 0, none⟩)) ∧ Dc w' D (wordsOf l) ∧ Below w.heap.size w w' := by
  have H := Lib.hid h
  have hmk : ∀ W : World, (Instr.makeSlice 22 (.int .i64 (l.length : Int)) (.int .i64 (l.length : Int))).run Tryd.prog W = .ok (.slice (some ⟨W.heap.size, 0, none⟩) l.length l.length) (W.alloc (.cells (madeCells #[.string noW] l.length) 9)) := by
    intro W
    have hi : ∃ i, Tryd.prog.info? 9 = some i ∧ i.zero = some (.string noW) ∧ i.bytes = 16 ∧ i.size = 1 := ⟨_, rfl, rfl, rfl, rfl⟩
    obtain ⟨i, h1, h2, h3, h4⟩ := hi
    have hr := run_make (P := Tryd.prog) W 22 9 i (.string noW) Tryd.underlying22 h1 h2 .i64 .i64 l.length l.length (by omega) (Int.le_refl _) (by rw [h3]; omega) (by omega)
    rw [h4] at hr
    simpa [Value.cells] using hr
  have O0 : Hid ((w.alloc (.cells (madeCells #[.string noW] l.length) 9)).ownsRow w.heap.size 9 1 (.slice (some ⟨w.heap.size, 0, none⟩) l.length l.length) l.length (filled l 0)) := by
    have h1 := World.ownsRow_lit (base := w.heap.size) (e := 9) (size := 1) w (madeCells #[.string noW] l.length) l.length (Nat.le_refl _) (by unfold maxLen; omega) (by simp [madeCells])
    rw [toList_madeCells_one] at h1
    exact h1
  have B0 := Lib.hid ((Below.refl w.heap.size w).alloc (Nat.le_refl _) (.cells (madeCells #[.string noW] l.length) 9))
  clear h
  go_enter Tryd.func16, Tryd.ntmps16
  go_wp2_with fail
  clear hmk
  generalize w.alloc (.cells (madeCells #[.string noW] l.length) 9) = w0 at O0 B0 ⊢
  go_loopw [13] (fun i wr => ∃ j : Nat, j ≤ l.length ∧ i = .int .i64 j ∧ wr.ownsRow w.heap.size 9 1 (.slice (some ⟨w.heap.size, 0, none⟩) l.length l.length) l.length (filled l j) ∧ Below w.heap.size w wr) (fun i _ => l.length - (intOf i).toNat)
  case atStart => exact ⟨0, Nat.zero_le _, rfl, O0.out, B0.out⟩
  case round =>
    clear O0 B0
    obtain ⟨j, hj, rfl, hown, hb⟩ := hrel
    have O := Lib.hid hown; have BB := Lib.hid hb
    by_cases hjl : j < l.length
    · have hjl' : (j : Int) < l.length := by omega
      obtain ⟨b, o, q, n, cc, rfl, k1, k2⟩ := H.out.at hb hjl
      generalize hx : l.getD j noW = x at k1
      have O1 := hown.alloc (.cells #[.string x, .slice q n cc] 42)
      have cj := (O1.cellAt j (by omega)).trans (filled_at l j hjl)
      have fj := O1.frozenAt j
      have ST := O1.stored j (.string x)
      rw [← hx, filled_set l j hjl, hx] at ST
      have OS := Lib.hid ST.1
      have B1 := Lib.hid (((hb.alloc hb.size (.cells #[.string x, .slice q n cc] 42))).setCell (p := ⟨w.heap.size, j, none⟩) (Nat.le_refl _) (.string x))
      clear hown hb O1 ST hx
      go_wp2
      go_roundw
      case rel => exact ⟨j + 1, by omega, by go_num, by simpa using OS.out, by simpa using B1.out⟩
      case measure => simp [intOf]; omega
    · obtain rfl : j = l.length := by omega
      have hjl' : ¬ ((l.length : Nat) : Int) < l.length := by omega
      rw [filled_end] at O
      have SO := Lib.hid (sortS_is w.heap.size l _ wr O.out (by omega))
      clear hown
      go_wp2_with fail
      refine SO.out.mono ?_
      rintro e w2 ⟨rfl, o2, g2⟩
      have B2 := Lib.hid (BB.out.grown g2 BB.out.size (fun k hk => (O.out.lt k hk).1))
      have CO := Lib.hid (compS_is w.heap.size (sortS l) _ w2 o2 (by rw [sortS_len]; omega))
      have O2 := Lib.hid o2
      clear SO o2 g2
      go_wp2_with fail
      refine CO.out.mono ?_
      rintro e w3 ⟨v3, rfl, o3, g3⟩
      have B3 := Lib.hid (B2.out.grown g3 B2.out.size (fun k hk => (O2.out.lt k hk).1))
      obtain ⟨_, p3, c3, rfl, hc3, l3, n3⟩ := own_liesS o3
      have hwl := wordsIn_len l
      change (wordsIn l).length ≤ c3 at hc3
      have BU : Hid (Calls Tryd.prog 7 #[.slice p3 (wordsIn l).length c3] w3 (Built w3 (wordsIn l))) := Lib.hid (build_is p3 c3 (wordsIn l) w3 l3 (fun e => (n3 e).1) hc3)
      change Hid (Calls Tryd.prog 7 #[.slice p3 (compS (sortS l)).length c3] w3 (Built w3 (wordsIn l))) at BU
      clear CO o3 g3 O2 l3 n3 hc3
      go_wp2_with fail
      refine BU.out.mono ?_
      rintro e w4 ⟨b4, hcase⟩
      have B4 := Lib.hid (thenBelow B3.out b4)
      clear BU b4
      rcases hcase with ⟨hv, D, rfl, hd⟩ | ⟨hv, rfl⟩
      · have E : Hid (wordsOf l = wordsIn l) := if_pos hv
        have HD := Lib.hid hd
        clear hv hd
        go_wp2
        go_ret
        exact ⟨D, rfl, by rw [E.out]; exact HD.out, B4.out⟩
      · have E : Hid (wordsOf l = []) := if_neg hv
        have BN := Lib.hid (build_is none 0 [] w4 (LiesS.nil _ _) (fun _ => rfl) (Nat.le_refl _))
        have hv' : ¬ (verdict (wordsIn l) = 0) := hv
        generalize verdict (wordsIn l) = vv at hv' hv
        clear hv
        go_wp2_with fail
        refine BN.out.mono ?_
        rintro e w5 ⟨b5, hcase⟩
        have B5 := Lib.hid (thenBelow B4.out b5)
        clear BN b5
        rcases hcase with ⟨hv2, D, rfl, hd⟩ | ⟨hv2, rfl⟩
        · have HD := Lib.hid hd
          clear hv2 hd
          go_wp2
          go_ret
          exact ⟨D, rfl, by rw [E.out]; exact HD.out, B5.out⟩
        · exact absurd verdict_none hv2
end Go.Proofs.YtnmigbbokmibnaaDoor
