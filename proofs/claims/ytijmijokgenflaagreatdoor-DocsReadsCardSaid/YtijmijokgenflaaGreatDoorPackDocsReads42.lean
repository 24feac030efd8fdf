/- The statement DocsReads, proved for every input that its row reads: part 42 of 54. -/
import Derived.Test.YtijmijokgenflaaGreatDoorPackDocsReads22
import Derived.Test.YtijmijokgenflaaGreatDoorPackDocsReads41
import Derived.Test.YtijmijokgenflaaGreatDoorPackDocsReads24
import Derived.Laws.AppendOwnNone
/- The document's writes: which stands ahead; what a Put writes; whether a dot is one of some. -/
namespace Go.Proofs.YtijmijokgenflaaGreatDoor
open Go Go.RowKit
set_option linter.unusedVariables false
set_option maxRecDepth 1000000

theorem cmpS_neg (a b : ByteArray) : decide (cmpS a b < 0) = ltB a b := by
  unfold cmpS
  cases h : ltB a b
  · cases h2 : ltB b a <;> simp
  · simp
theorem cmpS_zero (a b : ByteArray) : cmpS a b = 0 ↔ a = b := by
  unfold cmpS
  constructor
  · intro h
    cases h1 : ltB a b
    · cases h2 : ltB b a
      · exact lin_B.tot a b h1 h2
      · simp [h1, h2] at h
    · simp [h1] at h
  · rintro rfl
    simp [lin_B.irr a]
theorem cmpI_zero (a b : Int) : cmpI a b = 0 ↔ a = b := by
  unfold cmpI
  by_cases h : a < b
  · simp [h]; omega
  · by_cases h2 : b < a
    · simp [h, h2]; omega
    · simp [h, h2]; omega
theorem cmpI_neg (a b : Int) : decide (cmpI a b < 0) = decide (a < b) := by
  unfold cmpI
  by_cases h : a < b
  · simp [h]
  · by_cases h2 : b < a <;> simp [h, h2]
/-- how ahead is told -/
theorem ltW_doc {x y : Wr} (h : x.doc ≠ y.doc) : ltW x y = ltB x.doc y.doc := by
  have h0 : cmpS x.doc y.doc ≠ 0 := fun e => h ((cmpS_zero _ _).1 e)
  rw [← cmpS_neg]
  unfold ltW cmpW
  simp only [orL, if_neg h0]
theorem ltW_field {x y : Wr} (h : x.doc = y.doc) (hf : x.field ≠ y.field) : ltW x y = decide (x.field < y.field) := by
  have h0 : cmpS x.doc y.doc = 0 := (cmpS_zero _ _).2 h
  have h1 : cmpI x.field y.field ≠ 0 := fun e => hf ((cmpI_zero _ _).1 e)
  rw [← cmpI_neg]
  unfold ltW cmpW
  simp only [orL, if_pos h0, if_neg h1]
theorem ltW_dot {x y : Wr} (h : x.doc = y.doc) (hf : x.field = y.field) : ltW x y = lessD x.rep x.n y.rep y.n := by
  have h0 : cmpS x.doc y.doc = 0 := (cmpS_zero _ _).2 h
  have h1 : cmpI x.field y.field = 0 := (cmpI_zero _ _).2 hf
  rw [← cmpD_lt]
  unfold ltW cmpW
  simp only [orL, if_pos h0, if_pos h1]
  by_cases h2 : cmpD x.rep x.n y.rep y.n = 0 <;> simp [h2]
set_option maxHeartbeats 4000000 in
theorem refAhead_is (x y : Wr) (w : World) : Calls Tryz.prog 48 #[.agg x.cells.toArray, .agg y.cells.toArray] w fun e w' => e = .returned (.bool (ltW x y)) ∧ Below w.heap.size w w' := by
  have H1 : Hid (x.doc ≠ y.doc → ltW x y = ltB x.doc y.doc) := Lib.hid fun h => ltW_doc h
  have H2 : Hid (x.doc = y.doc → x.field ≠ y.field → ltW x y = decide (x.field < y.field)) := Lib.hid fun h h2 => ltW_field h h2
  have H3 : Hid (x.doc = y.doc → x.field = y.field → ltW x y = lessD x.rep x.n y.rep y.n) := Lib.hid fun h h2 => ltW_dot h h2
  generalize ltW x y = R at H1 H2 H3
  go_enter Tryz.func48, Tryz.ntmps48
  go_wp2_with (refine wpList_gbox rfl _ rfl x.cells.toArray rfl ?_)
  intro g2 w1 l2 h2 hb1
  go_wp2_with (refine wpList_gbox rfl _ rfl y.cells.toArray rfl ?_)
  intro g3 w2 l3 h3 hb2
  have B2 := Lib.hid (thenBelow hb1 hb2)
  have rx : w2.rangeAt g2 0 x.cells := range_below (by simpa using range_of_block h2) hb2
  have ry : w2.rangeAt g3 0 y.cells := by simpa using range_of_block h3
  clear h2 h3 hb1 hb2
  obtain ⟨a0, a1, a2, a3, a4, a5⟩ := wr_cells rx
  obtain ⟨b0, b1, b2, b3, b4, b5⟩ := wr_cells ry
  clear rx ry
  obtain ⟨r, n, t, d, f, tx⟩ := x
  obtain ⟨r', n', t', d', f', tx'⟩ := y
  simp only [Nat.zero_add] at a0 a1 a2 a3 a4 a5 b0 b1 b2 b3 b4 b5 H1 H2 H3
  by_cases hd : d = d'
  · have hd' : (d.toList == d'.toList) = true := by rw [hd]; simp
    by_cases hf : f = f'
    · have hf' : (f == f') = true := by simpa using hf
      have hR := H3.out hd hf
      have LS := Lib.hid (less_is r n r' n' w2)
      rw [← hR] at LS
      clear hR H1 H2 H3 hd
      go_wp2_with fail
      refine LS.out.mono ?_
      rintro e w3 ⟨rfl, hb3⟩
      have B3 := Lib.hid (thenBelow B2.out hb3)
      clear hb3 LS a0 a1 a2 a3 a4 a5 b0 b1 b2 b3 b4 b5
      go_wp2
      go_ret
      exact ⟨rfl, B3.out⟩
    · have hf' : (f == f') = false := by simpa using hf
      have hR := H2.out hd hf
      subst hR
      clear H1 H2 H3 hd
      go_wp2
      go_ret
      exact ⟨rfl, B2.out⟩
  · have hd' : (d.toList == d'.toList) = false := by
      rw [beq_eq_false_iff_ne]
      intro e
      exact hd (by
        have := lin_B.tot d d' (by unfold ltB; rw [e]; have := lin_B.irr d'; unfold ltB at this; exact this) (by unfold ltB; rw [e]; have := lin_B.irr d'; unfold ltB at this; exact this)
        exact this)
    have hR := H1.out hd
    have hB : Op.bytesLess d.toList d'.toList = R := by rw [hR]; rfl
    clear H1 H2 H3 hd hR
    cases R with
    | true =>
      go_wp2
      go_ret
      exact ⟨rfl, B2.out⟩
    | false =>
      go_wp2
      go_ret
      exact ⟨rfl, B2.out⟩
theorem builtWro (r n t : Int) (d : ByteArray) (f : Int) (tx : ByteArray) (w : World) : (Instr.build 39 #[(0, .agg #[.int .i64 r, .int .i64 n]), (1, .int .i64 t), (2, .string d), (3, .int .i64 f), (4, .string tx)]).run Tryz.prog w = .ok (.agg (Wr.cells ⟨r, n, t, d, f, tx⟩).toArray) w := run_build w _ _ _ (by kernel_rfl)
/-- is a dot one of some? -/
def hasIn (l : List Dt) (d : Dt) : Bool := decide (d ∈ l)
set_option maxHeartbeats 4000000 in
theorem refHasIn_is (p : Option Addr) (c : Nat) (l : List Dt) (y1 y2 : Int) (w : World) (h : DRow w p l) (hn : l.length ≤ 1000000) :
    Calls Tryz.prog 32 #[.slice p l.length c, .agg (dcs y1 y2)] w (RetBool w (hasIn l (y1, y2))) := by
  have H := Lib.hid h; clear h
  obtain ⟨R, hR⟩ : ∃ R, hasIn l (y1, y2) = R := ⟨_, rfl⟩
  rw [hR]
  have HR := Lib.hid hR
  clear hR
  go_enter Tryz.func32, Tryz.ntmps32
  go_wp2_with (refine wpList_gbox rfl _ rfl (dcs y1 y2) rfl ?_)
  intro g3 w1 l3 h3 hb1
  have B1 := Lib.hid hb1
  have Y1 := Lib.hid (range_of_block h3)
  clear hb1 h3
  go_wp2
  go_loopw [9] (fun i wr => ∃ k : Nat, k ≤ l.length ∧ i = .int .i64 k ∧ (∀ i (h : i < l.length), i < k → l[i] ≠ (y1, y2)) ∧ Below w1.heap.size w1 wr) (fun i _ => l.length - (intOf i).toNat)
  case atStart => exact ⟨0, Nat.zero_le _, rfl, fun i _ h => by omega, Below.refl _ _⟩
  case round =>
    obtain ⟨k, hk, rfl, hall, hb⟩ := hrel
    have BB := Lib.hid hb; have HA := Lib.hid hall
    clear hall hb
    by_cases hkl : k < l.length
    · have hkl' : (k : Int) < l.length := by omega
      have hr := thenBelow B1.out BB.out
      obtain ⟨b1, o1, rfl, q1⟩ := drow_at (H.out.below hr) hkl
      obtain ⟨⟨x1, x2⟩, hx⟩ : ∃ x, l[k] = x := ⟨_, rfl⟩
      have HX := Lib.hid hx
      rw [hx] at q1
      have d0 := q1 0 _ rfl
      have d1 := q1 1 _ rfl
      have y1' := range_below Y1.out (thenBelow BB.out (below_alloc wr (.cells #[.int .i64 x1, .int .i64 x2] 37)))
      have e0 := y1' 0 _ rfl
      have e1 := y1' 1 _ rfl
      simp only [Nat.add_zero, Nat.zero_add] at d0 d1 e0 e1
      have B6 := Lib.hid (thenBelow BB.out (below_alloc wr (.cells #[.int .i64 x1, .int .i64 x2] 37)))
      clear hr q1 y1' hx
      obtain ⟨q, hq⟩ : ∃ q, eqDt (x1, x2) (y1, y2) = q := ⟨_, rfl⟩
      have EQ := Lib.hid hq
      have qr := eqlDt (x1, x2) (y1, y2)
      rw [hq] at qr
      clear hq
      cases q with
      | true =>
        have ht : R = true := by rw [← HR.out]; exact decide_eq_true (by rw [← (eqDt_iff _ _).1 EQ.out, ← HX.out]; exact List.getElem_mem hkl)
        subst ht
        go_wp2
        go_ret
        exact ⟨rfl, thenBelow B1.out B6.out⟩
      | false =>
        have NA : Hid (∀ i (h : i < l.length), i < k + 1 → l[i] ≠ (y1, y2)) := Lib.hid fun i h hi => by
          rcases Nat.lt_or_ge i k with h3 | h3
          · exact HA.out i h h3
          · obtain rfl : i = k := by omega
            intro e
            rw [HX.out] at e
            have h4 := EQ.out
            rw [(eqDt_iff _ _).2 e] at h4
            cases h4
        go_wp2
        go_roundw
        case rel => exact ⟨k + 1, by omega, by go_num, NA.out, B6.out⟩
        case measure => simp [intOf]; omega
    · obtain rfl : k = l.length := by omega
      have hkl' : ¬ ((l.length : Nat) : Int) < l.length := by omega
      have hf : R = false := by rw [← HR.out]; exact decide_eq_false (fun h => by
        obtain ⟨i, hi, e⟩ := List.getElem_of_mem h
        exact absurd e (HA.out i hi hi))
      subst hf
      go_wp2
      go_ret
      exact ⟨rfl, thenBelow B1.out BB.out⟩
set_option maxRecDepth 1000000

section
variable {ops : Array Oper} {rest : List Oper} {o : Oper} {a : Act} {Q : Exit → Act → World → Prop}
/-- writes that lie somewhere, put behind writes of one's own -/
theorem wpList_wrs (w : World) (hg : o.guard = none) (s x : Operand) (ho : o.op = .call { callee := .builtin .append, args := #[s, x], argTypes := #[24, 24] })
    (B n : Nat) (xs : List Value) (v : Value) (hs : a.eval s = v) (hown : w.ownsRow B 39 6 v n xs) (b of m c : Nat) (L : List Wr) (hm : L.length = m) (hx : a.eval x = .slice (some ⟨b, of, none⟩) m c) (hl : w.rangeAt b of (wcl L))
    (hlen : n + m ≤ 1000000) (hB : B ≤ w.heap.size)
    (h : ∀ v' w', w'.ownsRow B 39 6 v' (n + m) (xs ++ wcl L) → w.grownBy w' v.ownBlock → wpList Tryz.prog ops Q rest (a.put o.dst v') w') : wpList Tryz.prog ops Q (o :: rest) a w := by
  subst hm
  obtain ⟨i0, hi, hz0, hz1, hz2⟩ := info_parts infoWr
  refine wpList_append_own _ hg s x 24 ho B 39 i0 _ 6 64 Tryz.underlying24 hi hz0 hz1 hz2 rfl (by decide) v n xs hs hown ⟨b, of, none⟩ L.length c (wcl L) hx (wcl_length L) ?_ (wcl_one L) (by unfold maxLen; omega) (by omega) hB ?_
  · intro j u hu
    rw [Addr.add_mid]; exact hl j u hu
  · intro v' w' h1 h2 _
    exact h v' w' h1 h2
theorem wpList_wrNone (w : World) (hg : o.guard = none) (s x : Operand) (ho : o.op = .call { callee := .builtin .append, args := #[s, x], argTypes := #[24, 24] })
    (B n : Nat) (xs : List Value) (v : Value) (hs : a.eval s = v) (hown : w.ownsRow B 39 6 v n xs) (hx : a.eval x = .slice none 0 0)
    (h : wpList Tryz.prog ops Q rest (a.put o.dst v) w) : wpList Tryz.prog ops Q (o :: rest) a w := by
  obtain ⟨i0, hi, hz0, hz1, hz2⟩ := info_parts infoWr
  exact wpList_append_own_none hg s x _ ho B 39 i0 6 Tryz.underlying24 hi v n xs hs hown hx h
/-- one write put behind writes of one's own -/
theorem wpList_wr (w : World) (hg : o.guard = none) (s x : Operand) (ho : o.op = .call { callee := .builtin .append, args := #[s, x], argTypes := #[24, 24] })
    (B n : Nat) (xs : List Value) (v : Value) (hs : a.eval s = v) (hown : w.ownsRow B 39 6 v n xs) (X : Wr) (hx : a.eval x = .slice (some ⟨w.heap.size, 0, none⟩) 1 1)
    (hlen : n + 1 ≤ 1000000) (hB : B ≤ w.heap.size)
    (h : ∀ v' w', w'.ownsRow B 39 6 v' (n + 1) (xs ++ X.cells) → w.grownBy w' v.ownBlock → wpList Tryz.prog ops Q rest (a.put o.dst v') w') : wpList Tryz.prog ops Q (o :: rest) a (w.alloc (.cells X.cells.toArray 39)) := by
  obtain ⟨i0, hi, hz0, hz1, hz2⟩ := info_parts infoWr
  refine wpList_append_own _ hg s x 24 ho B 39 i0 _ 6 64 Tryz.underlying24 hi hz0 hz1 hz2 rfl (by decide) v n xs hs (hown.alloc _) ⟨w.heap.size, 0, none⟩ 1 1 X.cells hx rfl ?_ X.cells_one (by unfold maxLen; omega) (by omega) (by simp; omega) ?_
  · intro j u hu
    rw [Addr.add_lit, Nat.zero_add, cell_of_row _ w.heap.size j _ _ _ (heap_alloc_new w (.cells X.cells.toArray 39))]
    simpa using hu
  · intro v' w' g1 g2 _
    refine h v' w' g1 ?_
    have g0 := World.grownBy_alloc w (.cells X.cells.toArray 39) v.ownBlock
    exact ⟨g2.os.trans g0.os, g2.tape.trans g0.tape, g2.output.trans g0.output, Nat.le_trans g0.size g2.size, fun i hi hne => (g2.block i (Nat.lt_of_lt_of_le hi g0.size) hne).trans (g0.block i hi hne)⟩
end
theorem Sx.setSlot {w : World} {g : Nat} {f : Nat → Int} {v : Value} (h : Sx w g f v) (u : Value) : Sx (w.setCell ⟨g, 64, none⟩ u) g f u := by
  have h2 := block_setCell (j := 64) h u
  unfold Sx
  rw [h2]
  have e : (scs f v).setIfInBounds 64 u = scs f u := by
    apply Array.ext_getElem?
    intro i
    rw [Array.getElem?_setIfInBounds]
    by_cases hi : 64 = i
    · subst hi
      rw [if_pos rfl, if_pos (by rw [scs_size]; omega), scs_slot]
    · rw [if_neg hi]
      by_cases h64 : i < 64
      · rw [scs_vec f v i h64, scs_vec f u i h64]
      · rw [Array.getElem?_eq_none (by rw [scs_size]; omega), Array.getElem?_eq_none (by rw [scs_size]; omega)]
  rw [e]
/-- a block of another type is no row of one's own -/
theorem own_ne {w : World} {B0 : Nat} {ty : TypeId} {k n : Nat} {v : Value} {xs : List Value} (h : w.ownsRow B0 ty k v n xs) {g : Nat} {cs : Array Value} {T : TypeId} {m : Nat × Nat} (hg : w.heap[g]? = some (.cells cs T m)) (hne : T ≠ ty) : some g ≠ v.ownBlock := by
  rcases h.2 with ⟨rfl, _⟩ | ⟨g', cap, cur, rfl, _, q3, _⟩
  · simp [Value.ownBlock]
  · intro e
    have : g' = g := by simpa [Value.ownBlock] using e.symm
    subst this
    rw [q3] at hg
    injection hg with hg
    injection hg with _ h2
    exact hne h2.symm
theorem builtSt1 (f : Nat → Int) (w : World) : (Instr.build 26 #[(0, .agg (vf f))]).run Tryz.prog w = .ok (.agg (scs f (.slice none 0 0))) w := run_build w _ _ _ (by kernel_rfl)
theorem exec_storeVS {P : Program} {o : Oper} {a : Act} {w : World} (t : TypeId) (x y : Operand) (ho : o.op = .store t x y) (hsz : ∀ w : World, (sizeOf t).run P w = .ok 1 w) (p : Addr) (q : Option Addr) (n c : Nat) (old : Value) (hx : a.eval x = .pointer (some p)) (hy : a.eval y = .slice q n c)
    (hc : w.cell? p = some old) (hf : w.frozen? p = false) : (execOp a.eval o).run P w = .ok .skip (w.setCell p (.slice q n c)) := by
  unfold execOp
  simp only [ho, hx, hy]
  have hs := hsz w
  go_simp
theorem rgd_twoV {P : Program} {ops : Array Oper} {o o2 : Oper} {a : Act} {w : World} {Q : Exit → Act → World → Prop} {S : World → Prop} {md : Region.Mode} {fuel : Nat} {listed : Array Bool} (i j : Nat) (d d2 : Option Tmp) (hr : Region.ready md ops listed = [i, j]) (hi : ops[i]? = some o) (hd : o.dst = d) (hw : Region.wanted o (yielded ops a.tmps) = true) (v : Value) (w' : World) (hrun : (execOp a.eval o).run P w = .ok (.value v) w')
    (hj : ops[j]? = some o2) (hd2 : o2.dst = d2) (hw2 : Region.wanted o2 (yielded ops a.tmps) = true) (f : FuncId) (args : Array Value) {Post : Ending → World → Prop} (hrun2 : (execOp a.eval o2).run P w = .ok (.enter f args) w) (hc : Calls P f args w Post) (hS : S w')
    (h : wpAnyH P md ops Q S fuel (listed.setIfInBounds i true) (a.put d v) w')
    (h2 : ∀ e w', Post e w' → ∃ v, e = .returned v ∧ S w' ∧ wpAnyH P md ops Q S fuel (listed.setIfInBounds j true) (a.put d2 v) w') : wpAnyH P md ops Q S (fuel + 1) listed a w := by
  subst hd; subst hd2; exact rg_two i j hr hi hw v w' hrun hj hw2 f args hrun2 hc hS h h2
/-- a state that is handed back, wherever its writes lie, and an error -/
def StV (w : World) (F : Nat → Int) (L : List Wr) (k : Int) (e : Ending) (w' : World) : Prop := ∃ p c, e = .returned (.tuple #[.agg (scs F (.slice p L.length c)), .int .i64 k]) ∧ WrsAt w' p L ∧ (∀ a, p = some a → ∃ b o, a = ⟨b, o, none⟩) ∧ Below w.heap.size w w'
def SmR (w : World) (n : Nat) (e : Ending) (w' : World) : Prop := ∃ b, e = .returned (.bool b) ∧ (b = true → n ≤ 120) ∧ Below w.heap.size w w'
set_option maxHeartbeats 8000000 in
theorem smallS_is (F : Nat → Int) (p : Option Addr) (c : Nat) (L : List Wr) (w : World) (h : WrsAt w p L) :
    Calls Tryz.prog 4 #[.agg (scs F (.slice p L.length c))] w (SmR w L.length) := by
  have HW := Lib.hid h
  clear h
  go_enter Tryz.func4, Tryz.ntmps4
  go_wp2_with (refine wpList_gbox rfl _ rfl (scs F (.slice p L.length c)) rfl ?_)
  intro g2 w1 l2 h2 hb1
  have S1 : Hid (Sx w1 g2 F (.slice p L.length c)) := Lib.hid h2
  have B1 := Lib.hid hb1
  clear h2 hb1
  have k64 := S1.out.slot
  by_cases hL : L.length > 120
  · have hL' : (L.length : Int) > 120 := by omega
    go_wp2
    go_ret
    exact ⟨false, rfl, (fun h => by cases h), B1.out⟩
  · have hL' : ¬ (L.length : Int) > 120 := by omega
    go_wp2
    clear k64
    go_loopw [3, 13] (fun n i wr => ∃ k m : Nat, k ≤ L.length ∧ m ≤ 8192 ∧ n = .int .i64 m ∧ i = .int .i64 k ∧ Below w.heap.size w wr) (fun _ i _ => L.length - (RowKit.intOf i).toNat)
    case atStart => exact ⟨0, 0, Nat.zero_le _, Nat.zero_le _, rfl, rfl, B1.out⟩
    case round =>
      obtain ⟨k, m, hk, hm, rfl, rfl, hb⟩ := hrel
      have BB := Lib.hid hb
      clear hb
      by_cases hkl : k < L.length
      · have hkl' : (k : Int) < L.length := by omega
        obtain ⟨b, o, rfl, hlt, hq⟩ := (HW.out.below BB.out).at hkl
        obtain ⟨y, hy⟩ : ∃ y, L[k] = y := ⟨_, rfl⟩
        rw [hy] at hq
        clear hy
        obtain ⟨c0, c1, c2, c3, c4, c5⟩ := wr_cells hq
        obtain ⟨yr, yn, yt, yd, yf, ytx⟩ := y
        simp only at c0 c1 c2 c3 c4 c5
        have B6 := Lib.hid (thenBelow BB.out (below_alloc wr (.cells #[.int .i64 yr, .int .i64 yn, .int .i64 yt, .string yd, .int .i64 yf, .string ytx] 39)))
        obtain ⟨a1, ha1⟩ : ∃ a1 : Nat, min (yd.size : Int) 8192 = a1 := ⟨min yd.size 8192, by omega⟩
        obtain ⟨a2, ha2⟩ : ∃ a2 : Nat, min (ytx.size : Int) 8192 = a2 := ⟨min ytx.size 8192, by omega⟩
        have z1 : a1 ≤ 8192 := by omega
        have z2 : a2 ≤ 8192 := by omega
        clear hq
        by_cases hbig : m + (a1 + a2) ≤ 8192
        · have hbig' : ¬ ((m : Int) + (a1 + a2) > 8192) := by omega
          go_wp2
          go_roundw
          case rel => exact ⟨k + 1, m + (a1 + a2), by omega, hbig, by go_num, by go_num, B6.out⟩
          case measure => simp [RowKit.intOf]; omega
        · have hbig' : (m : Int) + (a1 + a2) > 8192 := by omega
          go_wp2
          go_ret
          exact ⟨false, rfl, (fun h => by cases h), B6.out⟩
      · obtain rfl : k = L.length := by omega
        have hkl' : ¬ ((L.length : Nat) : Int) < L.length := by omega
        go_wp2
        go_ret
        exact ⟨true, rfl, (fun _ => by omega), BB.out⟩
set_option maxRecDepth 1000000

theorem runEqDt9 (r n : Int) (w : World) : (Op.equalIn 9999 37 (.agg #[.int .i64 r, .int .i64 n]) (.agg #[.int .i64 r, .int .i64 n])).run Tryz.prog w = .ok true w := by
  have u3 := Tryz.underlying3
  have a3 := Tryz.isAgg3
  have z3 := Tryz.sizeOf3
  have hS : Tryz.prog.underlying 37 = some (.struct (Tryz.prog.fieldsOf 37)) := by kernel_rfl
  have hp : Tryz.prog.stoodInHeld 37 = false := by kernel_rfl
  rw [show (9999 : Nat) = 9998 + 1 from rfl, run_equalIn_agg w 9998 37 _ _ hS hp]
  simp only [Program.fieldsOf, Tryz.underlying37]
  go_simp
theorem runEqW (x : Wr) (w : World) : (Op.equalIn 10000 39 (.agg x.cells.toArray) (.agg x.cells.toArray)).run Tryz.prog w = .ok true w := by
  have u3 := Tryz.underlying3
  have a3 := Tryz.isAgg3
  have z3 := Tryz.sizeOf3
  have u9 := Tryz.underlying9
  have a9 := Tryz.isAgg9
  have z9 := Tryz.sizeOf9
  have ud := Tryz.underlying37
  have ad := Tryz.isAgg37
  have zd := Tryz.sizeOf37
  have hS : Tryz.prog.underlying 39 = some (.struct (Tryz.prog.fieldsOf 39)) := by kernel_rfl
  have hp : Tryz.prog.stoodInHeld 39 = false := by kernel_rfl
  obtain ⟨r, n, t, d, f, tx⟩ := x
  have hd := runEqDt9 r n
  simp only [Wr.cells]
  rw [show (10000 : Nat) = 9999 + 1 from rfl, run_equalIn_agg w 9999 39 _ _ hS hp]
  simp only [Program.fieldsOf, Tryz.underlying39]
  go_simp
theorem exec_idxWr {o : Oper} {a : Act} (x y : Operand) (ho : o.op = .indexAddr 24 x y) (b f len cap k : Nat) (hx : a.eval x = .slice (some ⟨b, f, none⟩) len cap) (hy : a.eval y = .int .i64 (k : Int)) (hk : k < len) (w : World) :
    (execOp a.eval o).run Tryz.prog w = .ok (.value (.pointer (some ⟨b, f + k * 6, none⟩))) w := exec_idxW x y ho b f len cap k hx hy hk w
theorem exec_neqW {o : Oper} {a : Act} (t : TypeId) (x y : Operand) (ho : o.op = .binOp .neq 39 x y t) (X : Wr) (hx : a.eval x = .agg X.cells.toArray) (hy : a.eval y = .agg X.cells.toArray) (w : World) :
    (execOp a.eval o).run Tryz.prog w = .ok (.value (.bool false)) w := by
  have h : (binOp .neq 39 (.agg X.cells.toArray) (.agg X.cells.toArray)).run Tryz.prog w = .ok (.bool false) w := by
    rw [run_neq_struct, runEqW X w]; rfl
  unfold execOp
  simp only [ho, hx, hy]
  refine run_value_of ?_
  rw [Sem.run_bind]
  have hg : (eqGuard .neq 39 x y (.agg X.cells.toArray) (.agg X.cells.toArray)).run Tryz.prog w = .ok () w := by
    unfold eqGuard
    go_simp
  rw [hg]
  exact h
set_option maxHeartbeats 8000000 in
theorem sameS_is (F G : Nat → Int) (hFG : veq F G = true) (p q : Option Addr) (c d : Nat) (L : List Wr) (w : World) (h : WrsAt w p L) (h2 : WrsAt w q L) (hn : L.length ≤ 10000) :
    Calls Tryz.prog 23 #[.agg (scs F (.slice p L.length c)), .agg (scs G (.slice q L.length d))] w (Yes w) := by
  have HP := Lib.hid h; have HQ := Lib.hid h2
  clear h h2
  go_enter Tryz.func23, Tryz.ntmps23
  go_wp2_with (refine wpList_gbox rfl _ rfl (scs F (.slice p L.length c)) rfl ?_)
  intro g2 w1 l2 h2 hb1
  have S1 : Hid (Sx w1 g2 F (.slice p L.length c)) := Lib.hid h2
  have B1 := Lib.hid hb1
  clear h2 hb1
  go_wp2_with (refine wpList_gbox rfl _ rfl (scs G (.slice q L.length d)) rfl ?_)
  intro g3 w2 l3 h3 hb2
  have S2 := Lib.hid (S1.out.later hb2); have T2 : Hid (Sx w2 g3 G (.slice q L.length d)) := Lib.hid h3
  have B2 := Lib.hid (thenBelow B1.out hb2)
  clear h3 hb2 S1
  have k2 := S2.out.slot; have k3 := T2.out.slot
  have V2 := Lib.hid (S2.out.vec); have V3 := Lib.hid (T2.out.vec)
  have NQ : ∀ V : World, (binOp .neq 23 (.agg (vf F)) (.agg (vf G))).run Tryz.prog V = .ok (.bool false) V := fun V => by rw [vecI.neq F G V, hFG]; rfl
  go_wp2_with (first | refine wpList_gload rfl _ rfl g2 0 rfl _ V2.out _ Tryz.underlying23 rfl (sizeVcl F) ?_ | refine wpList_gload rfl _ rfl g3 0 rfl _ V3.out _ Tryz.underlying23 rfl (sizeVcl G) ?_)
  clear k2 V2 V3 NQ
  go_loopw [24] (fun i wr => ∃ k : Nat, k ≤ L.length ∧ i = .int .i64 k ∧ Below w2.heap.size w2 wr) (fun i _ => L.length - (RowKit.intOf i).toNat)
  case atStart => exact ⟨0, Nat.zero_le _, rfl, Below.refl _ _⟩
  case round =>
    obtain ⟨k, hk, rfl, hb⟩ := hrel
    have BB := Lib.hid hb
    clear hb
    by_cases hkl : k < L.length
    · have hkl' : (k : Int) < L.length := by omega
      have BW := Lib.hid (thenBelow B2.out BB.out)
      obtain ⟨b, o, rfl, hlt, hq⟩ := (HP.out.below BW.out).at hkl
      obtain ⟨b2, o2, rfl, hlt2, hq2⟩ := (HQ.out.below BW.out).at hkl
      obtain ⟨y, hy⟩ : ∃ y, L[k] = y := ⟨_, rfl⟩
      rw [hy] at hq hq2
      clear hy
      obtain ⟨c0, c1, c2, c3, c4, c5⟩ := wr_cells hq
      clear hq
      have ba := fun cs => below_alloc wr (.cells cs 39)
      have T3 := Lib.hid (fun cs => (T2.out.later (thenBelow BB.out (ba cs)) : Sx (wr.alloc (.cells cs 39)) g3 G (.slice (some ⟨b2, o2, none⟩) L.length d)))
      have Y3 := Lib.hid (fun cs => range_below hq2 (ba cs))
      have N3 := Lib.hid (fun cs => heap_alloc_new wr (.cells cs 39))
      have B6 := Lib.hid (fun cs => thenBelow BB.out (ba cs))
      clear ba hq2
      obtain ⟨yr, yn, yt, yd, yf, ytx⟩ := y
      simp only at c0 c1 c2 c3 c4 c5
      go_wp2_with fail
      rename_i K2 hK2
      have T4 := Lib.hid (T3.out #[.int .i64 yr, .int .i64 yn, .int .i64 yt, .string yd, .int .i64 yf, .string ytx]); have Y4 := Lib.hid (Y3.out #[.int .i64 yr, .int .i64 yn, .int .i64 yt, .string yd, .int .i64 yf, .string ytx]); have B7 := Lib.hid (to_drew (B6.out #[.int .i64 yr, .int .i64 yn, .int .i64 yt, .string yd, .int .i64 yf, .string ytx]))
      have N4 := Lib.hid (show (wr.alloc (.cells #[.int .i64 yr, .int .i64 yn, .int .i64 yt, .string yd, .int .i64 yf, .string ytx] 39)).rangeAt wr.heap.size 0 (Wr.cells ⟨yr, yn, yt, yd, yf, ytx⟩) from range_of_block (N3.out #[.int .i64 yr, .int .i64 yn, .int .i64 yt, .string yd, .int .i64 yf, .string ytx]))
      clear T3 Y3 N3 B6 c0 c1 c2 c3 c4 c5
      generalize hW : wr.alloc (.cells #[.int .i64 yr, .int .i64 yn, .int .i64 yt, .string yd, .int .i64 yf, .string ytx] 39) = W6 at T4 Y4 N4 B7 ⊢
      generalize hG : wr.heap.size = G6 at N4 ⊢
      clear hW hG
      refine rg_calm (by kernel_rfl) rfl (S := fun U => Sx U g3 G (.slice (some ⟨b2, o2, none⟩) L.length d) ∧ U.rangeAt b2 (o2 + k * 6) (Wr.cells ⟨yr, yn, yt, yd, yf, ytx⟩) ∧ U.rangeAt G6 0 (Wr.cells ⟨yr, yn, yt, yd, yf, ytx⟩) ∧ Below w2.heap.size w2 U) ?_
      have m0 : Sx W6.drew g3 G (.slice (some ⟨b2, o2, none⟩) L.length d) ∧ W6.drew.rangeAt b2 (o2 + k * 6) (Wr.cells ⟨yr, yn, yt, yd, yf, ytx⟩) ∧ W6.drew.rangeAt G6 0 (Wr.cells ⟨yr, yn, yt, yd, yf, ytx⟩) ∧ Below w2.heap.size w2 W6.drew := ⟨T4.out, Y4.out, N4.out, B7.out⟩
      refine rgd_pure 0 (some 29) rfl rfl (.pointer (some ⟨g3, 64, none⟩)) (by kernel_rfl) (by kernel_rfl) (by kernel_rfl) (fun _ _ _ _ h => h) (by kernel_rfl) (fun w => by kernel_rfl) m0 ?_
      refine rgd_pureS 1 (some 30) rfl rfl (.slice (some ⟨b2, o2, none⟩) L.length d) (by kernel_rfl) (by kernel_rfl) (by kernel_rfl) (fun _ _ _ _ h => h) (by kernel_rfl) (fun U hU => exec_load1 _ _ rfl Tryz.underlying24 rfl ⟨g3, 64, none⟩ _ (by kernel_rfl) hU.1.slot) m0 ?_
      refine rgd_pure 2 (some 31) rfl rfl (.int .i64 (k : Int)) (by kernel_rfl) (by kernel_rfl) (by kernel_rfl) (fun _ _ _ _ h => h) (by kernel_rfl) (fun w => by kernel_rfl) m0 ?_
      refine rgd_pure 3 (some 32) rfl rfl (.pointer (some ⟨b2, o2 + k * 6, none⟩)) (by kernel_rfl) (by kernel_rfl) (by kernel_rfl) (fun _ _ _ _ h => h) (by kernel_rfl) (exec_idxW _ _ rfl b2 o2 L.length d k (by kernel_rfl) (by kernel_rfl) hkl) m0 ?_
      refine rgd_pureS 4 (some 33) rfl rfl (.agg #[.int .i64 yr, .int .i64 yn, .int .i64 yt, .string yd, .int .i64 yf, .string ytx]) (by kernel_rfl) (by kernel_rfl) (by kernel_rfl) (fun _ _ _ _ h => h) (by kernel_rfl) (fun U hU => exec_gload 39 _ rfl b2 (o2 + k * 6) (by kernel_rfl) _ hU.2.1 Tryz.underlying39 rfl (sizeWr ⟨yr, yn, yt, yd, yf, ytx⟩)) m0 ?_
      refine rgd_pureS 5 (some 34) rfl rfl (.agg #[.int .i64 yr, .int .i64 yn, .int .i64 yt, .string yd, .int .i64 yf, .string ytx]) (by kernel_rfl) (by kernel_rfl) (by kernel_rfl) (fun _ _ _ _ h => h) (by kernel_rfl) (fun U hU => exec_gload 39 _ rfl G6 0 (by kernel_rfl) _ hU.2.2.1 Tryz.underlying39 rfl (sizeWr ⟨yr, yn, yt, yd, yf, ytx⟩)) m0 ?_
      refine rgd_pure 6 (some 35) rfl rfl (.bool false) (by kernel_rfl) (by kernel_rfl) (by kernel_rfl) (fun _ _ _ _ h => h) (by kernel_rfl) (exec_neqW _ _ _ rfl ⟨yr, yn, yt, yd, yf, ytx⟩ (by kernel_rfl) (by kernel_rfl)) m0 ?_
      have KE : K2 { tmps := #[.agg (scs F (.slice (some ⟨b, o, none⟩) L.length c)), .agg (scs G (.slice (some ⟨b2, o2, none⟩) L.length d)), .pointer (some ⟨g2, 0, none⟩), .pointer (some ⟨g3, 0, none⟩), u4, .int .i64 (k : Int), .pointer (some ⟨G6, 0, none⟩), .pointer (some ⟨g2, 0, none⟩), .agg (vf F), .pointer (some ⟨g3, 0, none⟩), .agg (vf G), .bool false, .bool false, .pointer (some ⟨g2, 64, none⟩), .slice (some ⟨b, o, none⟩) L.length c, .int .i64 (L.length : Int), .pointer (some ⟨g3, 64, none⟩), .slice (some ⟨b2, o2, none⟩) L.length d, .int .i64 (L.length : Int), .bool false, .bool false, .pointer (some ⟨g2, 64, none⟩), .slice (some ⟨b, o, none⟩) L.length c, .int .i64 (L.length : Int), .int .i64 (k : Int), .bool true, .int .i64 (k : Int), .pointer (some ⟨b, o + k * 6, none⟩), .agg #[.int .i64 yr, .int .i64 yn, .int .i64 yt, .string yd, .int .i64 yf, .string ytx], .pointer (some ⟨g3, 64, none⟩), .slice (some ⟨b2, o2, none⟩) L.length d, .int .i64 (k : Int), .pointer (some ⟨b2, o2 + k * 6, none⟩), .agg #[.int .i64 yr, .int .i64 yn, .int .i64 yt, .string yd, .int .i64 yf, .string ytx], .agg #[.int .i64 yr, .int .i64 yn, .int .i64 yt, .string yd, .int .i64 yf, .string ytx], .bool false, u36], defers := [] } W6.drew := by
        refine hK2 _ _ ?_
        clear hK2 m0
        go_wp2
        go_roundw
        case rel => exact ⟨k + 1, by omega, by go_num, B7.out⟩
        case measure => simp [RowKit.intOf]; omega
      exact wpAnyH_done (by kernel_rfl) (Eq.mp (by kernel_rfl) KE) _
    · obtain rfl : k = L.length := by omega
      have hkl' : ¬ ((L.length : Nat) : Int) < L.length := by omega
      go_wp2
      go_ret
      exact ⟨rfl, thenBelow B2.out BB.out⟩
set_option maxRecDepth 1000000

theorem lessD_iff (r n r' n' : Int) : lessD r n r' n' = true ↔ r < r' ∨ (r = r' ∧ n < n') := by
  unfold lessD; simp
/-- ahead, as it is told -/
theorem ltW_iff (x y : Wr) : ltW x y = true ↔ ltB x.doc y.doc = true ∨ (x.doc = y.doc ∧ (x.field < y.field ∨ (x.field = y.field ∧ (x.rep < y.rep ∨ (x.rep = y.rep ∧ x.n < y.n))))) := by
  by_cases hd : x.doc = y.doc
  · have hi : ltB y.doc y.doc = false := lin_B.irr _
    by_cases hf : x.field = y.field
    · rw [ltW_dot hd hf, lessD_iff]
      simp [hi, hd, hf]
    · rw [ltW_field hd hf]
      simp [hi, hd, hf]
  · rw [ltW_doc hd]
    simp [hd]
theorem ltW_trans {x y z : Wr} (h1 : ltW x y = true) (h2 : ltW y z = true) : ltW x z = true := by
  rw [ltW_iff] at h1 h2 ⊢
  rcases h1 with h1 | ⟨e1, h1⟩
  · rcases h2 with h2 | ⟨e2, h2⟩
    · exact .inl (lin_B.tr _ _ _ h1 h2)
    · exact .inl (by rw [← e2]; exact h1)
  · rcases h2 with h2 | ⟨e2, h2⟩
    · exact .inl (by rw [e1]; exact h2)
    · exact .inr ⟨e1.trans e2, by omega⟩
/-- of two that have not one dot, one stands ahead -/
theorem ltW_tot {x y : Wr} (h : ltW x y = false) (hne : x.dot ≠ y.dot) : ltW y x = true := by
  have h' : ¬ (ltW x y = true) := by rw [h]; simp
  rw [ltW_iff] at h'
  rw [ltW_iff]
  by_cases hd : y.doc = x.doc
  · refine .inr ⟨hd, ?_⟩
    have hn2 : ¬ (x.rep = y.rep ∧ x.n = y.n) := fun e => hne (by unfold Wr.dot; rw [e.1, e.2])
    have h3 : ¬ (x.field < y.field ∨ (x.field = y.field ∧ (x.rep < y.rep ∨ (x.rep = y.rep ∧ x.n < y.n)))) := fun e => h' (.inr ⟨hd.symm, e⟩)
    omega
  · cases e : ltB y.doc x.doc
    · cases e2 : ltB x.doc y.doc
      · exact absurd (lin_B.tot _ _ e e2) hd
      · exact absurd (.inl e2) h'
    · exact .inl rfl
def Ord (L : List Wr) : Prop := L.Pairwise fun x y => ltW x y = true
theorem ord_adj : ∀ (L : List Wr), (∀ i (h : i + 1 < L.length), ltW (L[i]'(by omega)) L[i + 1] = true) → Ord L
  | [], _ => List.Pairwise.nil
  | [x], _ => by simp [Ord]
  | x :: y :: L, h => by
    have ih : Ord (y :: L) := ord_adj (y :: L) fun i hi => h (i + 1) (by simpa using hi)
    have h0 : ltW x y = true := h 0 (by simp)
    refine List.Pairwise.cons (fun z hz => ?_) ih
    rcases List.mem_cons.1 hz with rfl | hz
    · exact h0
    · exact ltW_trans h0 (List.rel_of_pairwise_cons ih hz)
theorem adj_ord {L : List Wr} (h : Ord L) (i : Nat) (hi : i + 1 < L.length) : ltW (L[i]'(by omega)) L[i + 1] = true := List.pairwise_iff_getElem.1 h i (i + 1) (by omega) hi (by omega)
/-- a write put where it belongs -/
theorem ord_ins {L : List Wr} (h : Ord L) (x : Wr) (hd : ∀ y ∈ L, y.dot ≠ x.dot) : Ord (insW L x) := by
  have key : ∀ L : List Wr, Ord L → (∀ y ∈ L, y.dot ≠ x.dot) → Ord (L.takeWhile (fun y => ltW y x) ++ x :: L.dropWhile (fun y => ltW y x)) := by
    intro L
    induction L with
    | nil => intro _ _; simp [Ord]
    | cons y L ih =>
      intro h hd
      have hy : ∀ z, z ∈ L → ltW y z = true := (List.pairwise_cons.1 h).1
      have hL : Ord L := (List.pairwise_cons.1 h).2
      cases e : ltW y x
      · rw [List.takeWhile_cons_of_neg (by simp [e]), List.dropWhile_cons_of_neg (by simp [e]), List.nil_append]
        have hx := ltW_tot e (hd y (by simp))
        refine List.Pairwise.cons (fun z hz => ?_) h
        rcases List.mem_cons.1 hz with rfl | hz
        · exact hx
        · exact ltW_trans hx (hy _ hz)
      · rw [List.takeWhile_cons_of_pos (by simpa using e), List.dropWhile_cons_of_pos (by simpa using e), List.cons_append]
        refine List.Pairwise.cons (fun z hz => ?_) (ih hL fun z hz => hd z (by simp [hz]))
        rcases List.mem_append.1 hz with hz | hz
        · exact hy _ ((List.takeWhile_sublist _).subset hz)
        · rcases List.mem_cons.1 hz with rfl | hz
          · exact e
          · exact hy _ ((List.dropWhile_sublist _).subset hz)
  have h2 := key L h hd
  have e1 : L.take (posW L x) = L.takeWhile (fun y => ltW y x) := by
    unfold posW
    conv => lhs; rw [← List.takeWhile_append_dropWhile (p := fun y => ltW y x) (l := L)]
    rw [List.takeWhile_append_dropWhile]
    exact (List.prefix_iff_eq_take.1 (List.takeWhile_prefix _)).symm
  have e2 : L.drop (posW L x) = L.dropWhile (fun y => ltW y x) := by
    have h3 := List.take_append_drop (posW L x) L
    rw [e1] at h3
    exact List.append_cancel_left (h3.trans List.takeWhile_append_dropWhile.symm)
  unfold insW insAt
  rw [e1, e2]
  exact h2
theorem mem_ins {L : List Wr} {x y : Wr} (h : y ∈ insW L x) : y = x ∨ y ∈ L := by
  unfold insW insAt at h
  rcases List.mem_append.1 h with h | h
  · exact .inr (List.mem_of_mem_take h)
  · rcases List.mem_cons.1 h with h | h
    · exact .inl h
    · exact .inr (List.mem_of_mem_drop h)
set_option maxRecDepth 1000000

/-- a write as the event that wrote it -/
def putE (y : Wr) : Ev := ⟨y.rep, y.n, y.time, 1, y.doc, y.field, y.text, []⟩
/-- can it be a state? -/
structure CanP (F : Nat → Int) (L : List Wr) : Prop where
  good : goodB F = true
  len : L.length ≤ 4096
  fine : ∀ y ∈ L, chk (putE y) = 0 ∧ hasB F y.rep y.n = true
  ord : Ord L
theorem hasRn_iff (F : Nat → Int) (r n : Int) : hasB F r n = true ↔ vldB r n = true ∧ n ≤ F r.toNat := by
  unfold hasB; simp
theorem with_le (F : Nat → Int) (r n : Int) (i : Nat) : F i ≤ withF F r n i := by
  unfold withF
  by_cases h : vldB r n = true
  · rw [if_pos h]
    unfold vset
    by_cases hi : i = r.toNat
    · subst hi; simp; omega
    · simp [hi]
  · rw [if_neg h]; exact Int.le_refl _
theorem with_has {F : Nat → Int} {r n : Int} (r' n' : Int) (h : hasB F r n = true) : hasB (withF F r' n') r n = true := by
  rw [hasRn_iff] at h ⊢
  exact ⟨h.1, Int.le_trans h.2 (with_le F r' n' _)⟩
theorem with_self {F : Nat → Int} {r n : Int} (h : vldB r n = true) : hasB (withF F r n) r n = true := by
  rw [hasRn_iff]
  refine ⟨h, ?_⟩
  unfold withF
  rw [if_pos h]
  unfold vset
  simp
  omega
theorem with_good {F : Nat → Int} {r n : Int} (h : goodB F = true) : goodB (withF F r n) = true := by
  rw [good_iff] at h ⊢
  intro i hi
  have h1 := h i hi
  unfold withF
  by_cases hv : vldB r n = true
  · rw [if_pos hv]
    have h2 := (vld_iff r n).1 hv
    unfold vset
    by_cases he : i = r.toNat
    · subst he; simp; omega
    · simp [he]; omega
  · rw [if_neg hv]; exact h1
theorem chk_wrote {e : Ev} (h : chk e = 0) (hk : e.kind = 1) : chk (putE (wrote e)) = 0 := by
  have hh : headB e = true := by
    cases e9 : headB e
    · rw [chk_no e9] at h; cases h
    · rfl
  rw [chk_put hh hk] at h
  have h1 := (head_iff e).1 hh
  have hg : headB (putE (wrote e)) = true := (head_iff _).2 ⟨h1.1, h1.2.1, h1.2.2.1, goB_iff.2 ⟨by simp [putE], fun i hi => by simp [putE] at hi, fun i hi => by simp [putE] at hi⟩⟩
  rw [chk_put hg rfl]
  exact h
theorem chk_vld {e : Ev} (h : chk e = 0) : vldB e.rep e.n = true := by
  cases e9 : headB e
  · rw [chk_no e9] at h; cases h
  · exact ((head_iff e).1 e9).1
/-- a state that can be stays so behind an event that may be -/
theorem apply_can {F : Nat → Int} {L : List Wr} (e : Ev) (h : CanP F L) (hn : L.length ≤ 4000) (hc : chk e = 0) : CanP (apSeen F e) (apLive F L e) := by
  unfold apSeen apLive
  by_cases hs : apSkip F e = true
  · rw [if_pos hs, if_pos hs]; exact h
  · rw [if_neg hs, if_neg hs]
    have hh : hasB F e.rep e.n = false := by
      unfold apSkip at hs
      rw [hc] at hs
      simpa using hs
    have sub : ∀ y ∈ leftOf L e, y ∈ L := fun y hy => (List.mem_filter.1 hy).1
    have len1 : (leftOf L e).length ≤ L.length := List.length_filter_le _ _
    have ord1 : Ord (leftOf L e) := List.Pairwise.sublist List.filter_sublist h.ord
    have fine1 : ∀ y ∈ leftOf L e, chk (putE y) = 0 ∧ hasB (withF F e.rep e.n) y.rep y.n = true := fun y hy => ⟨(h.fine y (sub y hy)).1, with_has _ _ (h.fine y (sub y hy)).2⟩
    by_cases hk : e.kind = 1
    · rw [if_pos hk]
      refine ⟨with_good h.good, ?_, fun y hy => ?_, ord_ins ord1 _ fun y hy he => ?_⟩
      · unfold insW
        rw [insAt_len _ _ _ (posW_le _ _)]
        omega
      · rcases mem_ins hy with rfl | hy
        · exact ⟨chk_wrote hc hk, with_self (chk_vld hc)⟩
        · exact fine1 y hy
      · have h2 := (h.fine y (sub y hy)).2
        unfold Wr.dot wrote at he
        injection he with e1 e2
        simp only at e1 e2
        rw [e1, e2, hh] at h2
        cases h2
    · rw [if_neg hk]
      exact ⟨with_good h.good, by omega, fine1, ord1⟩
set_option maxRecDepth 1000000

noncomputable def canB (F : Nat → Int) (L : List Wr) : Bool := @decide (CanP F L) (Classical.propDecidable _)
theorem can_iff {F : Nat → Int} {L : List Wr} : canB F L = true ↔ CanP F L := @decide_eq_true_iff _ (Classical.propDecidable _)
theorem can_no {F : Nat → Int} {L : List Wr} (h : ¬ CanP F L) : canB F L = false := by
  cases e : canB F L
  · rfl
  · exact absurd (can_iff.1 e) h
theorem wr_dot {w : World} {b o : Nat} {x : Wr} (h : w.rangeAt b o x.cells) : w.rangeAt b o [.int .i64 x.rep, .int .i64 x.n] := fun j v hv => by
  match j, hv with
  | 0, hv => exact h 0 v hv
  | 1, hv => exact h 1 v hv
  | j + 2, hv => simp at hv
theorem exec_neqN {P : Program} {o : Oper} {a : Act} (t yt : TypeId) (x y : Operand) (ho : o.op = .binOp .neq t x y yt) (X Y : Int) (hb : (X == Y) = false) (hx : a.eval x = .int .i64 X) (hy : a.eval y = .int .i64 Y) (w : World) :
    (execOp a.eval o).run P w = .ok (.value (.bool true)) w := by
  unfold execOp
  simp only [ho, hx, hy]
  have hb2 : (X != Y) = true := by simp [bne, hb]
  go_simp
set_option maxHeartbeats 8000000 in
theorem refCan_is (F : Nat → Int) (p : Option Addr) (c : Nat) (L : List Wr) (w : World) (h : WrsAt w p L) :
    Calls Tryz.prog 21 #[.agg (scs F (.slice p L.length c))] w (RetBool w (canB F L)) := by
  have HW := Lib.hid h
  clear h
  obtain ⟨C, hC⟩ : ∃ C, canB F L = C := ⟨_, rfl⟩
  have HC := Lib.hid hC
  rw [hC]
  clear hC
  have GD := Lib.hid (fun V : World => refGood_is F V)
  go_enter Tryz.func21, Tryz.ntmps21
  go_wp2_with (refine wpList_gbox rfl _ rfl (scs F (.slice p L.length c)) rfl ?_)
  intro g1 w1 l1 h1 hb1
  have S1 : Hid (Sx w1 g1 F (.slice p L.length c)) := Lib.hid h1
  have B1 := Lib.hid hb1
  have V1 := Lib.hid (S1.out.vec)
  clear h1 hb1
  go_wp2_with (first | refine wpList_gload rfl _ rfl g1 0 rfl _ V1.out _ Tryz.underlying23 rfl (sizeVcl F) ?_ | refine wpList_gloadG (by rfl) _ rfl g1 0 rfl _ V1.out _ Tryz.underlying23 rfl (sizeVcl F) ?_)
  refine (GD.out w1).mono ?_
  rintro e w2 ⟨rfl, hb2⟩
  have S2 := Lib.hid (S1.out.later hb2); have B2 := Lib.hid (thenBelow B1.out hb2)
  clear hb2 V1 S1 GD
  have k64 := S2.out.slot
  cases hg : goodB F with
  | false =>
    have hf : C = false := by rw [← HC.out]; exact can_no fun h => by rw [h.good] at hg; cases hg
    subst hf
    go_wp2
    go_ret
    exact ⟨rfl, B2.out⟩
  | true =>
    have HG := Lib.hid hg
    clear hg
    by_cases hL : L.length > 4096
    · have hL' : (L.length : Int) > 4096 := by omega
      have hf : C = false := by rw [← HC.out]; exact can_no fun h => by have := h.len; omega
      subst hf
      go_wp2
      go_ret
      exact ⟨rfl, B2.out⟩
    · have hL' : ¬ (L.length : Int) > 4096 := by omega
      go_wp2
      clear k64
      go_loopw [19] (fun i wr => ∃ k : Nat, k ≤ L.length ∧ i = .int .i64 k ∧ (∀ i (h : i < L.length), i < k → chk (putE L[i]) = 0 ∧ hasB F L[i].rep L[i].n = true) ∧ (∀ i (h : i + 1 < L.length), i + 1 < k → ltW (L[i]'(by omega)) L[i + 1] = true) ∧ Below w2.heap.size w2 wr) (fun i _ => L.length - (RowKit.intOf i).toNat)
      case atStart => exact ⟨0, Nat.zero_le _, rfl, fun i _ h => by omega, fun i _ h => by omega, Below.refl _ _⟩
      case round =>
        obtain ⟨k, hk, rfl, hall, hord, hb⟩ := hrel
        have BB := Lib.hid hb; have HA := Lib.hid hall; have HO := Lib.hid hord
        clear hall hord hb
        by_cases hkl : k < L.length
        · have hkl' : (k : Int) < L.length := by omega
          have BW := Lib.hid (thenBelow B2.out BB.out)
          have HWr := Lib.hid (HW.out.below BW.out)
          obtain ⟨b, o, rfl, hlt, hq⟩ := HWr.out.at hkl
          obtain ⟨y, hy⟩ : ∃ y, L[k] = y := ⟨_, rfl⟩
          rw [hy] at hq
          have YC := Lib.hid hy
          clear hy
          obtain ⟨c0, c1, c2, c3, c4, c5⟩ := wr_cells hq
          clear hq
          obtain ⟨yr, yn, yt, yd, yf, ytx⟩ := y
          simp only at c0 c1 c2 c3 c4 c5
          have ba := below_alloc wr (.cells #[.int .i64 yr, .int .i64 yn, .int .i64 yt, .string yd, .int .i64 yf, .string ytx] 39)
          have na := heap_alloc_new wr (.cells #[.int .i64 yr, .int .i64 yn, .int .i64 yt, .string yd, .int .i64 yf, .string ytx] 39)
          have bb := below_alloc (wr.alloc (.cells #[.int .i64 yr, .int .i64 yn, .int .i64 yt, .string yd, .int .i64 yf, .string ytx] 39)) (.cells #[.int .i64 yr, .int .i64 yn, .int .i64 yt, .int .i64 1, .string yd, .int .i64 yf, .string ytx, .slice none 0 0] 55)
          have nb := heap_alloc_new (wr.alloc (.cells #[.int .i64 yr, .int .i64 yn, .int .i64 yt, .string yd, .int .i64 yf, .string ytx] 39)) (.cells #[.int .i64 yr, .int .i64 yn, .int .i64 yt, .int .i64 1, .string yd, .int .i64 yf, .string ytx, .slice none 0 0] 55)
          have NA4 := (bb.block _ (Array.getElem?_eq_some_iff.1 na).1).trans na
          have NB5 : ((wr.alloc (.cells #[.int .i64 yr, .int .i64 yn, .int .i64 yt, .string yd, .int .i64 yf, .string ytx] 39)).alloc (.cells #[.int .i64 yr, .int .i64 yn, .int .i64 yt, .int .i64 1, .string yd, .int .i64 yf, .string ytx, .slice none 0 0] 55)).heap[wr.heap.size + 1]? = some (.cells #[.int .i64 yr, .int .i64 yn, .int .i64 yt, .int .i64 1, .string yd, .int .i64 yf, .string ytx, .slice none 0 0] 55 (0, 0)) := by simpa [World.size_alloc] using nb
          have bab := thenBelow ba bb
          have R4 : ((wr.alloc (.cells #[.int .i64 yr, .int .i64 yn, .int .i64 yt, .string yd, .int .i64 yf, .string ytx] 39)).alloc (.cells #[.int .i64 yr, .int .i64 yn, .int .i64 yt, .int .i64 1, .string yd, .int .i64 yf, .string ytx, .slice none 0 0] 55)).rangeAt wr.heap.size 0 (Wr.cells ⟨yr, yn, yt, yd, yf, ytx⟩) := range_of_block NA4
          have R5 : ((wr.alloc (.cells #[.int .i64 yr, .int .i64 yn, .int .i64 yt, .string yd, .int .i64 yf, .string ytx] 39)).alloc (.cells #[.int .i64 yr, .int .i64 yn, .int .i64 yt, .int .i64 1, .string yd, .int .i64 yf, .string ytx, .slice none 0 0] 55)).rangeAt (wr.heap.size + 1) 0 (EvP.cells ⟨⟨yr, yn, yt, 1, yd, yf, ytx, []⟩, none, 0⟩) := range_of_block NB5
          have M1 := Lib.hid (And.intro (S2.out.later (to_drew (thenBelow BB.out bab))) (And.intro R4 (And.intro R5 (And.intro (HWr.out.below (to_drew bab)) (to_drew (thenBelow BB.out bab))))))
          clear ba na bb nb NA4 NB5 bab R4 R5
          go_wp2_with fail
          rename_i K2 hK2
          generalize hW : (wr.alloc (.cells #[.int .i64 yr, .int .i64 yn, .int .i64 yt, .string yd, .int .i64 yf, .string ytx] 39)).alloc (.cells #[.int .i64 yr, .int .i64 yn, .int .i64 yt, .int .i64 1, .string yd, .int .i64 yf, .string ytx, .slice none 0 0] 55) = W6 at M1 ⊢
          generalize hG : wr.heap.size + 1 = G5 at M1 ⊢
          generalize hG4 : wr.heap.size = G4 at M1 ⊢
          clear hW c0 c1 c2 c3 c4 c5
          have M0 : Hid (Sx W6.drew g1 F (.slice (some ⟨b, o, none⟩) L.length c) ∧ W6.drew.rangeAt G4 0 (Wr.cells ⟨yr, yn, yt, yd, yf, ytx⟩) ∧ W6.drew.rangeAt G5 0 (EvP.cells ⟨⟨yr, yn, yt, 1, yd, yf, ytx, []⟩, none, 0⟩) ∧ WrsAt W6.drew (some ⟨b, o, none⟩) L ∧ Below w2.heap.size w2 W6.drew) := M1
          have CK : Hid (∀ V : World, Calls Tryz.prog 46 #[.agg #[.int .i64 yr, .int .i64 yn, .int .i64 yt, .int .i64 1, .string yd, .int .i64 yf, .string ytx, .slice none 0 0]] V (Check1 V (chk (putE ⟨yr, yn, yt, yd, yf, ytx⟩)))) := Lib.hid fun V => refCheck_is ⟨⟨yr, yn, yt, 1, yd, yf, ytx, []⟩, none, 0⟩ V ⟨DRow.nil _ _, fun _ => rfl⟩
          have SZD : ∀ z1 z2 : Int, (Tryz.prog.info? 37).map (·.size) = some [Value.int .i64 z1, .int .i64 z2].length := fun z1 z2 => by kernel_rfl
          by_cases hx : chk (putE ⟨yr, yn, yt, yd, yf, ytx⟩) = 0
          · rw [hx] at CK
            have HS := Lib.hid (fun V : World => refHas_is F yr yn V)
            cases hh : hasB F yr yn with
            | false =>
              rw [hh] at HS
              have hf : C = false := by
                rw [← HC.out]
                refine can_no fun h => ?_
                have := (h.fine _ (List.getElem_mem hkl)).2
                rw [YC.out] at this
                simp only at this
                rw [hh] at this; cases this
              subst hf
              refine rg_calm (by kernel_rfl) rfl (S := fun U => Sx U g1 F (.slice (some ⟨b, o, none⟩) L.length c) ∧ U.rangeAt G4 0 (Wr.cells ⟨yr, yn, yt, yd, yf, ytx⟩) ∧ U.rangeAt G5 0 (EvP.cells ⟨⟨yr, yn, yt, 1, yd, yf, ytx, []⟩, none, 0⟩) ∧ WrsAt U (some ⟨b, o, none⟩) L ∧ Below w2.heap.size w2 U) ?_
              have m0 := M0.out
              have keep : ∀ U U' : World, Below U.heap.size U U' → Sx U g1 F (.slice (some ⟨b, o, none⟩) L.length c) ∧ U.rangeAt G4 0 (Wr.cells ⟨yr, yn, yt, yd, yf, ytx⟩) ∧ U.rangeAt G5 0 (EvP.cells ⟨⟨yr, yn, yt, 1, yd, yf, ytx, []⟩, none, 0⟩) ∧ WrsAt U (some ⟨b, o, none⟩) L ∧ Below w2.heap.size w2 U → Sx U' g1 F (.slice (some ⟨b, o, none⟩) L.length c) ∧ U'.rangeAt G4 0 (Wr.cells ⟨yr, yn, yt, yd, yf, ytx⟩) ∧ U'.rangeAt G5 0 (EvP.cells ⟨⟨yr, yn, yt, 1, yd, yf, ytx, []⟩, none, 0⟩) ∧ WrsAt U' (some ⟨b, o, none⟩) L ∧ Below w2.heap.size w2 U' := fun U U' hb h => ⟨h.1.later hb, range_below h.2.1 hb, range_below h.2.2.1 hb, h.2.2.2.1.below hb, thenBelow h.2.2.2.2 hb⟩
              refine rgd_pureS 0 (some 35) rfl rfl (.agg #[.int .i64 yr, .int .i64 yn, .int .i64 yt, .int .i64 1, .string yd, .int .i64 yf, .string ytx, .slice none 0 0]) (by kernel_rfl) (by kernel_rfl) (by kernel_rfl) (fun _ _ _ _ h => h) (by kernel_rfl) (fun U hU => exec_gload 55 _ rfl G5 0 (by kernel_rfl) _ hU.2.2.1 Tryz.underlying55 rfl (sizeEv ⟨⟨yr, yn, yt, 1, yd, yf, ytx, []⟩, none, 0⟩)) m0 ?_
              refine rgd_call 1 (some 36) (by kernel_rfl) rfl rfl (by kernel_rfl) 46 (#[.agg #[.int .i64 yr, .int .i64 yn, .int .i64 yt, .int .i64 1, .string yd, .int .i64 yf, .string ytx, .slice none 0 0]]) (by kernel_rfl) (CK.out _) ?_
              rintro _ U1 ⟨rfl, bU1⟩
              have m1 := keep _ _ bU1 m0
              refine ⟨_, rfl, m1, ?_⟩
              refine rgd_pure 2 (some 37) rfl rfl (.bool false) (by kernel_rfl) (by kernel_rfl) (by kernel_rfl) (fun _ _ _ _ h => h) (by kernel_rfl) (fun w => by kernel_rfl) m1 ?_
              refine rgd_pure 3 (some 38) rfl rfl (.bool false) (by kernel_rfl) (by kernel_rfl) (by kernel_rfl) (fun _ _ _ _ h => h) (by kernel_rfl) (fun w => by kernel_rfl) m1 ?_
              refine rgd_pure 4 (some 39) rfl rfl (.pointer (some ⟨g1, 0, none⟩)) (by kernel_rfl) (by kernel_rfl) (by kernel_rfl) (fun _ _ _ _ h => h) (by kernel_rfl) (fun w => by kernel_rfl) m1 ?_
              refine rgd_pureS 5 (some 40) rfl rfl (.agg (vf F)) (by kernel_rfl) (by kernel_rfl) (by kernel_rfl) (fun _ _ _ _ h => h) (by kernel_rfl) (fun U hU => exec_gload 23 _ rfl g1 0 (by kernel_rfl) _ hU.1.vec Tryz.underlying23 rfl (sizeVcl F)) m1 ?_
              refine rgd_pure 6 (some 41) rfl rfl (.pointer (some ⟨G4, 0, none⟩)) (by kernel_rfl) (by kernel_rfl) (by kernel_rfl) (fun _ _ _ _ h => h) (by kernel_rfl) (fun w => by kernel_rfl) m1 ?_
              refine rgd_pureS 7 (some 42) rfl rfl (.agg #[.int .i64 yr, .int .i64 yn]) (by kernel_rfl) (by kernel_rfl) (by kernel_rfl) (fun _ _ _ _ h => h) (by kernel_rfl) (fun U hU => exec_gload 37 _ rfl G4 0 (by kernel_rfl) _ (wr_dot hU.2.1) Tryz.underlying37 rfl (SZD yr yn)) m1 ?_
              refine rgd_call 8 (some 43) (by kernel_rfl) rfl rfl (by kernel_rfl) 47 (#[.agg (vf F), .agg (dcs yr yn)]) (by kernel_rfl) (HS.out _) ?_
              rintro _ U2 ⟨rfl, bU2⟩
              have m2 := keep _ _ bU2 m1
              refine ⟨_, rfl, m2, ?_⟩
              refine rgd_pure 9 (some 44) rfl rfl (.bool true) (by kernel_rfl) (by kernel_rfl) (by kernel_rfl) (fun _ _ _ _ h => h) (by kernel_rfl) (fun w => by kernel_rfl) m2 ?_
              refine rgd_pure 10 (some 45) rfl rfl (.bool true) (by kernel_rfl) (by kernel_rfl) (by kernel_rfl) (fun _ _ _ _ h => h) (by kernel_rfl) (fun w => by kernel_rfl) m2 ?_
              refine rgd_pure 11 (some 46) rfl rfl (.bool true) (by kernel_rfl) (by kernel_rfl) (by kernel_rfl) (fun _ _ _ _ h => h) (by kernel_rfl) (fun w => by kernel_rfl) m2 ?_
              refine rgd_skip 12 (some 47) rfl rfl (by kernel_rfl) (by kernel_rfl) (by kernel_rfl) (fun _ _ _ _ h => h) (by kernel_rfl) m2 ?_
              refine rgd_skip 13 (some 48) rfl rfl (by kernel_rfl) (by kernel_rfl) (by kernel_rfl) (fun _ _ _ _ h => h) (by kernel_rfl) m2 ?_
              refine rgd_skip 14 (some 49) rfl rfl (by kernel_rfl) (by kernel_rfl) (by kernel_rfl) (fun _ _ _ _ h => h) (by kernel_rfl) m2 ?_
              refine rgd_skip 15 (some 50) rfl rfl (by kernel_rfl) (by kernel_rfl) (by kernel_rfl) (fun _ _ _ _ h => h) (by kernel_rfl) m2 ?_
              refine rgd_skip 16 (some 51) rfl rfl (by kernel_rfl) (by kernel_rfl) (by kernel_rfl) (fun _ _ _ _ h => h) (by kernel_rfl) m2 ?_
              refine rgd_skip 17 (some 52) rfl rfl (by kernel_rfl) (by kernel_rfl) (by kernel_rfl) (fun _ _ _ _ h => h) (by kernel_rfl) m2 ?_
              refine rgd_skip 18 (some 53) rfl rfl (by kernel_rfl) (by kernel_rfl) (by kernel_rfl) (fun _ _ _ _ h => h) (by kernel_rfl) m2 ?_
              refine rgd_skip 19 (some 54) rfl rfl (by kernel_rfl) (by kernel_rfl) (by kernel_rfl) (fun _ _ _ _ h => h) (by kernel_rfl) m2 ?_
              refine rgd_skip 20 (some 55) rfl rfl (by kernel_rfl) (by kernel_rfl) (by kernel_rfl) (fun _ _ _ _ h => h) (by kernel_rfl) m2 ?_
              refine rgd_skip 21 (some 56) rfl rfl (by kernel_rfl) (by kernel_rfl) (by kernel_rfl) (fun _ _ _ _ h => h) (by kernel_rfl) m2 ?_
              refine rgd_skip 22 (some 57) rfl rfl (by kernel_rfl) (by kernel_rfl) (by kernel_rfl) (fun _ _ _ _ h => h) (by kernel_rfl) m2 ?_
              refine rgd_skip 23 (some 58) rfl rfl (by kernel_rfl) (by kernel_rfl) (by kernel_rfl) (fun _ _ _ _ h => h) (by kernel_rfl) m2 ?_
              refine rgd_skip 24 (some 59) rfl rfl (by kernel_rfl) (by kernel_rfl) (by kernel_rfl) (fun _ _ _ _ h => h) (by kernel_rfl) m2 ?_
              refine rgd_pure 25 (some 60) rfl rfl (.bool true) (by kernel_rfl) (by kernel_rfl) (by kernel_rfl) (fun _ _ _ _ h => h) (by kernel_rfl) (fun w => by kernel_rfl) m2 ?_
              have BU := Lib.hid m2.2.2.2.2
              have KE : K2 { tmps := #[.agg (scs F (.slice (some ⟨b, o, none⟩) L.length c)), .pointer (some ⟨g1, 0, none⟩), u2, .int .i64 (k : Int), .pointer (some ⟨G4, 0, none⟩), .pointer (some ⟨G5, 0, none⟩), .pointer (some ⟨g1, 0, none⟩), .agg (vf F), .bool true, .bool false, .bool false, .pointer (some ⟨g1, 64, none⟩), .slice (some ⟨b, o, none⟩) L.length c, .int .i64 (L.length : Int), .bool (decide (4096 < (L.length : Int))), .bool (decide (4096 < (L.length : Int))), .pointer (some ⟨g1, 64, none⟩), .slice (some ⟨b, o, none⟩) L.length c, .int .i64 (L.length : Int), .int .i64 (k : Int), .bool true, .int .i64 (k : Int), .pointer (some ⟨b, o + k * 6, none⟩), .agg #[.int .i64 yr, .int .i64 yn, .int .i64 yt, .string yd, .int .i64 yf, .string ytx], .pointer (some ⟨G4, 0, none⟩), .agg #[.int .i64 yr, .int .i64 yn], .pointer (some ⟨G4, 2, none⟩), .int .i64 yt, .pointer (some ⟨G4, 3, none⟩), .string yd, .pointer (some ⟨G4, 4, none⟩), .int .i64 yf, .pointer (some ⟨G4, 5, none⟩), .string ytx, .agg #[.int .i64 yr, .int .i64 yn, .int .i64 yt, .int .i64 1, .string yd, .int .i64 yf, .string ytx, .slice none 0 0], .agg #[.int .i64 yr, .int .i64 yn, .int .i64 yt, .int .i64 1, .string yd, .int .i64 yf, .string ytx, .slice none 0 0], .int .i64 0, .bool false, .bool false, .pointer (some ⟨g1, 0, none⟩), .agg (vf F), .pointer (some ⟨G4, 0, none⟩), .agg #[.int .i64 yr, .int .i64 yn], .bool false, .bool true, .bool true, .bool true, undef, undef, undef, undef, undef, undef, undef, undef, undef, undef, undef, undef, undef, .bool true, u61], defers := [] } U2 := by
                refine hK2 _ _ ?_
                clear hK2 keep m0 m1 m2
                go_wp2
                go_ret
                exact ⟨rfl, thenBelow B2.out BU.out⟩
              exact wpAnyH_done (by kernel_rfl) (Eq.mp (by kernel_rfl) KE) _
            | true =>
              rw [hh] at HS
              have NA : Hid (∀ i (h : i < L.length), i < k + 1 → chk (putE L[i]) = 0 ∧ hasB F L[i].rep L[i].n = true) := Lib.hid fun i h hi => by
                rcases Nat.lt_or_ge i k with h3 | h3
                · exact HA.out i h h3
                · obtain rfl : i = k := by omega
                  rw [YC.out]; exact ⟨hx, hh⟩
              clear hx hh
              by_cases hk0 : k = 0
              · have GK : Hid (decide ((k : Int) > 0) = false) := Lib.hid (decide_eq_false (by omega))
                have NO : Hid (∀ i (h : i + 1 < L.length), i + 1 < k + 1 → ltW (L[i]'(by omega)) L[i + 1] = true) := Lib.hid fun i h hi => by omega
                refine rg_calm (by kernel_rfl) rfl (S := fun U => Sx U g1 F (.slice (some ⟨b, o, none⟩) L.length c) ∧ U.rangeAt G4 0 (Wr.cells ⟨yr, yn, yt, yd, yf, ytx⟩) ∧ U.rangeAt G5 0 (EvP.cells ⟨⟨yr, yn, yt, 1, yd, yf, ytx, []⟩, none, 0⟩) ∧ WrsAt U (some ⟨b, o, none⟩) L ∧ Below w2.heap.size w2 U) ?_
                have m0 := M0.out
                have keep : ∀ U U' : World, Below U.heap.size U U' → Sx U g1 F (.slice (some ⟨b, o, none⟩) L.length c) ∧ U.rangeAt G4 0 (Wr.cells ⟨yr, yn, yt, yd, yf, ytx⟩) ∧ U.rangeAt G5 0 (EvP.cells ⟨⟨yr, yn, yt, 1, yd, yf, ytx, []⟩, none, 0⟩) ∧ WrsAt U (some ⟨b, o, none⟩) L ∧ Below w2.heap.size w2 U → Sx U' g1 F (.slice (some ⟨b, o, none⟩) L.length c) ∧ U'.rangeAt G4 0 (Wr.cells ⟨yr, yn, yt, yd, yf, ytx⟩) ∧ U'.rangeAt G5 0 (EvP.cells ⟨⟨yr, yn, yt, 1, yd, yf, ytx, []⟩, none, 0⟩) ∧ WrsAt U' (some ⟨b, o, none⟩) L ∧ Below w2.heap.size w2 U' := fun U U' hb h => ⟨h.1.later hb, range_below h.2.1 hb, range_below h.2.2.1 hb, h.2.2.2.1.below hb, thenBelow h.2.2.2.2 hb⟩
                refine rgd_pureS 0 (some 35) rfl rfl (.agg #[.int .i64 yr, .int .i64 yn, .int .i64 yt, .int .i64 1, .string yd, .int .i64 yf, .string ytx, .slice none 0 0]) (by kernel_rfl) (by kernel_rfl) (by kernel_rfl) (fun _ _ _ _ h => h) (by kernel_rfl) (fun U hU => exec_gload 55 _ rfl G5 0 (by kernel_rfl) _ hU.2.2.1 Tryz.underlying55 rfl (sizeEv ⟨⟨yr, yn, yt, 1, yd, yf, ytx, []⟩, none, 0⟩)) m0 ?_
                refine rgd_call 1 (some 36) (by kernel_rfl) rfl rfl (by kernel_rfl) 46 (#[.agg #[.int .i64 yr, .int .i64 yn, .int .i64 yt, .int .i64 1, .string yd, .int .i64 yf, .string ytx, .slice none 0 0]]) (by kernel_rfl) (CK.out _) ?_
                rintro _ U1 ⟨rfl, bU1⟩
                have m1 := keep _ _ bU1 m0
                refine ⟨_, rfl, m1, ?_⟩
                refine rgd_pure 2 (some 37) rfl rfl (.bool false) (by kernel_rfl) (by kernel_rfl) (by kernel_rfl) (fun _ _ _ _ h => h) (by kernel_rfl) (fun w => by kernel_rfl) m1 ?_
                refine rgd_pure 3 (some 38) rfl rfl (.bool false) (by kernel_rfl) (by kernel_rfl) (by kernel_rfl) (fun _ _ _ _ h => h) (by kernel_rfl) (fun w => by kernel_rfl) m1 ?_
                refine rgd_pure 4 (some 39) rfl rfl (.pointer (some ⟨g1, 0, none⟩)) (by kernel_rfl) (by kernel_rfl) (by kernel_rfl) (fun _ _ _ _ h => h) (by kernel_rfl) (fun w => by kernel_rfl) m1 ?_
                refine rgd_pureS 5 (some 40) rfl rfl (.agg (vf F)) (by kernel_rfl) (by kernel_rfl) (by kernel_rfl) (fun _ _ _ _ h => h) (by kernel_rfl) (fun U hU => exec_gload 23 _ rfl g1 0 (by kernel_rfl) _ hU.1.vec Tryz.underlying23 rfl (sizeVcl F)) m1 ?_
                refine rgd_pure 6 (some 41) rfl rfl (.pointer (some ⟨G4, 0, none⟩)) (by kernel_rfl) (by kernel_rfl) (by kernel_rfl) (fun _ _ _ _ h => h) (by kernel_rfl) (fun w => by kernel_rfl) m1 ?_
                refine rgd_pureS 7 (some 42) rfl rfl (.agg #[.int .i64 yr, .int .i64 yn]) (by kernel_rfl) (by kernel_rfl) (by kernel_rfl) (fun _ _ _ _ h => h) (by kernel_rfl) (fun U hU => exec_gload 37 _ rfl G4 0 (by kernel_rfl) _ (wr_dot hU.2.1) Tryz.underlying37 rfl (SZD yr yn)) m1 ?_
                refine rgd_call 8 (some 43) (by kernel_rfl) rfl rfl (by kernel_rfl) 47 (#[.agg (vf F), .agg (dcs yr yn)]) (by kernel_rfl) (HS.out _) ?_
                rintro _ U2 ⟨rfl, bU2⟩
                have m2 := keep _ _ bU2 m1
                refine ⟨_, rfl, m2, ?_⟩
                refine rgd_pure 9 (some 44) rfl rfl (.bool false) (by kernel_rfl) (by kernel_rfl) (by kernel_rfl) (fun _ _ _ _ h => h) (by kernel_rfl) (fun w => by kernel_rfl) m2 ?_
                refine rgd_pure 10 (some 45) rfl rfl (.bool false) (by kernel_rfl) (by kernel_rfl) (by kernel_rfl) (fun _ _ _ _ h => h) (by kernel_rfl) (fun w => by kernel_rfl) m2 ?_
                refine rgd_pure 11 (some 46) rfl rfl (.bool false) (by kernel_rfl) (by kernel_rfl) (by kernel_rfl) (fun _ _ _ _ h => h) (by kernel_rfl) (fun w => by kernel_rfl) m2 ?_
                refine rgd_pure 12 (some 47) rfl rfl (.int .i64 (k : Int)) (by kernel_rfl) (by kernel_rfl) (by kernel_rfl) (fun _ _ _ _ h => h) (by kernel_rfl) (fun w => by kernel_rfl) m2 ?_
                refine rgd_pure 13 (some 48) rfl rfl (.bool false) (by kernel_rfl) (by kernel_rfl) (by kernel_rfl) (fun _ _ _ _ h => h) (by kernel_rfl) (exec_gtrB _ _ _ _ rfl (k : Int) 0 false GK.out (by kernel_rfl) (by kernel_rfl)) m2 ?_
                refine rgd_pure 14 (some 49) rfl rfl (.bool false) (by kernel_rfl) (by kernel_rfl) (by kernel_rfl) (fun _ _ _ _ h => h) (by kernel_rfl) (fun w => by kernel_rfl) m2 ?_
                refine rgd_skip 15 (some 50) rfl rfl (by kernel_rfl) (by kernel_rfl) (by kernel_rfl) (fun _ _ _ _ h => h) (by kernel_rfl) m2 ?_
                refine rgd_skip 16 (some 51) rfl rfl (by kernel_rfl) (by kernel_rfl) (by kernel_rfl) (fun _ _ _ _ h => h) (by kernel_rfl) m2 ?_
                refine rgd_skip 17 (some 52) rfl rfl (by kernel_rfl) (by kernel_rfl) (by kernel_rfl) (fun _ _ _ _ h => h) (by kernel_rfl) m2 ?_
                refine rgd_skip 18 (some 53) rfl rfl (by kernel_rfl) (by kernel_rfl) (by kernel_rfl) (fun _ _ _ _ h => h) (by kernel_rfl) m2 ?_
                refine rgd_skip 19 (some 54) rfl rfl (by kernel_rfl) (by kernel_rfl) (by kernel_rfl) (fun _ _ _ _ h => h) (by kernel_rfl) m2 ?_
                refine rgd_skip 20 (some 55) rfl rfl (by kernel_rfl) (by kernel_rfl) (by kernel_rfl) (fun _ _ _ _ h => h) (by kernel_rfl) m2 ?_
                refine rgd_skip 21 (some 56) rfl rfl (by kernel_rfl) (by kernel_rfl) (by kernel_rfl) (fun _ _ _ _ h => h) (by kernel_rfl) m2 ?_
                refine rgd_skip 22 (some 57) rfl rfl (by kernel_rfl) (by kernel_rfl) (by kernel_rfl) (fun _ _ _ _ h => h) (by kernel_rfl) m2 ?_
                refine rgd_skip 23 (some 58) rfl rfl (by kernel_rfl) (by kernel_rfl) (by kernel_rfl) (fun _ _ _ _ h => h) (by kernel_rfl) m2 ?_
                refine rgd_pure 24 (some 59) rfl rfl (.bool false) (by kernel_rfl) (by kernel_rfl) (by kernel_rfl) (fun _ _ _ _ h => h) (by kernel_rfl) (fun w => by kernel_rfl) m2 ?_
                refine rgd_pure 25 (some 60) rfl rfl (.bool false) (by kernel_rfl) (by kernel_rfl) (by kernel_rfl) (fun _ _ _ _ h => h) (by kernel_rfl) (fun w => by kernel_rfl) m2 ?_
                have BU := Lib.hid m2.2.2.2.2
                have KE : K2 { tmps := #[.agg (scs F (.slice (some ⟨b, o, none⟩) L.length c)), .pointer (some ⟨g1, 0, none⟩), u2, .int .i64 (k : Int), .pointer (some ⟨G4, 0, none⟩), .pointer (some ⟨G5, 0, none⟩), .pointer (some ⟨g1, 0, none⟩), .agg (vf F), .bool true, .bool false, .bool false, .pointer (some ⟨g1, 64, none⟩), .slice (some ⟨b, o, none⟩) L.length c, .int .i64 (L.length : Int), .bool (decide (4096 < (L.length : Int))), .bool (decide (4096 < (L.length : Int))), .pointer (some ⟨g1, 64, none⟩), .slice (some ⟨b, o, none⟩) L.length c, .int .i64 (L.length : Int), .int .i64 (k : Int), .bool true, .int .i64 (k : Int), .pointer (some ⟨b, o + k * 6, none⟩), .agg #[.int .i64 yr, .int .i64 yn, .int .i64 yt, .string yd, .int .i64 yf, .string ytx], .pointer (some ⟨G4, 0, none⟩), .agg #[.int .i64 yr, .int .i64 yn], .pointer (some ⟨G4, 2, none⟩), .int .i64 yt, .pointer (some ⟨G4, 3, none⟩), .string yd, .pointer (some ⟨G4, 4, none⟩), .int .i64 yf, .pointer (some ⟨G4, 5, none⟩), .string ytx, .agg #[.int .i64 yr, .int .i64 yn, .int .i64 yt, .int .i64 1, .string yd, .int .i64 yf, .string ytx, .slice none 0 0], .agg #[.int .i64 yr, .int .i64 yn, .int .i64 yt, .int .i64 1, .string yd, .int .i64 yf, .string ytx, .slice none 0 0], .int .i64 0, .bool false, .bool false, .pointer (some ⟨g1, 0, none⟩), .agg (vf F), .pointer (some ⟨G4, 0, none⟩), .agg #[.int .i64 yr, .int .i64 yn], .bool true, .bool false, .bool false, .bool false, .int .i64 (k : Int), .bool false, .bool false, undef, undef, undef, undef, undef, undef, undef, undef, undef, .bool false, .bool false, u61], defers := [] } U2 := by
                  refine hK2 _ _ ?_
                  clear hK2 keep m0 m1 m2
                  go_wp2
                  go_roundw
                  case rel => exact ⟨k + 1, by omega, by go_num, NA.out, NO.out, BU.out⟩
                  case measure => simp [RowKit.intOf]; omega
                exact wpAnyH_done (by kernel_rfl) (Eq.mp (by kernel_rfl) KE) _
              · have GK : Hid (decide ((k : Int) > 0) = true) := Lib.hid (decide_eq_true (by omega))
                obtain ⟨j, hj⟩ : ∃ j : Nat, (k : Int) - 1 = j := ⟨k - 1, by omega⟩
                have SB : Hid (IntKind.i64.wrap ((k : Int) - 1) = (j : Int)) := Lib.hid (by rw [IntWalk.i64_in _ (by omega)]; omega)
                have hkj : k = j + 1 := by omega
                have hjl : j < L.length := by omega
                obtain ⟨z, hz⟩ : ∃ z, L[j] = z := ⟨_, rfl⟩
                have ZC := Lib.hid hz
                have ZR : Hid (∀ V : World, WrsAt V (some ⟨b, o, none⟩) L → V.rangeAt b (o + j * 6) z.cells) := Lib.hid fun V hV => by
                  obtain ⟨b9, o9, e9, _, h9⟩ := hV.at hjl
                  injection e9 with e9
                  injection e9 with e1 e2
                  subst e1 e2
                  rw [← hz]; exact h9
                clear hz
                have AH : Hid (∀ U, Calls Tryz.prog 48 #[.agg z.cells.toArray, .agg #[.int .i64 yr, .int .i64 yn, .int .i64 yt, .string yd, .int .i64 yf, .string ytx]] U fun e w' => e = .returned (.bool (ltW z ⟨yr, yn, yt, yd, yf, ytx⟩)) ∧ Below U.heap.size U w') := Lib.hid fun U => refAhead_is z ⟨yr, yn, yt, yd, yf, ytx⟩ U
                cases ha : ltW z ⟨yr, yn, yt, yd, yf, ytx⟩ with
                | false =>
                  rw [ha] at AH
                  have hf : C = false := by
                    rw [← HC.out]
                    refine can_no fun h => ?_
                    have := adj_ord h.ord j (by omega)
                    subst hkj
                    rw [ZC.out, YC.out, ha] at this; cases this
                  subst hf
                  refine rg_calm (by kernel_rfl) rfl (S := fun U => Sx U g1 F (.slice (some ⟨b, o, none⟩) L.length c) ∧ U.rangeAt G4 0 (Wr.cells ⟨yr, yn, yt, yd, yf, ytx⟩) ∧ U.rangeAt G5 0 (EvP.cells ⟨⟨yr, yn, yt, 1, yd, yf, ytx, []⟩, none, 0⟩) ∧ WrsAt U (some ⟨b, o, none⟩) L ∧ Below w2.heap.size w2 U) ?_
                  have m0 := M0.out
                  have keep : ∀ U U' : World, Below U.heap.size U U' → Sx U g1 F (.slice (some ⟨b, o, none⟩) L.length c) ∧ U.rangeAt G4 0 (Wr.cells ⟨yr, yn, yt, yd, yf, ytx⟩) ∧ U.rangeAt G5 0 (EvP.cells ⟨⟨yr, yn, yt, 1, yd, yf, ytx, []⟩, none, 0⟩) ∧ WrsAt U (some ⟨b, o, none⟩) L ∧ Below w2.heap.size w2 U → Sx U' g1 F (.slice (some ⟨b, o, none⟩) L.length c) ∧ U'.rangeAt G4 0 (Wr.cells ⟨yr, yn, yt, yd, yf, ytx⟩) ∧ U'.rangeAt G5 0 (EvP.cells ⟨⟨yr, yn, yt, 1, yd, yf, ytx, []⟩, none, 0⟩) ∧ WrsAt U' (some ⟨b, o, none⟩) L ∧ Below w2.heap.size w2 U' := fun U U' hb h => ⟨h.1.later hb, range_below h.2.1 hb, range_below h.2.2.1 hb, h.2.2.2.1.below hb, thenBelow h.2.2.2.2 hb⟩
                  refine rgd_pureS 0 (some 35) rfl rfl (.agg #[.int .i64 yr, .int .i64 yn, .int .i64 yt, .int .i64 1, .string yd, .int .i64 yf, .string ytx, .slice none 0 0]) (by kernel_rfl) (by kernel_rfl) (by kernel_rfl) (fun _ _ _ _ h => h) (by kernel_rfl) (fun U hU => exec_gload 55 _ rfl G5 0 (by kernel_rfl) _ hU.2.2.1 Tryz.underlying55 rfl (sizeEv ⟨⟨yr, yn, yt, 1, yd, yf, ytx, []⟩, none, 0⟩)) m0 ?_
                  refine rgd_call 1 (some 36) (by kernel_rfl) rfl rfl (by kernel_rfl) 46 (#[.agg #[.int .i64 yr, .int .i64 yn, .int .i64 yt, .int .i64 1, .string yd, .int .i64 yf, .string ytx, .slice none 0 0]]) (by kernel_rfl) (CK.out _) ?_
                  rintro _ U1 ⟨rfl, bU1⟩
                  have m1 := keep _ _ bU1 m0
                  refine ⟨_, rfl, m1, ?_⟩
                  refine rgd_pure 2 (some 37) rfl rfl (.bool false) (by kernel_rfl) (by kernel_rfl) (by kernel_rfl) (fun _ _ _ _ h => h) (by kernel_rfl) (fun w => by kernel_rfl) m1 ?_
                  refine rgd_pure 3 (some 38) rfl rfl (.bool false) (by kernel_rfl) (by kernel_rfl) (by kernel_rfl) (fun _ _ _ _ h => h) (by kernel_rfl) (fun w => by kernel_rfl) m1 ?_
                  refine rgd_pure 4 (some 39) rfl rfl (.pointer (some ⟨g1, 0, none⟩)) (by kernel_rfl) (by kernel_rfl) (by kernel_rfl) (fun _ _ _ _ h => h) (by kernel_rfl) (fun w => by kernel_rfl) m1 ?_
                  refine rgd_pureS 5 (some 40) rfl rfl (.agg (vf F)) (by kernel_rfl) (by kernel_rfl) (by kernel_rfl) (fun _ _ _ _ h => h) (by kernel_rfl) (fun U hU => exec_gload 23 _ rfl g1 0 (by kernel_rfl) _ hU.1.vec Tryz.underlying23 rfl (sizeVcl F)) m1 ?_
                  refine rgd_pure 6 (some 41) rfl rfl (.pointer (some ⟨G4, 0, none⟩)) (by kernel_rfl) (by kernel_rfl) (by kernel_rfl) (fun _ _ _ _ h => h) (by kernel_rfl) (fun w => by kernel_rfl) m1 ?_
                  refine rgd_pureS 7 (some 42) rfl rfl (.agg #[.int .i64 yr, .int .i64 yn]) (by kernel_rfl) (by kernel_rfl) (by kernel_rfl) (fun _ _ _ _ h => h) (by kernel_rfl) (fun U hU => exec_gload 37 _ rfl G4 0 (by kernel_rfl) _ (wr_dot hU.2.1) Tryz.underlying37 rfl (SZD yr yn)) m1 ?_
                  refine rgd_call 8 (some 43) (by kernel_rfl) rfl rfl (by kernel_rfl) 47 (#[.agg (vf F), .agg (dcs yr yn)]) (by kernel_rfl) (HS.out _) ?_
                  rintro _ U2 ⟨rfl, bU2⟩
                  have m2 := keep _ _ bU2 m1
                  refine ⟨_, rfl, m2, ?_⟩
                  refine rgd_pure 9 (some 44) rfl rfl (.bool false) (by kernel_rfl) (by kernel_rfl) (by kernel_rfl) (fun _ _ _ _ h => h) (by kernel_rfl) (fun w => by kernel_rfl) m2 ?_
                  refine rgd_pure 10 (some 45) rfl rfl (.bool false) (by kernel_rfl) (by kernel_rfl) (by kernel_rfl) (fun _ _ _ _ h => h) (by kernel_rfl) (fun w => by kernel_rfl) m2 ?_
                  refine rgd_pure 11 (some 46) rfl rfl (.bool false) (by kernel_rfl) (by kernel_rfl) (by kernel_rfl) (fun _ _ _ _ h => h) (by kernel_rfl) (fun w => by kernel_rfl) m2 ?_
                  refine rgd_pure 12 (some 47) rfl rfl (.int .i64 (k : Int)) (by kernel_rfl) (by kernel_rfl) (by kernel_rfl) (fun _ _ _ _ h => h) (by kernel_rfl) (fun w => by kernel_rfl) m2 ?_
                  refine rgd_pure 13 (some 48) rfl rfl (.bool true) (by kernel_rfl) (by kernel_rfl) (by kernel_rfl) (fun _ _ _ _ h => h) (by kernel_rfl) (exec_gtrB _ _ _ _ rfl (k : Int) 0 true GK.out (by kernel_rfl) (by kernel_rfl)) m2 ?_
                  refine rgd_pure 14 (some 49) rfl rfl (.bool true) (by kernel_rfl) (by kernel_rfl) (by kernel_rfl) (fun _ _ _ _ h => h) (by kernel_rfl) (fun w => by kernel_rfl) m2 ?_
                  refine rgd_pure 15 (some 50) rfl rfl (.pointer (some ⟨g1, 64, none⟩)) (by kernel_rfl) (by kernel_rfl) (by kernel_rfl) (fun _ _ _ _ h => h) (by kernel_rfl) (fun w => by kernel_rfl) m2 ?_
                  refine rgd_pureS 16 (some 51) rfl rfl (.slice (some ⟨b, o, none⟩) L.length c) (by kernel_rfl) (by kernel_rfl) (by kernel_rfl) (fun _ _ _ _ h => h) (by kernel_rfl) (fun U hU => exec_load1 _ _ rfl Tryz.underlying24 rfl ⟨g1, 64, none⟩ _ (by kernel_rfl) hU.1.slot) m2 ?_
                  refine rgd_pure 17 (some 52) rfl rfl (.int .i64 (k : Int)) (by kernel_rfl) (by kernel_rfl) (by kernel_rfl) (fun _ _ _ _ h => h) (by kernel_rfl) (fun w => by kernel_rfl) m2 ?_
                  refine rgd_pure 18 (some 53) rfl rfl (.int .i64 (j : Int)) (by kernel_rfl) (by kernel_rfl) (by kernel_rfl) (fun _ _ _ _ h => h) (by kernel_rfl) (exec_subI _ _ _ _ rfl (k : Int) 1 (j : Int) SB.out (by kernel_rfl) (by kernel_rfl)) m2 ?_
                  refine rgd_pure 19 (some 54) rfl rfl (.pointer (some ⟨b, o + j * 6, none⟩)) (by kernel_rfl) (by kernel_rfl) (by kernel_rfl) (fun _ _ _ _ h => h) (by kernel_rfl) (exec_idxW _ _ rfl b o L.length c j (by kernel_rfl) (by kernel_rfl) hjl) m2 ?_
                  refine rgd_pureS 20 (some 55) rfl rfl (.agg z.cells.toArray) (by kernel_rfl) (by kernel_rfl) (by kernel_rfl) (fun _ _ _ _ h => h) (by kernel_rfl) (fun U hU => exec_gload 39 _ rfl b (o + j * 6) (by kernel_rfl) _ (ZR.out U hU.2.2.2.1) Tryz.underlying39 rfl (sizeWr z)) m2 ?_
                  refine rgd_pureS 21 (some 56) rfl rfl (.agg #[.int .i64 yr, .int .i64 yn, .int .i64 yt, .string yd, .int .i64 yf, .string ytx]) (by kernel_rfl) (by kernel_rfl) (by kernel_rfl) (fun _ _ _ _ h => h) (by kernel_rfl) (fun U hU => exec_gload 39 _ rfl G4 0 (by kernel_rfl) _ hU.2.1 Tryz.underlying39 rfl (sizeWr ⟨yr, yn, yt, yd, yf, ytx⟩)) m2 ?_
                  refine rgd_call 22 (some 57) (by kernel_rfl) rfl rfl (by kernel_rfl) 48 (#[.agg z.cells.toArray, .agg #[.int .i64 yr, .int .i64 yn, .int .i64 yt, .string yd, .int .i64 yf, .string ytx]]) (by kernel_rfl) (AH.out _) ?_
                  rintro _ U3 ⟨rfl, bU3⟩
                  have m3 := keep _ _ bU3 m2
                  refine ⟨_, rfl, m3, ?_⟩
                  refine rgd_pure 23 (some 58) rfl rfl (.bool true) (by kernel_rfl) (by kernel_rfl) (by kernel_rfl) (fun _ _ _ _ h => h) (by kernel_rfl) (fun w => by kernel_rfl) m3 ?_
                  refine rgd_pure 24 (some 59) rfl rfl (.bool true) (by kernel_rfl) (by kernel_rfl) (by kernel_rfl) (fun _ _ _ _ h => h) (by kernel_rfl) (fun w => by kernel_rfl) m3 ?_
                  refine rgd_pure 25 (some 60) rfl rfl (.bool true) (by kernel_rfl) (by kernel_rfl) (by kernel_rfl) (fun _ _ _ _ h => h) (by kernel_rfl) (fun w => by kernel_rfl) m3 ?_
                  have BU := Lib.hid m3.2.2.2.2
                  have KE : K2 { tmps := #[.agg (scs F (.slice (some ⟨b, o, none⟩) L.length c)), .pointer (some ⟨g1, 0, none⟩), u2, .int .i64 (k : Int), .pointer (some ⟨G4, 0, none⟩), .pointer (some ⟨G5, 0, none⟩), .pointer (some ⟨g1, 0, none⟩), .agg (vf F), .bool true, .bool false, .bool false, .pointer (some ⟨g1, 64, none⟩), .slice (some ⟨b, o, none⟩) L.length c, .int .i64 (L.length : Int), .bool (decide (4096 < (L.length : Int))), .bool (decide (4096 < (L.length : Int))), .pointer (some ⟨g1, 64, none⟩), .slice (some ⟨b, o, none⟩) L.length c, .int .i64 (L.length : Int), .int .i64 (k : Int), .bool true, .int .i64 (k : Int), .pointer (some ⟨b, o + k * 6, none⟩), .agg #[.int .i64 yr, .int .i64 yn, .int .i64 yt, .string yd, .int .i64 yf, .string ytx], .pointer (some ⟨G4, 0, none⟩), .agg #[.int .i64 yr, .int .i64 yn], .pointer (some ⟨G4, 2, none⟩), .int .i64 yt, .pointer (some ⟨G4, 3, none⟩), .string yd, .pointer (some ⟨G4, 4, none⟩), .int .i64 yf, .pointer (some ⟨G4, 5, none⟩), .string ytx, .agg #[.int .i64 yr, .int .i64 yn, .int .i64 yt, .int .i64 1, .string yd, .int .i64 yf, .string ytx, .slice none 0 0], .agg #[.int .i64 yr, .int .i64 yn, .int .i64 yt, .int .i64 1, .string yd, .int .i64 yf, .string ytx, .slice none 0 0], .int .i64 0, .bool false, .bool false, .pointer (some ⟨g1, 0, none⟩), .agg (vf F), .pointer (some ⟨G4, 0, none⟩), .agg #[.int .i64 yr, .int .i64 yn], .bool true, .bool false, .bool false, .bool false, .int .i64 (k : Int), .bool true, .bool true, .pointer (some ⟨g1, 64, none⟩), .slice (some ⟨b, o, none⟩) L.length c, .int .i64 (k : Int), .int .i64 (j : Int), .pointer (some ⟨b, o + j * 6, none⟩), .agg z.cells.toArray, .agg #[.int .i64 yr, .int .i64 yn, .int .i64 yt, .string yd, .int .i64 yf, .string ytx], .bool false, .bool true, .bool true, .bool true, u61], defers := [] } U3 := by
                    refine hK2 _ _ ?_
                    clear hK2 keep m0 m1 m2 m3
                    go_wp2
                    go_ret
                    exact ⟨rfl, thenBelow B2.out BU.out⟩
                  exact wpAnyH_done (by kernel_rfl) (Eq.mp (by kernel_rfl) KE) _
                | true =>
                  rw [ha] at AH
                  have NO : Hid (∀ i (h : i + 1 < L.length), i + 1 < k + 1 → ltW (L[i]'(by omega)) L[i + 1] = true) := Lib.hid fun i h hi => by
                    rcases Nat.lt_or_ge (i + 1) k with h3 | h3
                    · exact HO.out i h h3
                    · subst hkj
                      obtain rfl : i = j := by omega
                      rw [ZC.out, YC.out]; exact ha
                  clear ha
                  refine rg_calm (by kernel_rfl) rfl (S := fun U => Sx U g1 F (.slice (some ⟨b, o, none⟩) L.length c) ∧ U.rangeAt G4 0 (Wr.cells ⟨yr, yn, yt, yd, yf, ytx⟩) ∧ U.rangeAt G5 0 (EvP.cells ⟨⟨yr, yn, yt, 1, yd, yf, ytx, []⟩, none, 0⟩) ∧ WrsAt U (some ⟨b, o, none⟩) L ∧ Below w2.heap.size w2 U) ?_
                  have m0 := M0.out
                  have keep : ∀ U U' : World, Below U.heap.size U U' → Sx U g1 F (.slice (some ⟨b, o, none⟩) L.length c) ∧ U.rangeAt G4 0 (Wr.cells ⟨yr, yn, yt, yd, yf, ytx⟩) ∧ U.rangeAt G5 0 (EvP.cells ⟨⟨yr, yn, yt, 1, yd, yf, ytx, []⟩, none, 0⟩) ∧ WrsAt U (some ⟨b, o, none⟩) L ∧ Below w2.heap.size w2 U → Sx U' g1 F (.slice (some ⟨b, o, none⟩) L.length c) ∧ U'.rangeAt G4 0 (Wr.cells ⟨yr, yn, yt, yd, yf, ytx⟩) ∧ U'.rangeAt G5 0 (EvP.cells ⟨⟨yr, yn, yt, 1, yd, yf, ytx, []⟩, none, 0⟩) ∧ WrsAt U' (some ⟨b, o, none⟩) L ∧ Below w2.heap.size w2 U' := fun U U' hb h => ⟨h.1.later hb, range_below h.2.1 hb, range_below h.2.2.1 hb, h.2.2.2.1.below hb, thenBelow h.2.2.2.2 hb⟩
                  refine rgd_pureS 0 (some 35) rfl rfl (.agg #[.int .i64 yr, .int .i64 yn, .int .i64 yt, .int .i64 1, .string yd, .int .i64 yf, .string ytx, .slice none 0 0]) (by kernel_rfl) (by kernel_rfl) (by kernel_rfl) (fun _ _ _ _ h => h) (by kernel_rfl) (fun U hU => exec_gload 55 _ rfl G5 0 (by kernel_rfl) _ hU.2.2.1 Tryz.underlying55 rfl (sizeEv ⟨⟨yr, yn, yt, 1, yd, yf, ytx, []⟩, none, 0⟩)) m0 ?_
                  refine rgd_call 1 (some 36) (by kernel_rfl) rfl rfl (by kernel_rfl) 46 (#[.agg #[.int .i64 yr, .int .i64 yn, .int .i64 yt, .int .i64 1, .string yd, .int .i64 yf, .string ytx, .slice none 0 0]]) (by kernel_rfl) (CK.out _) ?_
                  rintro _ U1 ⟨rfl, bU1⟩
                  have m1 := keep _ _ bU1 m0
                  refine ⟨_, rfl, m1, ?_⟩
                  refine rgd_pure 2 (some 37) rfl rfl (.bool false) (by kernel_rfl) (by kernel_rfl) (by kernel_rfl) (fun _ _ _ _ h => h) (by kernel_rfl) (fun w => by kernel_rfl) m1 ?_
                  refine rgd_pure 3 (some 38) rfl rfl (.bool false) (by kernel_rfl) (by kernel_rfl) (by kernel_rfl) (fun _ _ _ _ h => h) (by kernel_rfl) (fun w => by kernel_rfl) m1 ?_
                  refine rgd_pure 4 (some 39) rfl rfl (.pointer (some ⟨g1, 0, none⟩)) (by kernel_rfl) (by kernel_rfl) (by kernel_rfl) (fun _ _ _ _ h => h) (by kernel_rfl) (fun w => by kernel_rfl) m1 ?_
                  refine rgd_pureS 5 (some 40) rfl rfl (.agg (vf F)) (by kernel_rfl) (by kernel_rfl) (by kernel_rfl) (fun _ _ _ _ h => h) (by kernel_rfl) (fun U hU => exec_gload 23 _ rfl g1 0 (by kernel_rfl) _ hU.1.vec Tryz.underlying23 rfl (sizeVcl F)) m1 ?_
                  refine rgd_pure 6 (some 41) rfl rfl (.pointer (some ⟨G4, 0, none⟩)) (by kernel_rfl) (by kernel_rfl) (by kernel_rfl) (fun _ _ _ _ h => h) (by kernel_rfl) (fun w => by kernel_rfl) m1 ?_
                  refine rgd_pureS 7 (some 42) rfl rfl (.agg #[.int .i64 yr, .int .i64 yn]) (by kernel_rfl) (by kernel_rfl) (by kernel_rfl) (fun _ _ _ _ h => h) (by kernel_rfl) (fun U hU => exec_gload 37 _ rfl G4 0 (by kernel_rfl) _ (wr_dot hU.2.1) Tryz.underlying37 rfl (SZD yr yn)) m1 ?_
                  refine rgd_call 8 (some 43) (by kernel_rfl) rfl rfl (by kernel_rfl) 47 (#[.agg (vf F), .agg (dcs yr yn)]) (by kernel_rfl) (HS.out _) ?_
                  rintro _ U2 ⟨rfl, bU2⟩
                  have m2 := keep _ _ bU2 m1
                  refine ⟨_, rfl, m2, ?_⟩
                  refine rgd_pure 9 (some 44) rfl rfl (.bool false) (by kernel_rfl) (by kernel_rfl) (by kernel_rfl) (fun _ _ _ _ h => h) (by kernel_rfl) (fun w => by kernel_rfl) m2 ?_
                  refine rgd_pure 10 (some 45) rfl rfl (.bool false) (by kernel_rfl) (by kernel_rfl) (by kernel_rfl) (fun _ _ _ _ h => h) (by kernel_rfl) (fun w => by kernel_rfl) m2 ?_
                  refine rgd_pure 11 (some 46) rfl rfl (.bool false) (by kernel_rfl) (by kernel_rfl) (by kernel_rfl) (fun _ _ _ _ h => h) (by kernel_rfl) (fun w => by kernel_rfl) m2 ?_
                  refine rgd_pure 12 (some 47) rfl rfl (.int .i64 (k : Int)) (by kernel_rfl) (by kernel_rfl) (by kernel_rfl) (fun _ _ _ _ h => h) (by kernel_rfl) (fun w => by kernel_rfl) m2 ?_
                  refine rgd_pure 13 (some 48) rfl rfl (.bool true) (by kernel_rfl) (by kernel_rfl) (by kernel_rfl) (fun _ _ _ _ h => h) (by kernel_rfl) (exec_gtrB _ _ _ _ rfl (k : Int) 0 true GK.out (by kernel_rfl) (by kernel_rfl)) m2 ?_
                  refine rgd_pure 14 (some 49) rfl rfl (.bool true) (by kernel_rfl) (by kernel_rfl) (by kernel_rfl) (fun _ _ _ _ h => h) (by kernel_rfl) (fun w => by kernel_rfl) m2 ?_
                  refine rgd_pure 15 (some 50) rfl rfl (.pointer (some ⟨g1, 64, none⟩)) (by kernel_rfl) (by kernel_rfl) (by kernel_rfl) (fun _ _ _ _ h => h) (by kernel_rfl) (fun w => by kernel_rfl) m2 ?_
                  refine rgd_pureS 16 (some 51) rfl rfl (.slice (some ⟨b, o, none⟩) L.length c) (by kernel_rfl) (by kernel_rfl) (by kernel_rfl) (fun _ _ _ _ h => h) (by kernel_rfl) (fun U hU => exec_load1 _ _ rfl Tryz.underlying24 rfl ⟨g1, 64, none⟩ _ (by kernel_rfl) hU.1.slot) m2 ?_
                  refine rgd_pure 17 (some 52) rfl rfl (.int .i64 (k : Int)) (by kernel_rfl) (by kernel_rfl) (by kernel_rfl) (fun _ _ _ _ h => h) (by kernel_rfl) (fun w => by kernel_rfl) m2 ?_
                  refine rgd_pure 18 (some 53) rfl rfl (.int .i64 (j : Int)) (by kernel_rfl) (by kernel_rfl) (by kernel_rfl) (fun _ _ _ _ h => h) (by kernel_rfl) (exec_subI _ _ _ _ rfl (k : Int) 1 (j : Int) SB.out (by kernel_rfl) (by kernel_rfl)) m2 ?_
                  refine rgd_pure 19 (some 54) rfl rfl (.pointer (some ⟨b, o + j * 6, none⟩)) (by kernel_rfl) (by kernel_rfl) (by kernel_rfl) (fun _ _ _ _ h => h) (by kernel_rfl) (exec_idxW _ _ rfl b o L.length c j (by kernel_rfl) (by kernel_rfl) hjl) m2 ?_
                  refine rgd_pureS 20 (some 55) rfl rfl (.agg z.cells.toArray) (by kernel_rfl) (by kernel_rfl) (by kernel_rfl) (fun _ _ _ _ h => h) (by kernel_rfl) (fun U hU => exec_gload 39 _ rfl b (o + j * 6) (by kernel_rfl) _ (ZR.out U hU.2.2.2.1) Tryz.underlying39 rfl (sizeWr z)) m2 ?_
                  refine rgd_pureS 21 (some 56) rfl rfl (.agg #[.int .i64 yr, .int .i64 yn, .int .i64 yt, .string yd, .int .i64 yf, .string ytx]) (by kernel_rfl) (by kernel_rfl) (by kernel_rfl) (fun _ _ _ _ h => h) (by kernel_rfl) (fun U hU => exec_gload 39 _ rfl G4 0 (by kernel_rfl) _ hU.2.1 Tryz.underlying39 rfl (sizeWr ⟨yr, yn, yt, yd, yf, ytx⟩)) m2 ?_
                  refine rgd_call 22 (some 57) (by kernel_rfl) rfl rfl (by kernel_rfl) 48 (#[.agg z.cells.toArray, .agg #[.int .i64 yr, .int .i64 yn, .int .i64 yt, .string yd, .int .i64 yf, .string ytx]]) (by kernel_rfl) (AH.out _) ?_
                  rintro _ U3 ⟨rfl, bU3⟩
                  have m3 := keep _ _ bU3 m2
                  refine ⟨_, rfl, m3, ?_⟩
                  refine rgd_pure 23 (some 58) rfl rfl (.bool false) (by kernel_rfl) (by kernel_rfl) (by kernel_rfl) (fun _ _ _ _ h => h) (by kernel_rfl) (fun w => by kernel_rfl) m3 ?_
                  refine rgd_pure 24 (some 59) rfl rfl (.bool false) (by kernel_rfl) (by kernel_rfl) (by kernel_rfl) (fun _ _ _ _ h => h) (by kernel_rfl) (fun w => by kernel_rfl) m3 ?_
                  refine rgd_pure 25 (some 60) rfl rfl (.bool false) (by kernel_rfl) (by kernel_rfl) (by kernel_rfl) (fun _ _ _ _ h => h) (by kernel_rfl) (fun w => by kernel_rfl) m3 ?_
                  have BU := Lib.hid m3.2.2.2.2
                  have KE : K2 { tmps := #[.agg (scs F (.slice (some ⟨b, o, none⟩) L.length c)), .pointer (some ⟨g1, 0, none⟩), u2, .int .i64 (k : Int), .pointer (some ⟨G4, 0, none⟩), .pointer (some ⟨G5, 0, none⟩), .pointer (some ⟨g1, 0, none⟩), .agg (vf F), .bool true, .bool false, .bool false, .pointer (some ⟨g1, 64, none⟩), .slice (some ⟨b, o, none⟩) L.length c, .int .i64 (L.length : Int), .bool (decide (4096 < (L.length : Int))), .bool (decide (4096 < (L.length : Int))), .pointer (some ⟨g1, 64, none⟩), .slice (some ⟨b, o, none⟩) L.length c, .int .i64 (L.length : Int), .int .i64 (k : Int), .bool true, .int .i64 (k : Int), .pointer (some ⟨b, o + k * 6, none⟩), .agg #[.int .i64 yr, .int .i64 yn, .int .i64 yt, .string yd, .int .i64 yf, .string ytx], .pointer (some ⟨G4, 0, none⟩), .agg #[.int .i64 yr, .int .i64 yn], .pointer (some ⟨G4, 2, none⟩), .int .i64 yt, .pointer (some ⟨G4, 3, none⟩), .string yd, .pointer (some ⟨G4, 4, none⟩), .int .i64 yf, .pointer (some ⟨G4, 5, none⟩), .string ytx, .agg #[.int .i64 yr, .int .i64 yn, .int .i64 yt, .int .i64 1, .string yd, .int .i64 yf, .string ytx, .slice none 0 0], .agg #[.int .i64 yr, .int .i64 yn, .int .i64 yt, .int .i64 1, .string yd, .int .i64 yf, .string ytx, .slice none 0 0], .int .i64 0, .bool false, .bool false, .pointer (some ⟨g1, 0, none⟩), .agg (vf F), .pointer (some ⟨G4, 0, none⟩), .agg #[.int .i64 yr, .int .i64 yn], .bool true, .bool false, .bool false, .bool false, .int .i64 (k : Int), .bool true, .bool true, .pointer (some ⟨g1, 64, none⟩), .slice (some ⟨b, o, none⟩) L.length c, .int .i64 (k : Int), .int .i64 (j : Int), .pointer (some ⟨b, o + j * 6, none⟩), .agg z.cells.toArray, .agg #[.int .i64 yr, .int .i64 yn, .int .i64 yt, .string yd, .int .i64 yf, .string ytx], .bool true, .bool false, .bool false, .bool false, u61], defers := [] } U3 := by
                    refine hK2 _ _ ?_
                    clear hK2 keep m0 m1 m2 m3
                    go_wp2
                    go_roundw
                    case rel => exact ⟨k + 1, by omega, by go_num, NA.out, NO.out, BU.out⟩
                    case measure => simp [RowKit.intOf]; omega
                  exact wpAnyH_done (by kernel_rfl) (Eq.mp (by kernel_rfl) KE) _
          · obtain ⟨X, hX⟩ : ∃ X, chk (putE ⟨yr, yn, yt, yd, yf, ytx⟩) = X := ⟨_, rfl⟩
            rw [hX] at CK
            have XN : Hid ((X == 0) = false) := Lib.hid (by rw [← hX]; simpa using hx)
            have hf : C = false := by
              rw [← HC.out]
              refine can_no fun h => ?_
              have := (h.fine _ (List.getElem_mem hkl)).1
              rw [YC.out] at this
              exact hx this
            subst hf
            clear hX hx
            refine rg_calm (by kernel_rfl) rfl (S := fun U => Sx U g1 F (.slice (some ⟨b, o, none⟩) L.length c) ∧ U.rangeAt G4 0 (Wr.cells ⟨yr, yn, yt, yd, yf, ytx⟩) ∧ U.rangeAt G5 0 (EvP.cells ⟨⟨yr, yn, yt, 1, yd, yf, ytx, []⟩, none, 0⟩) ∧ WrsAt U (some ⟨b, o, none⟩) L ∧ Below w2.heap.size w2 U) ?_
            have m0 := M0.out
            have keep : ∀ U U' : World, Below U.heap.size U U' → Sx U g1 F (.slice (some ⟨b, o, none⟩) L.length c) ∧ U.rangeAt G4 0 (Wr.cells ⟨yr, yn, yt, yd, yf, ytx⟩) ∧ U.rangeAt G5 0 (EvP.cells ⟨⟨yr, yn, yt, 1, yd, yf, ytx, []⟩, none, 0⟩) ∧ WrsAt U (some ⟨b, o, none⟩) L ∧ Below w2.heap.size w2 U → Sx U' g1 F (.slice (some ⟨b, o, none⟩) L.length c) ∧ U'.rangeAt G4 0 (Wr.cells ⟨yr, yn, yt, yd, yf, ytx⟩) ∧ U'.rangeAt G5 0 (EvP.cells ⟨⟨yr, yn, yt, 1, yd, yf, ytx, []⟩, none, 0⟩) ∧ WrsAt U' (some ⟨b, o, none⟩) L ∧ Below w2.heap.size w2 U' := fun U U' hb h => ⟨h.1.later hb, range_below h.2.1 hb, range_below h.2.2.1 hb, h.2.2.2.1.below hb, thenBelow h.2.2.2.2 hb⟩
            refine rgd_pureS 0 (some 35) rfl rfl (.agg #[.int .i64 yr, .int .i64 yn, .int .i64 yt, .int .i64 1, .string yd, .int .i64 yf, .string ytx, .slice none 0 0]) (by kernel_rfl) (by kernel_rfl) (by kernel_rfl) (fun _ _ _ _ h => h) (by kernel_rfl) (fun U hU => exec_gload 55 _ rfl G5 0 (by kernel_rfl) _ hU.2.2.1 Tryz.underlying55 rfl (sizeEv ⟨⟨yr, yn, yt, 1, yd, yf, ytx, []⟩, none, 0⟩)) m0 ?_
            refine rgd_call 1 (some 36) (by kernel_rfl) rfl rfl (by kernel_rfl) 46 (#[.agg #[.int .i64 yr, .int .i64 yn, .int .i64 yt, .int .i64 1, .string yd, .int .i64 yf, .string ytx, .slice none 0 0]]) (by kernel_rfl) (CK.out _) ?_
            rintro _ U1 ⟨rfl, bU1⟩
            have m1 := keep _ _ bU1 m0
            refine ⟨_, rfl, m1, ?_⟩
            refine rgd_pure 2 (some 37) rfl rfl (.bool true) (by kernel_rfl) (by kernel_rfl) (by kernel_rfl) (fun _ _ _ _ h => h) (by kernel_rfl) (exec_neqN _ _ _ _ rfl X 0 XN.out (by kernel_rfl) (by kernel_rfl)) m1 ?_
            refine rgd_pure 3 (some 38) rfl rfl (.bool true) (by kernel_rfl) (by kernel_rfl) (by kernel_rfl) (fun _ _ _ _ h => h) (by kernel_rfl) (fun w => by kernel_rfl) m1 ?_
            refine rgd_skip 4 (some 39) rfl rfl (by kernel_rfl) (by kernel_rfl) (by kernel_rfl) (fun _ _ _ _ h => h) (by kernel_rfl) m1 ?_
            refine rgd_skip 5 (some 40) rfl rfl (by kernel_rfl) (by kernel_rfl) (by kernel_rfl) (fun _ _ _ _ h => h) (by kernel_rfl) m1 ?_
            refine rgd_skip 6 (some 41) rfl rfl (by kernel_rfl) (by kernel_rfl) (by kernel_rfl) (fun _ _ _ _ h => h) (by kernel_rfl) m1 ?_
            refine rgd_skip 7 (some 42) rfl rfl (by kernel_rfl) (by kernel_rfl) (by kernel_rfl) (fun _ _ _ _ h => h) (by kernel_rfl) m1 ?_
            refine rgd_skip 8 (some 43) rfl rfl (by kernel_rfl) (by kernel_rfl) (by kernel_rfl) (fun _ _ _ _ h => h) (by kernel_rfl) m1 ?_
            refine rgd_skip 9 (some 44) rfl rfl (by kernel_rfl) (by kernel_rfl) (by kernel_rfl) (fun _ _ _ _ h => h) (by kernel_rfl) m1 ?_
            refine rgd_pure 10 (some 45) rfl rfl (.bool true) (by kernel_rfl) (by kernel_rfl) (by kernel_rfl) (fun _ _ _ _ h => h) (by kernel_rfl) (fun w => by kernel_rfl) m1 ?_
            refine rgd_pure 11 (some 46) rfl rfl (.bool true) (by kernel_rfl) (by kernel_rfl) (by kernel_rfl) (fun _ _ _ _ h => h) (by kernel_rfl) (fun w => by kernel_rfl) m1 ?_
            refine rgd_skip 12 (some 47) rfl rfl (by kernel_rfl) (by kernel_rfl) (by kernel_rfl) (fun _ _ _ _ h => h) (by kernel_rfl) m1 ?_
            refine rgd_skip 13 (some 48) rfl rfl (by kernel_rfl) (by kernel_rfl) (by kernel_rfl) (fun _ _ _ _ h => h) (by kernel_rfl) m1 ?_
            refine rgd_skip 14 (some 49) rfl rfl (by kernel_rfl) (by kernel_rfl) (by kernel_rfl) (fun _ _ _ _ h => h) (by kernel_rfl) m1 ?_
            refine rgd_skip 15 (some 50) rfl rfl (by kernel_rfl) (by kernel_rfl) (by kernel_rfl) (fun _ _ _ _ h => h) (by kernel_rfl) m1 ?_
            refine rgd_skip 16 (some 51) rfl rfl (by kernel_rfl) (by kernel_rfl) (by kernel_rfl) (fun _ _ _ _ h => h) (by kernel_rfl) m1 ?_
            refine rgd_skip 17 (some 52) rfl rfl (by kernel_rfl) (by kernel_rfl) (by kernel_rfl) (fun _ _ _ _ h => h) (by kernel_rfl) m1 ?_
            refine rgd_skip 18 (some 53) rfl rfl (by kernel_rfl) (by kernel_rfl) (by kernel_rfl) (fun _ _ _ _ h => h) (by kernel_rfl) m1 ?_
            refine rgd_skip 19 (some 54) rfl rfl (by kernel_rfl) (by kernel_rfl) (by kernel_rfl) (fun _ _ _ _ h => h) (by kernel_rfl) m1 ?_
            refine rgd_skip 20 (some 55) rfl rfl (by kernel_rfl) (by kernel_rfl) (by kernel_rfl) (fun _ _ _ _ h => h) (by kernel_rfl) m1 ?_
            refine rgd_skip 21 (some 56) rfl rfl (by kernel_rfl) (by kernel_rfl) (by kernel_rfl) (fun _ _ _ _ h => h) (by kernel_rfl) m1 ?_
            refine rgd_skip 22 (some 57) rfl rfl (by kernel_rfl) (by kernel_rfl) (by kernel_rfl) (fun _ _ _ _ h => h) (by kernel_rfl) m1 ?_
            refine rgd_skip 23 (some 58) rfl rfl (by kernel_rfl) (by kernel_rfl) (by kernel_rfl) (fun _ _ _ _ h => h) (by kernel_rfl) m1 ?_
            refine rgd_skip 24 (some 59) rfl rfl (by kernel_rfl) (by kernel_rfl) (by kernel_rfl) (fun _ _ _ _ h => h) (by kernel_rfl) m1 ?_
            refine rgd_pure 25 (some 60) rfl rfl (.bool true) (by kernel_rfl) (by kernel_rfl) (by kernel_rfl) (fun _ _ _ _ h => h) (by kernel_rfl) (fun w => by kernel_rfl) m1 ?_
            have BU := Lib.hid m1.2.2.2.2
            have KE : K2 { tmps := #[.agg (scs F (.slice (some ⟨b, o, none⟩) L.length c)), .pointer (some ⟨g1, 0, none⟩), u2, .int .i64 (k : Int), .pointer (some ⟨G4, 0, none⟩), .pointer (some ⟨G5, 0, none⟩), .pointer (some ⟨g1, 0, none⟩), .agg (vf F), .bool true, .bool false, .bool false, .pointer (some ⟨g1, 64, none⟩), .slice (some ⟨b, o, none⟩) L.length c, .int .i64 (L.length : Int), .bool (decide (4096 < (L.length : Int))), .bool (decide (4096 < (L.length : Int))), .pointer (some ⟨g1, 64, none⟩), .slice (some ⟨b, o, none⟩) L.length c, .int .i64 (L.length : Int), .int .i64 (k : Int), .bool true, .int .i64 (k : Int), .pointer (some ⟨b, o + k * 6, none⟩), .agg #[.int .i64 yr, .int .i64 yn, .int .i64 yt, .string yd, .int .i64 yf, .string ytx], .pointer (some ⟨G4, 0, none⟩), .agg #[.int .i64 yr, .int .i64 yn], .pointer (some ⟨G4, 2, none⟩), .int .i64 yt, .pointer (some ⟨G4, 3, none⟩), .string yd, .pointer (some ⟨G4, 4, none⟩), .int .i64 yf, .pointer (some ⟨G4, 5, none⟩), .string ytx, .agg #[.int .i64 yr, .int .i64 yn, .int .i64 yt, .int .i64 1, .string yd, .int .i64 yf, .string ytx, .slice none 0 0], .agg #[.int .i64 yr, .int .i64 yn, .int .i64 yt, .int .i64 1, .string yd, .int .i64 yf, .string ytx, .slice none 0 0], .int .i64 X, .bool true, .bool true, undef, undef, undef, undef, undef, undef, .bool true, .bool true, undef, undef, undef, undef, undef, undef, undef, undef, undef, undef, undef, undef, undef, .bool true, u61], defers := [] } U1 := by
              refine hK2 _ _ ?_
              clear hK2 keep m0 m1
              go_wp2
              go_ret
              exact ⟨rfl, thenBelow B2.out BU.out⟩
            exact wpAnyH_done (by kernel_rfl) (Eq.mp (by kernel_rfl) KE) _
        · obtain rfl : k = L.length := by omega
          have hkl' : ¬ ((L.length : Nat) : Int) < L.length := by omega
          have ht : C = true := by
            rw [← HC.out]
            exact can_iff.2 ⟨HG.out, by omega, fun y hy => by
              obtain ⟨i, hi, rfl⟩ := List.getElem_of_mem hy
              exact HA.out i hi hi, ord_adj L fun i hi => HO.out i hi hi⟩
          subst ht
          go_wp2
          go_ret
          exact ⟨rfl, thenBelow B2.out BB.out⟩
end Go.Proofs.YtijmijokgenflaaGreatDoor
