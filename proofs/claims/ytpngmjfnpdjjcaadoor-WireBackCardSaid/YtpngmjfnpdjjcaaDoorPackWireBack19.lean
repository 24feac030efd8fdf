/- The statement WireBack, proved for every input that its row reads: part 19 of 54. -/
import Derived.Test.YtpngmjfnpdjjcaaDoorPackWireBack10
import Derived.Test.YtpngmjfnpdjjcaaDoorPackWireBack18
/- docs: without; which dots an event takes away. -/
namespace Go.Proofs.YtpngmjfnpdjjcaaDoor
open Go Go.RowKit
set_option linter.unusedVariables false
set_option maxRecDepth 1000000

/-- what is left, in new memory -/
def LeftW (w : World) (K' : List Wr) (e : Ending) (w' : World) : Prop := ∃ v, e = .returned v ∧ w'.ownsRow w.heap.size 55 6 v K'.length (wcl K') ∧ Below w.heap.size w w'
/-- an event in a variable of its own, its dots there, below B -/
def EvIn (G : Nat) (x : EvP) (w : World) : Prop := w.rangeAt G 0 x.cells ∧ x.Ok w
def goneW (x : EvP) (y : Wr) : Bool := decide (y.dot ∈ x.e.gone)
end Go.Proofs.YtpngmjfnpdjjcaaDoor
/- the program's sameEvent. -/
namespace Go.Proofs.YtpngmjfnpdjjcaaDoor
open Go Go.RowKit
set_option linter.unusedVariables false
set_option maxRecDepth 1000000

/-- what a call tells -/
def Tells (w : World) (P : Prop) (e : Ending) (w' : World) : Prop := ∃ b : Bool, e = .returned (.bool b) ∧ (b = true ↔ P) ∧ Below w.heap.size w w'
theorem beqI (x y : Int) (h : ¬ x = y) : (x == y) = false := by simp [h]
theorem neB (x y : ByteArray) (h : ¬ x = y) : ¬ x.toList = y.toList := fun e => h (ByteArray.ext (Array.toList_inj.1 (by rw [Lib.toList_data, Lib.toList_data] at e; exact e)))
set_option maxHeartbeats 20000000 in
set_option maxRecDepth 1000000 in
theorem sameEvent_is (x y : EvP) (w : World) (hx : x.Ok w) (hy : y.Ok w) (hgx : x.e.gone.length ≤ 1000) (hgy : y.e.gone.length ≤ 1000) :
    Calls Tryd.prog 38 #[.agg x.cells.toArray, .agg y.cells.toArray] w (Tells w (x.e = y.e)) := by
  have HX := Lib.hid hx; have HY := Lib.hid hy
  clear hx hy
  go_enter Tryd.func38, Tryd.ntmps38
  go_wp2_with (refine wpList_gbox rfl _ rfl x.cells.toArray rfl ?_)
  intro g2 w1 lg2 hg2 hb1
  have B1 := Lib.hid hb1
  have X1 := Lib.hid hg2
  clear hg2 hb1
  go_wp2_with (refine wpList_gbox rfl _ rfl y.cells.toArray rfl ?_)
  intro g3 w2 lg3 hg3 hb2
  have B2 := Lib.hid (thenBelow B1.out hb2)
  have hx2 := range_of_block ((hb2.block g2 (Array.getElem?_eq_some_iff.1 X1.out).1).trans X1.out)
  have hy2 := range_of_block hg3
  obtain ⟨c0, c1, c2, c3, c4, c5, c6, c7⟩ := ev_cells (x := x) (by simpa using hx2)
  obtain ⟨e0, e1, e2, e3, e4, e5, e6, e7⟩ := ev_cells (x := y) (by simpa using hy2)
  have EQ := Lib.hid (equalW_is x.p y.p x.c y.c x.e.gone y.e.gone w2 (HX.out.1.below B2.out) (HY.out.1.below B2.out) (by omega) (by omega))
  clear hg3 hb2 X1 hx2 hy2 HX HY
  obtain ⟨⟨r, n, t, kd, d, fl, tx, gn⟩, gp, gc⟩ := x
  obtain ⟨⟨r', n', t', kd', d', fl', tx', gn'⟩, gp', gc'⟩ := y
  simp only [Nat.zero_add] at c0 c1 c2 c3 c4 c5 c6 c7 e0 e1 e2 e3 e4 e5 e6 e7 EQ hgx hgy
  simp only [EvP.cells]
  have hq1 : ∀ w : World, (binOp .eql 53 (.agg #[.int .i64 r, .int .i64 n]) (.agg #[.int .i64 r', .int .i64 n'])).run Tryd.prog w = .ok (.bool (eqDt (r, n) (r', n'))) w := fun w => eqlDt (r, n) (r', n') w
  have hq2 : ∀ w : World, (Op.equalIn 10000 53 (.agg #[.int .i64 r, .int .i64 n]) (.agg #[.int .i64 r', .int .i64 n'])).run Tryd.prog w = .ok (eqDt (r, n) (r', n')) w := fun w => runEqDt (r, n) (r', n') w
  by_cases h0 : ((r, n) : Dt) = (r', n')
  · rw [(eqDt_iff _ _).2 h0] at hq1 hq2
    injection h0 with ha hb
    subst ha; subst hb
    by_cases ht : t = t'
    · subst ht
      by_cases hkd : kd = kd'
      · subst hkd
        by_cases hd : d = d'
        · subst hd
          by_cases hfl : fl = fl'
          · subst hfl
            by_cases htx : tx = tx'
            · subst htx
              go_wp2_with fail
              refine EQ.out.mono ?_
              rintro e w5 ⟨rfl, hb5⟩
              have B5 := Lib.hid (thenBelow B2.out hb5)
              clear hb5 EQ
              go_wp2
              go_ret
              exact ⟨decide (gn = gn'), rfl, by simp, B5.out⟩
            · have no : ¬ (⟨r, n, t, kd, d, fl, tx, gn⟩ : Ev) = ⟨r, n, t, kd, d, fl, tx', gn'⟩ := fun h => by injection h; contradiction
              have hf := neB tx tx' htx
              go_wp2
              go_ret
              exact ⟨false, rfl, by simp, B2.out⟩
          · have no : ¬ (⟨r, n, t, kd, d, fl, tx, gn⟩ : Ev) = ⟨r, n, t, kd, d, fl', tx', gn'⟩ := fun h => by injection h; contradiction
            have hf := beqI fl fl' hfl
            go_wp2
            go_ret
            exact ⟨false, rfl, by simp, B2.out⟩
        · have no : ¬ (⟨r, n, t, kd, d, fl, tx, gn⟩ : Ev) = ⟨r, n, t, kd, d', fl', tx', gn'⟩ := fun h => by injection h; contradiction
          have hf := neB d d' hd
          go_wp2
          go_ret
          exact ⟨false, rfl, by simp, B2.out⟩
      · have no : ¬ (⟨r, n, t, kd, d, fl, tx, gn⟩ : Ev) = ⟨r, n, t, kd', d', fl', tx', gn'⟩ := fun h => by injection h; contradiction
        have hf := beqI kd kd' hkd
        go_wp2
        go_ret
        exact ⟨false, rfl, by simp, B2.out⟩
    · have no : ¬ (⟨r, n, t, kd, d, fl, tx, gn⟩ : Ev) = ⟨r, n, t', kd', d', fl', tx', gn'⟩ := fun h => by injection h; contradiction
      have hf := beqI t t' ht
      go_wp2
      go_ret
      exact ⟨false, rfl, by simp, B2.out⟩
  · rw [eqDt_no h0] at hq1 hq2
    have no : ¬ (⟨r, n, t, kd, d, fl, tx, gn⟩ : Ev) = ⟨r', n', t', kd', d', fl', tx', gn'⟩ := fun h => by injection h with h1 h2; exact h0 (by rw [h1, h2])
    go_wp2
    go_ret
    exact ⟨false, rfl, by simp, B2.out⟩
set_option maxRecDepth 1000000

theorem evs_get (L : List EvP) (j : Nat) (h : j < L.length) : (evs L)[j]? = some L[j].e := by simp [evs, h]
set_option maxHeartbeats 20000000 in
set_option maxRecDepth 1000000 in
theorem equalF_is (p : Option Addr) (c : Nat) (L : List EvP) (q : Option Addr) (c' : Nat) (M : List EvP) (w : World) (h : EvsAt w p L) (h2 : EvsAt w q M) (hn : L.length ≤ 1000) (hn2 : M.length ≤ 1000) (hg : ∀ x ∈ L, x.e.gone.length ≤ 1000) (hg2 : ∀ x ∈ M, x.e.gone.length ≤ 1000) :
    Calls Tryd.prog 37 #[.slice p L.length c, .slice q M.length c', .func (.func 38) #[] #[]] w (Tells w (evs L = evs M)) := by
  have E1 := Lib.hid h; have E2 := Lib.hid h2; have HG := Lib.hid hg; have HG2 := Lib.hid hg2
  clear h h2 hg hg2
  by_cases hl : M.length = L.length
  · have HL := Lib.hid hl
    rw [hl]
    go_enter Tryd.func37, Tryd.ntmps37
    go_wp2
    go_loopw [17] (fun i wr => ∃ j : Nat, j ≤ L.length ∧ i = .int .i64 j ∧ (∀ t, t < j → (evs L)[t]? = (evs M)[t]?) ∧ Below w.heap.size w wr) (fun i _ => L.length - (intOf i).toNat)
    case atStart => exact ⟨0, Nat.zero_le _, rfl, fun t h => by omega, Below.refl _ _⟩
    case round =>
      obtain ⟨j, hj, rfl, hall, hb⟩ := hrel
      have BB := Lib.hid hb; have HA := Lib.hid hall
      clear hall
      by_cases hjl : j < L.length
      · have hjl' : (j : Int) < L.length := by omega
        have hjm : j < M.length := by omega
        obtain ⟨b, o, rfl, hlt, hr⟩ := (E1.out.below hb).at hjl
        obtain ⟨b', o', rfl, hlt', hr'⟩ := (E2.out.below hb).at hjm
        obtain ⟨c0, c1, c2, c3, c4, c5, c6, c7⟩ := ev_cells hr
        obtain ⟨e0, e1, e2, e3, e4, e5, e6, e7⟩ := ev_cells (range_below hr' (below_alloc wr (.cells L[j].cells.toArray 59)))
        have SE := Lib.hid (fun (V : World) (hV : Below w.heap.size w V) => sameEvent_is L[j] M[j] V ((E1.out.ok L[j] (List.getElem_mem hjl)).below hV) ((E2.out.ok M[j] (List.getElem_mem hjm)).below hV) (HG.out _ (List.getElem_mem hjl)) (HG2.out _ (List.getElem_mem hjm)))
        have GL := Lib.hid (evs_get L j hjl); have GM := Lib.hid (evs_get M j hjm)
        have b6 := below_alloc wr (.cells L[j].cells.toArray 59)
        have n6 := heap_alloc_new wr (.cells L[j].cells.toArray 59)
        have b7 := below_alloc (wr.alloc (.cells L[j].cells.toArray 59)) (.cells M[j].cells.toArray 59)
        have n7 := heap_alloc_new (wr.alloc (.cells L[j].cells.toArray 59)) (.cells M[j].cells.toArray 59)
        have B7 := Lib.hid (thenBelow BB.out (thenBelow b6 b7))
        have SZ1 := Lib.hid (sizeEv L[j]); have SZ2 := Lib.hid (sizeEv M[j])
        have N6 := Lib.hid (range_of_block ((b7.block _ (Array.getElem?_eq_some_iff.1 n6).1).trans n6))
        have n7' : ((wr.alloc (.cells L[j].cells.toArray 59)).alloc (.cells M[j].cells.toArray 59)).heap[wr.heap.size + 1]? = some (.cells M[j].cells.toArray 59 (0, 0)) := by simpa using n7
        have N7 := Lib.hid (range_of_block n7')
        clear hb hr hr' hlt hlt' b6 n6 b7 n7 n7'
        obtain ⟨x, hx⟩ : ∃ x, L[j] = x := ⟨_, rfl⟩
        obtain ⟨y, hy⟩ : ∃ y, M[j] = y := ⟨_, rfl⟩
        rw [hx] at c0 c1 c2 c3 c4 c5 c6 c7 e0 e1 e2 e3 e4 e5 e6 e7 SE GL B7 SZ1 N6 N7
        rw [hy] at e0 e1 e2 e3 e4 e5 e6 e7 SE GM B7 SZ2 N6 N7
        clear hx hy
        obtain ⟨⟨r, n, t, kd, d, fl, tx, gn⟩, xp, xc⟩ := x
        obtain ⟨⟨r', n', t', kd', d', fl', tx', gn'⟩, yp, yc⟩ := y
        simp only [EvP.cells] at c0 c1 c2 c3 c4 c5 c6 c7 e0 e1 e2 e3 e4 e5 e6 e7 SE GL GM B7 SZ1 SZ2 N6 N7
        go_wp2_with (first | refine wpList_gload rfl _ rfl wr.heap.size 0 rfl _ N6.out _ Tryd.underlying59 rfl SZ1.out ?_ | refine wpList_gload rfl _ rfl (wr.heap.size + 1) 0 rfl _ N7.out _ Tryd.underlying59 rfl SZ2.out ?_)
        refine (SE.out _ B7.out).mono ?_
        rintro e w8 ⟨b, rfl, hbb, hb8⟩
        have B8 := Lib.hid (thenBelow B7.out hb8); have HBB := Lib.hid hbb
        clear hb8 hbb SE N6 N7 c0 c1 c2 c3 c4 c5 c6 c7 e0 e1 e2 e3 e4 e5 e6 e7 SZ1 SZ2
        cases b with
        | true =>
          go_wp2
          go_roundw
          case rel => exact ⟨j + 1, by omega, by go_num, fun t ht => by
            rcases Nat.lt_or_ge t j with h | h
            · exact HA.out t h
            · obtain rfl : t = j := by omega
              rw [GL.out, GM.out, HBB.out.1 (by first | exact rfl | trivial)], B8.out⟩
          case measure => simp [intOf]; omega
        | false =>
          have no : ¬ evs L = evs M := fun h => by
            have h1 := GL.out
            rw [h, GM.out] at h1
            have h2 := HBB.out.2 (Option.some.inj h1).symm
            cases h2
          clear GL GM HBB
          go_wp2
          go_ret
          exact ⟨false, rfl, ⟨fun h => (by cases h), fun h => absurd h no⟩, B8.out⟩
      · obtain rfl : j = L.length := by omega
        have hjl' : ¬ ((L.length : Nat) : Int) < L.length := by omega
        have yes : evs L = evs M := by
          refine List.ext_getElem? fun t => ?_
          rcases Nat.lt_or_ge t L.length with h | h
          · exact HA.out t h
          · rw [List.getElem?_eq_none (by simp [evs]; omega), List.getElem?_eq_none (by simp [evs]; omega)]
        go_wp2
        go_ret
        exact ⟨true, rfl, by first | exact ⟨fun _ => yes, fun _ => rfl⟩ | simp [yes], BB.out⟩
  · have no : ¬ evs L = evs M := fun h => hl (by have := congrArg List.length h; simpa [evs] using this.symm)
    have hne : ((L.length : Int) != (M.length : Int)) = true := by simp; omega
    go_enter Tryd.func37, Tryd.ntmps37
    go_wp2
    go_ret
    exact ⟨false, rfl, ⟨fun h => (by cases h), fun h => absurd h no⟩, Below.refl _ _⟩
set_option maxHeartbeats 20000000 in
set_option maxRecDepth 1000000 in
theorem sameE_is (p : Option Addr) (c : Nat) (L : List EvP) (q : Option Addr) (c' : Nat) (M : List EvP) (w : World) (h : EvsAt w p L) (h2 : EvsAt w q M) (hn : L.length ≤ 1000) (hn2 : M.length ≤ 1000) (hg : ∀ x ∈ L, x.e.gone.length ≤ 1000) (hg2 : ∀ x ∈ M, x.e.gone.length ≤ 1000) :
    Calls Tryd.prog 20 #[.slice p L.length c, .slice q M.length c'] w (Tells w (evs L = evs M)) := by
  have EF := Lib.hid (equalF_is p c L q c' M w h h2 hn hn2 hg hg2)
  clear h h2 hg hg2
  go_enter Tryd.func20, Tryd.ntmps20
  go_wp2_with fail
  refine EF.out.mono ?_
  rintro e w5 ⟨b, rfl, hbb, hb5⟩
  have HBB := Lib.hid hbb; have B5 := Lib.hid hb5
  clear hbb hb5 EF
  go_wp2
  go_ret
  exact ⟨b, rfl, HBB.out, B5.out⟩
end Go.Proofs.YtpngmjfnpdjjcaaDoor
