/- the program's sameEvent. -/
import Derived.Test.YtimfcedkmdbnfaaPastEq
namespace Go.Proofs.Ytimfcedkmdbnfaa
open Go Go.RowKit
set_option linter.unusedVariables false

/-- what a call tells -/
def Tells (w : World) (P : Prop) (e : Ending) (w' : World) : Prop := ∃ b : Bool, e = .returned (.bool b) ∧ (b = true ↔ P) ∧ Below w.heap.size w w'
theorem beqI (x y : Int) (h : ¬ x = y) : (x == y) = false := by simp [h]
theorem neB (x y : ByteArray) (h : ¬ x = y) : ¬ x.toList = y.toList := fun e => h (ByteArray.ext (Array.toList_inj.1 (by rw [Lib.toList_data, Lib.toList_data] at e; exact e)))
set_option maxHeartbeats 20000000 in
set_option maxRecDepth 1000000 in
theorem sameEvent_is (x y : EvP) (w : World) (hx : x.Ok w) (hy : y.Ok w) (hgx : x.e.gone.length ≤ 1000) (hgy : y.e.gone.length ≤ 1000) :
    Calls Try.prog 28 #[.agg x.cells.toArray, .agg y.cells.toArray] w (Tells w (x.e = y.e)) := by
  have HX := Lib.hid hx; have HY := Lib.hid hy
  clear hx hy
  go_enter Try.func28, Try.ntmps28
  go_wp2_with (refine wpList_gbox rfl _ rfl x.cells.toArray rfl ?_)
  intro g2 w1 lg2 hg2 hb1
  have B1 := Lib.hid hb1
  have X1 := Lib.hid hg2
  clear hg2 hb1
  go_wp2_with (refine wpList_gbox rfl _ rfl y.cells.toArray rfl ?_)
  intro g3 w2 lg3 hg3 hb2
  have B2 := Lib.hid (thenBelow B1.out hb2)
  have hx2 := range_of_block ((hb2.block g2 (Array.getElem?_eq_some_iff.1 X1.out).1).trans X1.out)
  have hy2 := range_of_block hg3
  obtain ⟨c0, c1, c2, c3, c4, c5, c6, c7⟩ := ev_cells (x := x) (by simpa using hx2)
  obtain ⟨e0, e1, e2, e3, e4, e5, e6, e7⟩ := ev_cells (x := y) (by simpa using hy2)
  have EQ := Lib.hid (equalW_is x.p y.p x.c y.c x.e.gone y.e.gone w2 (HX.out.1.below B2.out) (HY.out.1.below B2.out) (by omega) (by omega))
  clear hg3 hb2 X1 hx2 hy2 HX HY
  obtain ⟨⟨r, n, t, kd, d, fl, tx, gn⟩, gp, gc⟩ := x
  obtain ⟨⟨r', n', t', kd', d', fl', tx', gn'⟩, gp', gc'⟩ := y
  simp only [Nat.zero_add] at c0 c1 c2 c3 c4 c5 c6 c7 e0 e1 e2 e3 e4 e5 e6 e7 EQ hgx hgy
  simp only [EvP.cells]
  have hq1 : ∀ w : World, (binOp .eql 32 (.agg #[.int .i64 r, .int .i64 n]) (.agg #[.int .i64 r', .int .i64 n'])).run Try.prog w = .ok (.bool (eqDt (r, n) (r', n'))) w := fun w => eqlDt (r, n) (r', n') w
  have hq2 : ∀ w : World, (Op.equalIn 10000 32 (.agg #[.int .i64 r, .int .i64 n]) (.agg #[.int .i64 r', .int .i64 n'])).run Try.prog w = .ok (eqDt (r, n) (r', n')) w := fun w => runEqDt (r, n) (r', n') w
  by_cases h0 : ((r, n) : Dt) = (r', n')
  · rw [(eqDt_iff _ _).2 h0] at hq1 hq2
    injection h0 with ha hb
    subst ha; subst hb
    by_cases ht : t = t'
    · subst ht
      by_cases hkd : kd = kd'
      · subst hkd
        by_cases hd : d = d'
        · subst hd
          by_cases hfl : fl = fl'
          · subst hfl
            by_cases htx : tx = tx'
            · subst htx
              go_wp2_with fail
              refine EQ.out.mono ?_
              rintro e w5 ⟨rfl, hb5⟩
              have B5 := Lib.hid (thenBelow B2.out hb5)
              clear hb5 EQ
              go_wp2
              go_ret
              exact ⟨decide (gn = gn'), rfl, by simp, B5.out⟩
            · have no : ¬ (⟨r, n, t, kd, d, fl, tx, gn⟩ : Ev) = ⟨r, n, t, kd, d, fl, tx', gn'⟩ := fun h => by injection h; contradiction
              have hf := neB tx tx' htx
              go_wp2
              go_ret
              exact ⟨false, rfl, by simp, B2.out⟩
          · have no : ¬ (⟨r, n, t, kd, d, fl, tx, gn⟩ : Ev) = ⟨r, n, t, kd, d, fl', tx', gn'⟩ := fun h => by injection h; contradiction
            have hf := beqI fl fl' hfl
            go_wp2
            go_ret
            exact ⟨false, rfl, by simp, B2.out⟩
        · have no : ¬ (⟨r, n, t, kd, d, fl, tx, gn⟩ : Ev) = ⟨r, n, t, kd, d', fl', tx', gn'⟩ := fun h => by injection h; contradiction
          have hf := neB d d' hd
          go_wp2
          go_ret
          exact ⟨false, rfl, by simp, B2.out⟩
      · have no : ¬ (⟨r, n, t, kd, d, fl, tx, gn⟩ : Ev) = ⟨r, n, t, kd', d', fl', tx', gn'⟩ := fun h => by injection h; contradiction
        have hf := beqI kd kd' hkd
        go_wp2
        go_ret
        exact ⟨false, rfl, by simp, B2.out⟩
    · have no : ¬ (⟨r, n, t, kd, d, fl, tx, gn⟩ : Ev) = ⟨r, n, t', kd', d', fl', tx', gn'⟩ := fun h => by injection h; contradiction
      have hf := beqI t t' ht
      go_wp2
      go_ret
      exact ⟨false, rfl, by simp, B2.out⟩
  · rw [eqDt_no h0] at hq1 hq2
    have no : ¬ (⟨r, n, t, kd, d, fl, tx, gn⟩ : Ev) = ⟨r', n', t', kd', d', fl', tx', gn'⟩ := fun h => by injection h with h1 h2; exact h0 (by rw [h1, h2])
    go_wp2
    go_ret
    exact ⟨false, rfl, by simp, B2.out⟩
end Go.Proofs.Ytimfcedkmdbnfaa
