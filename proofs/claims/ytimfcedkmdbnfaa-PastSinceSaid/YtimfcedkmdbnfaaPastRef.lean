/- the document's past: has, and an event more. -/
import Derived.Test.YtimfcedkmdbnfaaPastAdd2
import Derived.Laws.AppendOwnNone
namespace Go.Proofs.Ytimfcedkmdbnfaa
open Go Go.RowKit
set_option linter.unusedVariables false

section
variable {ops : Array Oper} {rest : List Oper} {o : Oper} {a : Act} {Q : Exit → Act → World → Prop}
/-- events that lie somewhere, put behind events of one's own -/
theorem wpList_evs (w : World) (hg : o.guard = none) (s x : Operand) (ho : o.op = .call { callee := .builtin .append, args := #[s, x], argTypes := #[22, 22] })
    (B n : Nat) (xs : List Value) (v : Value) (hs : a.eval s = v) (hown : w.ownsRow B 35 8 v n xs) (p : Option Addr) (c : Nat) (L : List EvP) (hx : a.eval x = .slice p L.length c) (hl : EvsAt w p L) (hp : p = none → c = 0)
    (hlen : n + L.length ≤ 1000000) (hB : B ≤ w.heap.size)
    (h : ∀ v' w', w'.ownsRow B 35 8 v' (n + L.length) (xs ++ ecl L) → w.grownBy w' v.ownBlock → wpList Try.prog ops Q rest (a.put o.dst v') w') : wpList Try.prog ops Q (o :: rest) a w := by
  obtain ⟨i0, hi, hz0, hz1, hz2⟩ := info_parts infoEv
  cases p with
  | none =>
    obtain rfl := hl.none rfl
    obtain rfl := hp rfl
    exact wpList_append_own_none hg s x _ ho B 35 i0 8 Try.underlying22 hi v n xs hs hown hx (h v w (by simpa [ecl] using hown) ⟨rfl, rfl, rfl, Nat.le_refl _, fun _ _ _ => rfl⟩)
  | some ad =>
    refine wpList_append_own _ hg s x 22 ho B 35 i0 _ 8 96 Try.underlying22 hi hz0 hz1 hz2 rfl (by decide) v n xs hs hown ad L.length c (ecl L) hx (ecl_length L) ?_ (ecl_one L) (by unfold maxLen; omega) (by omega) hB ?_
    · by_cases h0 : L = []
      · subst h0; intro j u hu; simp [ecl] at hu
      · obtain ⟨b, of, e1, hc⟩ := hl.row h0
        obtain rfl := Option.some.inj e1
        intro j u hu
        rw [Addr.add_mid]; exact hc j u hu
    · intro v' w' h1 h2 _
      exact h v' w' h1 h2
end
/-- a row of events, wherever their dots lie -/
theorem own_at {w : World} {B : Nat} {v : Value} {L : List EvP} (hr : w.ownsRow B 35 8 v L.length (ecl L)) (hk : ∀ x ∈ L, x.Ok w) : ∃ p c, v = .slice p L.length c ∧ L.length ≤ c ∧ EvsAt w p L ∧ (∀ a, p = some a → ∃ b o, a = ⟨b, o, Option.none⟩) := by
  rcases hr.2 with ⟨rfl, h0⟩ | ⟨g, cap, cur, rfl, hB, hg, hc, hm, hs, ht⟩
  · have : L = [] := List.eq_nil_of_length_eq_zero h0
    subst this
    exact ⟨none, 0, rfl, Nat.le_refl _, ⟨fun hn => absurd rfl hn, fun x hx => by simp at hx, fun _ => rfl⟩, fun a ha => by cases ha⟩
  · refine ⟨some ⟨g, 0, none⟩, cap, rfl, hc, ⟨fun _ => ⟨g, 0, rfl, fun j u hu => ?_⟩, hk, fun e => by cases e⟩, fun a ha => by obtain rfl := Option.some.inj ha; exact ⟨g, 0, rfl⟩⟩
    have hj : j < L.length * 8 := by rw [← ecl_length]; exact (List.getElem?_eq_some_iff.1 hu).1
    have := hr.cellAt j hj
    rw [Nat.zero_add, this]; exact hu
theorem eqlDt (x y : Dt) (w : World) : (binOp .eql 32 (.agg #[.int .i64 x.1, .int .i64 x.2]) (.agg #[.int .i64 y.1, .int .i64 y.2])).run Try.prog w = .ok (.bool (eqDt x y)) w := by
  rw [run_eql_struct]
  have h := runEqDt x y w
  simp only [dcs] at h
  rw [h]; rfl
theorem neqDt (x y : Dt) (w : World) : (binOp .neq 32 (.agg #[.int .i64 x.1, .int .i64 x.2]) (.agg #[.int .i64 y.1, .int .i64 y.2])).run Try.prog w = .ok (.bool (!eqDt x y)) w := by
  rw [run_neq_struct]
  have h := runEqDt x y w
  simp only [dcs] at h
  rw [h]; rfl
set_option maxHeartbeats 8000000 in
set_option maxRecDepth 100000 in
theorem refHasE_is (p : Option Addr) (c : Nat) (L : List EvP) (d1 d2 : Int) (w : World) (h : EvsAt w p L) (hn : L.length ≤ 1000) :
    Calls Try.prog 38 #[.slice p L.length c, .agg #[.int .i64 d1, .int .i64 d2]] w fun e w' => e = .returned (.bool (decide ((d1, d2) ∈ (evs L).map Ev.dot))) ∧ Below w.heap.size w w' := by
  have EV := Lib.hid h
  clear h
  obtain ⟨yes, hyes⟩ : ∃ yes, decide ((d1, d2) ∈ (evs L).map Ev.dot) = yes := ⟨_, rfl⟩
  rw [hyes]
  have HYES := Lib.hid hyes
  clear hyes
  go_enter Try.func38, Try.ntmps38
  go_wp2_with (refine wpList_gbox rfl _ rfl #[.int .i64 d1, .int .i64 d2] rfl ?_)
  intro g w1 lg hg hb1
  have B1 := Lib.hid hb1
  have HG := Lib.hid hg
  have E1 := Lib.hid (EV.out.below hb1)
  clear hg hb1 EV
  go_wp2
  go_loopw [9] (fun i wr => ∃ j : Nat, j ≤ L.length ∧ i = .int .i64 j ∧ (d1, d2) ∉ (evs (L.take j)).map Ev.dot ∧ Below w1.heap.size w1 wr) (fun i _ => L.length - (intOf i).toNat)
  case atStart => exact ⟨0, Nat.zero_le _, rfl, by simp [evs], Below.refl _ _⟩
  case round =>
    obtain ⟨j, hj, rfl, hno, hb⟩ := hrel
    have BB := Lib.hid hb; have NO := Lib.hid hno
    clear hno
    by_cases hjl : j < L.length
    · have hjl' : (j : Int) < L.length := by omega
      obtain ⟨b, o, rfl, hlt, hr⟩ := E1.out.at hjl
      have hr2 := range_below (w := w1) hr hb
      obtain ⟨c0, c1, c2, c3, c4, c5, c6, c7⟩ := ev_cells hr2
      have DT := Lib.hid (dots_take L j hjl)
      have hin := Lib.hid (List.getElem_mem hjl)
      have hg1 := (hb.block g (Array.getElem?_eq_some_iff.1 HG.out).1).trans HG.out
      have HG1 := Lib.hid hg1
      clear hb hr hr2 hlt hg1
      obtain ⟨y, hy⟩ : ∃ y, L[j] = y := ⟨_, rfl⟩
      rw [hy] at c0 c1 c2 c3 c4 c5 c6 c7 DT hin
      clear hy
      obtain ⟨⟨r, n, t, kd, d, fl, tx, gn⟩, gp, gc⟩ := y
      simp only at c0 c1 c2 c3 c4 c5 c6 c7 DT
      have B3 := Lib.hid (BB.out.alloc BB.out.size (.cells #[.int .i64 r, .int .i64 n, .int .i64 t, .int .i64 kd, .string d, .int .i64 fl, .string tx, .slice gp gn.length gc] 35))
      have hg2 : (wr.alloc (.cells #[.int .i64 r, .int .i64 n, .int .i64 t, .int .i64 kd, .string d, .int .i64 fl, .string tx, .slice gp gn.length gc] 35)).heap[g]? = some (.cells #[.int .i64 d1, .int .i64 d2] 32 (0, 0)) := ((below_alloc wr (.cells #[.int .i64 r, .int .i64 n, .int .i64 t, .int .i64 kd, .string d, .int .i64 fl, .string tx, .slice gp gn.length gc] 35)).block g (Array.getElem?_eq_some_iff.1 HG1.out).1).trans HG1.out
      have k0 := (cell_of_row _ g 0 _ _ _ hg2).trans (show _ = some (Value.int .i64 d1) from rfl)
      have k1 := (cell_of_row _ g 1 _ _ _ hg2).trans (show _ = some (Value.int .i64 d2) from rfl)
      clear hg2
      have hq1 : ∀ w : World, (Op.equalIn 10000 32 (.agg #[.int .i64 r, .int .i64 n]) (.agg #[.int .i64 d1, .int .i64 d2])).run Try.prog w = .ok (eqDt (r, n) (d1, d2)) w := fun w => runEqDt (r, n) (d1, d2) w
      have hq2 : ∀ w : World, (binOp .eql 32 (.agg #[.int .i64 r, .int .i64 n]) (.agg #[.int .i64 d1, .int .i64 d2])).run Try.prog w = .ok (.bool (eqDt (r, n) (d1, d2))) w := fun w => eqlDt (r, n) (d1, d2) w
      cases hxy : eqDt (r, n) (d1, d2) with
      | true =>
        have e := (eqDt_iff (r, n) (d1, d2)).1 hxy
        have HY : Hid (decide ((d1, d2) ∈ (evs L).map Ev.dot) = true) := by
          refine Lib.hid (decide_eq_true ?_)
          rw [← e]
          exact List.mem_map.2 ⟨_, List.mem_map.2 ⟨_, hin.out, rfl⟩, rfl⟩
        rw [hxy] at hq1 hq2
        clear hxy e DT hin
        go_wp2
        go_ret
        exact ⟨by rw [← HYES.out, HY.out]; rfl, thenBelow B1.out B3.out⟩
      | false =>
        have NX : Hid ((d1, d2) ∉ (evs (L.take (j + 1))).map Ev.dot) := Lib.hid fun hm => by
          rw [DT.out] at hm
          rcases List.mem_append.1 hm with e | e
          · exact NO.out e
          · have e2 := List.mem_singleton.1 e
            rw [(eqDt_iff (r, n) (d1, d2)).2 e2.symm] at hxy; cases hxy
        rw [hxy] at hq1 hq2
        clear hxy DT hin
        go_wp2
        go_roundw
        case rel => exact ⟨j + 1, by omega, by go_num, NX.out, by simpa using B3.out⟩
        case measure => simp [intOf]; omega
    · obtain rfl : j = L.length := by omega
      have hjl' : ¬ ((L.length : Nat) : Int) < L.length := by omega
      rw [List.take_length] at NO
      have HY : Hid (decide ((d1, d2) ∈ (evs L).map Ev.dot) = false) := Lib.hid (decide_eq_false NO.out)
      go_wp2
      go_ret
      exact ⟨by rw [← HYES.out, HY.out]; rfl, thenBelow B1.out BB.out⟩
/-- a past that is handed back: these events, a new row of them, whose dots lie where they lay -/
def PastS (w : World) (src : List EvP) (kept : List Ev) (floor : Nat → Int) (e : Ending) (w' : World) : Prop := ∃ v K, e = .returned (.agg (pcs v floor)) ∧ w'.ownsRow w.heap.size 35 8 v K.length (ecl K) ∧ (∀ x ∈ K, x ∈ src) ∧ evs K = kept ∧ Below w.heap.size w w'
def EvsS (w : World) (src : List EvP) (kept : List Ev) (e : Ending) (w' : World) : Prop := ∃ v K, e = .returned v ∧ w'.ownsRow w.heap.size 35 8 v K.length (ecl K) ∧ (∀ x ∈ K, x ∈ src) ∧ evs K = kept ∧ Below w.heap.size w w'
set_option maxHeartbeats 8000000 in
set_option maxRecDepth 100000 in
theorem refPut1_is (p : Option Addr) (c : Nat) (L : List EvP) (x : EvP) (w : World) (h : EvsAt w p L) (hn : L.length ≤ 1000) (hp : p = none → c = 0) :
    Calls Try.prog 26 #[.slice p L.length c, .agg x.cells.toArray] w (EvsS w (L ++ [x]) (behindOf (evs L) [x.e])) := by
  have EV := Lib.hid h; have HP := Lib.hid hp
  clear h hp
  go_enter Try.func26, Try.ntmps26
  go_wp2_with (refine wpList_gbox rfl _ rfl x.cells.toArray rfl ?_)
  intro g w1 lg hg hb1
  have B1 := Lib.hid hb1
  have HG := Lib.hid hg
  have E1 := Lib.hid (EV.out.below hb1)
  clear hg hb1
  go_wp2_with (at_builtin; refine wpList_evs w1 rfl _ _ rfl w1.heap.size 0 [] (.slice none 0 0) rfl ⟨rfl, .inl ⟨rfl, rfl⟩⟩ p c L rfl E1.out HP.out (by omega) (Nat.le_refl _) ?_)
  intro v w2 o2 g2
  try simp only [Nat.zero_add, List.nil_append] at o2
  have B2 : Hid (Below w1.heap.size w1 w2) := Lib.hid ⟨g2.os, g2.tape, g2.output, g2.size, fun k hk => g2.block k hk (by simp [Value.ownBlock])⟩
  have O2 := Lib.hid o2
  have HG2 := Lib.hid ((B2.out.block g (Array.getElem?_eq_some_iff.1 HG.out).1).trans HG.out)
  have BW := Lib.hid (thenBelow B1.out B2.out)
  clear o2 g2
  obtain ⟨⟨r, n, t, kd, d, fl, tx, gn⟩, gp, gc⟩ := x
  simp only [EvP.cells] at HG HG2
  have k0 := (cell_of_row w2 g 0 _ _ _ HG2.out).trans (show _ = some (Value.int .i64 r) from rfl)
  have k1 := (cell_of_row w2 g 1 _ _ _ HG2.out).trans (show _ = some (Value.int .i64 n) from rfl)
  have RH := Lib.hid (refHasE_is p c L r n w2 (E1.out.below B2.out) hn)
  go_wp2_with fail
  refine RH.out.mono ?_
  rintro e w3 ⟨rfl, hb3⟩
  have BW3 := Lib.hid (thenBelow BW.out hb3)
  have O3 := Lib.hid (own_later O2.out hb3)
  have hz23 : w2.heap.size ≤ w3.heap.size := hb3.size
  have HG3 := Lib.hid ((hb3.block g (Array.getElem?_eq_some_iff.1 HG2.out).1).trans HG2.out)
  have hz3 : w.heap.size ≤ w1.heap.size := B1.out.size
  clear RH hb3 k0 k1
  have hbe : behindOf (evs L) [⟨r, n, t, kd, d, fl, tx, gn⟩] = addEv (evs L) ⟨r, n, t, kd, d, fl, tx, gn⟩ := rfl
  have HBE := Lib.hid hbe
  clear hbe
  cases hin : decide ((r, n) ∈ (evs L).map Ev.dot) with
  | true =>
    have SE : Hid (addEv (evs L) ⟨r, n, t, kd, d, fl, tx, gn⟩ = evs L) := Lib.hid (if_pos (by simpa [Ev.dot] using hin))
    clear hin
    go_wp2
    go_ret
    exact ⟨_, L, rfl, own_base O3.out hz3, fun y hy => List.mem_append_left _ hy, by rw [HBE.out, SE.out], BW3.out⟩
  | false =>
    have SE : Hid (addEv (evs L) ⟨r, n, t, kd, d, fl, tx, gn⟩ = evs L ++ [⟨r, n, t, kd, d, fl, tx, gn⟩]) := Lib.hid (if_neg (by simpa [Ev.dot] using hin))
    clear hin
    obtain ⟨q, cq, rfl⟩ := own_slice O3.out
    have k0 := (cell_of_row w3 g 0 _ _ _ HG3.out).trans (show _ = some (Value.int .i64 r) from rfl)
    have k1 := (cell_of_row w3 g 1 _ _ _ HG3.out).trans (show _ = some (Value.int .i64 n) from rfl)
    have k2 := (cell_of_row w3 g 2 _ _ _ HG3.out).trans (show _ = some (Value.int .i64 t) from rfl)
    have k3 := (cell_of_row w3 g 3 _ _ _ HG3.out).trans (show _ = some (Value.int .i64 kd) from rfl)
    have k4 := (cell_of_row w3 g 4 _ _ _ HG3.out).trans (show _ = some (Value.string d) from rfl)
    have k5 := (cell_of_row w3 g 5 _ _ _ HG3.out).trans (show _ = some (Value.int .i64 fl) from rfl)
    have k6 := (cell_of_row w3 g 6 _ _ _ HG3.out).trans (show _ = some (Value.string tx) from rfl)
    have k7 := (cell_of_row w3 g 7 _ _ _ HG3.out).trans (show _ = some (Value.slice gp gn.length gc) from rfl)
    have hz13 : w1.heap.size ≤ w3.heap.size := Nat.le_trans B2.out.size hz23
    go_wp2_with (at_builtin; refine wpList_ev w3 rfl _ _ rfl w1.heap.size L.length (ecl L) (.slice q L.length cq) rfl O3.out ⟨⟨r, n, t, kd, d, fl, tx, gn⟩, gp, gc⟩ rfl (by omega) hz13 ?_)
    intro v4 w4 o4 g4
    have BG := Lib.hid (BW3.out.trans (⟨g4.os, g4.tape, g4.output, g4.size, fun k hk => g4.block k (Nat.lt_of_lt_of_le hk BW3.out.size) (fun e => by have := (O3.out.lt k e.symm).1; omega)⟩ : Below w.heap.size w3 w4))
    have O4 := Lib.hid o4
    clear o4 g4 k0 k1 k2 k3 k4 k5 k6 k7
    go_wp2
    go_ret
    refine ⟨_, L ++ [⟨⟨r, n, t, kd, d, fl, tx, gn⟩, gp, gc⟩], rfl, ?_, fun y hy => hy, by rw [HBE.out, SE.out]; simp [evs], BG.out⟩
    rw [List.length_append, ecl_append]
    simpa [ecl] using own_base O4.out hz3
end Go.Proofs.Ytimfcedkmdbnfaa
