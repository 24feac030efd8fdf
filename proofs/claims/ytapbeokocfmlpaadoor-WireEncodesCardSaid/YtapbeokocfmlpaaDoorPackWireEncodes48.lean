/- The statement WireEncodes, proved for every input that its row reads: part 48 of 54. -/
import Derived.Test.YtapbeokocfmlpaaDoorPackWireEncodes45
import Derived.Deep.CutBlock
import Derived.Deep.DeepCutAuto
import Derived.Test.YtapbeokocfmlpaaDoorPackWireEncodes26
import Derived.Test.YtapbeokocfmlpaaDoorPackWireEncodes27
import Derived.Test.YtapbeokocfmlpaaDoorPackWireEncodes44
import Derived.Test.YtapbeokocfmlpaaDoorPackWireEncodes47
import Derived.Test.YtapbeokocfmlpaaDoorPackWireEncodes10
import Derived.Test.YtapbeokocfmlpaaDoorPackWireEncodes14
/- The document's Check of a message. -/
namespace Go.Proofs.YtapbeokocfmlpaaDoor
open Go Go.RowKit
set_option linter.unusedVariables false
set_option maxRecDepth 1000000

/-- all that a message that may be has -/
structure May (m : Mg) : Prop where
  src : 0 ≤ m.src ∧ m.src ≤ 63
  dst : 0 ≤ m.dst ∧ m.dst ≤ 63
  two : m.src ≠ m.dst
  ack : goodB m.ack = true
  base : goodB m.base = true
  floor : goodB m.floor = true
  few : m.E.length ≤ 1024
  evs : ∀ x ∈ m.E, chk x.e = 0
  kind : kindM m = true
theorem may_iff (m : Mg) : mayM m = true ↔ May m := by
  unfold mayM goM repB haveM
  simp only [Bool.and_eq_true, decide_eq_true_eq, List.all_eq_true, Bool.not_eq_true', decide_eq_false_iff_not]
  constructor
  · rintro ⟨⟨⟨a1, a2⟩, ⟨a3, a4⟩, a5, a6, a7, a8⟩, ⟨b1, b2⟩, c⟩
    exact ⟨⟨by omega, by omega⟩, ⟨by omega, by omega⟩, a5, a6, a7, a8, b1, b2, c⟩
  · rintro ⟨⟨a1, a2⟩, ⟨a3, a4⟩, a5, a6, a7, a8, b1, b2, c⟩
    exact ⟨⟨⟨by omega, by omega⟩, ⟨by omega, by omega⟩, a5, a6, a7, a8⟩, ⟨b1, b2⟩, c⟩
/-- what Check answers -/
noncomputable def mayE2 (m : Mg) : Int := if mayM m = true then 0 else 1
theorem mayE2_no {m : Mg} (h : ¬ May m) : mayE2 m = 1 := by unfold mayE2; rw [if_neg fun e => h ((may_iff m).1 e)]
theorem mayE2_yes {m : Mg} (h : May m) : mayE2 m = 0 := by unfold mayE2; rw [if_pos ((may_iff m).2 h)]
theorem builtV0 (w : World) : (Instr.build 23 #[]).run Tryd.prog w = .ok (.agg (vf fun _ => 0)) w := run_build w _ _ _ (by kernel_rfl)
set_option maxHeartbeats 8000000 in
theorem refCheck14_is (m : Mg) (w : World) (hE : EvsAt w m.ep m.E) (hL : WrsAt w m.sp m.L) : Calls Tryd.prog 10 #[.agg m.cells.toArray] w (Check1 w (mayE2 m)) := by
  have HE := Lib.hid hE; have HW := Lib.hid hL
  clear hE hL
  have NO := Lib.hid (fun h : ¬ May m => mayE2_no h)
  have YS := Lib.hid (fun h : May m => mayE2_yes h)
  obtain ⟨C, hC⟩ : ∃ C, mayE2 m = C := ⟨_, rfl⟩
  rw [hC] at NO YS ⊢
  clear hC
  have Q1 := Lib.hid (fun V : World => refGood_is m.ack V)
  have Q2 := Lib.hid (fun V : World => refGood_is m.base V)
  have Q3 := Lib.hid (fun V : World => refGood_is m.floor V)
  go_enter Tryd.func10, Tryd.ntmps10
  go_wp2_with (refine wpList_gbox rfl _ rfl m.cells.toArray rfl ?_)
  intro g w1 l1 h1 hb1
  have X1 : Hid (Mx w1 g m) := Lib.hid h1
  have B1 := Lib.hid hb1
  clear h1 hb1
  have k1 := X1.out.parts.src
  have k2 := X1.out.parts.dst
  have k5 := X1.out.parts.evs
  by_cases a1 : m.src < 0
  · obtain rfl : C = 1 := NO.out fun h => by have := h.src; omega
    go_wp2
    go_ret
    exact ⟨rfl, B1.out⟩
  by_cases a2 : m.src > 63
  · obtain rfl : C = 1 := NO.out fun h => by have := h.src; omega
    go_wp2
    go_ret
    exact ⟨rfl, B1.out⟩
  by_cases a3 : m.dst < 0
  · obtain rfl : C = 1 := NO.out fun h => by have := h.dst; omega
    go_wp2
    go_ret
    exact ⟨rfl, B1.out⟩
  by_cases a4 : m.dst > 63
  · obtain rfl : C = 1 := NO.out fun h => by have := h.dst; omega
    go_wp2
    go_ret
    exact ⟨rfl, B1.out⟩
  by_cases a5 : m.src = m.dst
  · obtain rfl : C = 1 := NO.out fun h => h.two a5
    have e5 : (m.src == m.dst) = true := beq_iff_eq.2 a5
    clear a5
    go_wp2
    go_ret
    exact ⟨rfl, B1.out⟩
  have e5 : (m.src == m.dst) = false := beq_eq_false_iff_ne.2 a5
  by_cases a6 : (m.E.length : Int) > 1024
  · obtain rfl : C = 1 := NO.out fun h => by have := h.few; omega
    go_wp2
    go_ret
    exact ⟨rfl, B1.out⟩
  have A3 := Lib.hid X1.out.parts.ack
  have FC := Lib.hid (And.intro a1 (And.intro a2 (And.intro a3 (And.intro a4 (And.intro a5 a6)))))
  go_wp2_with (refine wpList_gload rfl _ rfl g 3 rfl _ A3.out _ Tryd.underlying23 rfl (sizeVcl m.ack) ?_)
  refine (Q1.out w1).mono ?_
  rintro e w2 ⟨rfl, hb2⟩
  have X2 := Lib.hid (X1.out.later hb2); have B2 := Lib.hid (thenBelow B1.out hb2)
  clear hb2 X1 B1 k1 k2 k5 a1 a2 a3 a4 a5 a6 e5 A3 Q1
  cases hg1 : goodB m.ack with
  | false =>
    obtain rfl : C = 1 := NO.out fun h => by rw [h.ack] at hg1; cases hg1
    clear hg1
    go_wp2
    go_ret
    exact ⟨rfl, B2.out⟩
  | true =>
  have G1 := Lib.hid hg1
  clear hg1
  have A3 := Lib.hid X2.out.parts.base
  go_wp2_with (refine wpList_gloadG (by rfl) _ rfl g 67 rfl _ A3.out _ Tryd.underlying23 rfl (sizeVcl m.base) ?_)
  refine (Q2.out w2).mono ?_
  rintro e w3 ⟨rfl, hb3⟩
  have X3 := Lib.hid (X2.out.later hb3); have B3 := Lib.hid (thenBelow B2.out hb3)
  clear hb3 X2 B2 A3 Q2
  cases hg2 : goodB m.base with
  | false =>
    obtain rfl : C = 1 := NO.out fun h => by rw [h.base] at hg2; cases hg2
    clear hg2
    go_wp2
    go_ret
    exact ⟨rfl, B3.out⟩
  | true =>
  have G2 := Lib.hid hg2
  clear hg2
  have A3 := Lib.hid X3.out.parts.floor
  go_wp2_with (refine wpList_gloadG (by rfl) _ rfl g 197 rfl _ A3.out _ Tryd.underlying23 rfl (sizeVcl m.floor) ?_)
  refine (Q3.out w3).mono ?_
  rintro e w4 ⟨rfl, hb4⟩
  have X4 := Lib.hid (X3.out.later hb4); have B4 := Lib.hid (thenBelow B3.out hb4)
  clear hb4 X3 B3 A3 Q3
  cases hg3 : goodB m.floor with
  | false =>
    obtain rfl : C = 1 := NO.out fun h => by rw [h.floor] at hg3; cases hg3
    clear hg3
    go_wp2
    go_ret
    exact ⟨rfl, B4.out⟩
  | true =>
  have G3 := Lib.hid hg3
  clear hg3
  have k5 := X4.out.parts.evs
  go_wp2
  clear k5
  obtain ⟨EL, hEL⟩ : ∃ E, m.E = E := ⟨_, rfl⟩
  obtain ⟨ep, hep⟩ : ∃ q, m.ep = q := ⟨_, rfl⟩
  rw [hEL, hep] at HE
  have HEL := Lib.hid hEL
  have nE : EL.length ≤ 1024 := by have := FC.out.2.2.2.2.2; rw [hEL] at this; omega
  simp only [hEL, hep]
  go_loopw [57] (fun i wr => ∃ k : Nat, k ≤ EL.length ∧ i = .int .i64 k ∧ (∀ i (h : i < EL.length), i < k → chk EL[i].e = 0) ∧ Below w4.heap.size w4 wr) (fun i _ => EL.length - (RowKit.intOf i).toNat)
  case atStart => exact ⟨0, Nat.zero_le _, rfl, fun i _ h => by omega, Below.refl _ _⟩
  case round =>
    obtain ⟨k, hk, rfl, hall, hb⟩ := hrel
    have BB := Lib.hid (thenBelow B4.out hb); have B0 := Lib.hid hb; have HA := Lib.hid hall
    clear hall hb
    by_cases hkl : k < EL.length
    · have hkl' : (k : Int) < EL.length := by omega
      have HEr := Lib.hid (HE.out.below BB.out)
      obtain ⟨b, o, e9, hlt, hq⟩ := HEr.out.at hkl
      have OK := Lib.hid (HEr.out.ok _ (List.getElem_mem hkl))
      obtain ⟨x, hx⟩ : ∃ x, EL[k] = x := ⟨_, rfl⟩
      rw [hx] at hq OK
      have XC := Lib.hid hx
      have XM : Hid (x ∈ EL) := Lib.hid (by rw [← hx]; exact List.getElem_mem hkl)
      clear hx
      obtain ⟨c0, c1, c2, c3, c4, c5, c6, c7⟩ := ev_cells hq
      clear hq
      obtain ⟨D, hD⟩ : ∃ D, chk x.e = D := ⟨_, rfl⟩
      have CK : Hid (∀ V : World, Below wr.heap.size wr V → Calls Tryd.prog 27 #[.agg x.cells.toArray] V (Check1 V D)) := Lib.hid fun V hV => by rw [← hD]; exact refCheck_is x V (OK.out.below hV)
      have HD := Lib.hid hD
      clear hD OK
      obtain ⟨⟨r, n, t, kd, dd, fl, tx, gg⟩, gp, gc⟩ := x
      simp only at c0 c1 c2 c3 c4 c5 c6 c7
      have ba := below_alloc wr (.cells #[.int .i64 r, .int .i64 n, .int .i64 t, .int .i64 kd, .string dd, .int .i64 fl, .string tx, .slice gp gg.length gc] 55)
      have na := heap_alloc_new wr (.cells #[.int .i64 r, .int .i64 n, .int .i64 t, .int .i64 kd, .string dd, .int .i64 fl, .string tx, .slice gp gg.length gc] 55)
      have R4 : Hid ((wr.alloc (.cells #[.int .i64 r, .int .i64 n, .int .i64 t, .int .i64 kd, .string dd, .int .i64 fl, .string tx, .slice gp gg.length gc] 55)).rangeAt wr.heap.size 0 (EvP.cells ⟨⟨r, n, t, kd, dd, fl, tx, gg⟩, gp, gc⟩)) := Lib.hid (range_of_block na)
      have BA := Lib.hid ba
      have B5 := Lib.hid (thenBelow B0.out ba)
      clear ba na
      subst e9
      go_wp2_with (refine wpList_gload rfl _ rfl wr.heap.size 0 rfl _ R4.out _ Tryd.underlying55 rfl (sizeEv _) ?_)
      refine (CK.out _ BA.out).mono ?_
      rintro e w6 ⟨rfl, hb6⟩
      have B6 := Lib.hid (thenBelow B5.out hb6)
      clear hb6 c0 c1 c2 c3 c4 c5 c6 c7 CK R4 BA
      by_cases h0 : D = 0
      · subst h0
        have NA : Hid (∀ i (h : i < EL.length), i < k + 1 → chk EL[i].e = 0) := Lib.hid fun i h hi => by
          rcases Nat.lt_or_ge i k with h3 | h3
          · exact HA.out i h h3
          · obtain rfl : i = k := by omega
            rw [XC.out]; exact HD.out
        go_wp2
        go_roundw
        case rel => exact ⟨k + 1, by omega, by go_num, NA.out, B6.out⟩
        case measure => simp [RowKit.intOf]; omega
      · have hn : (D != 0) = true := by simpa using h0
        obtain rfl : C = 1 := NO.out fun h => h0 (by rw [← HD.out]; exact h.evs _ (by rw [HEL.out]; exact XM.out))
        clear h0
        go_wp2
        go_ret
        exact ⟨rfl, thenBelow B4.out B6.out⟩
    · obtain rfl : k = EL.length := by omega
      have hkl' : ¬ ((EL.length : Nat) : Int) < EL.length := by omega
      have CH : Hid (∀ x ∈ m.E, chk x.e = 0) := Lib.hid fun x hx => by
        rw [HEL.out] at hx
        obtain ⟨i, hi, rfl⟩ := List.getElem_of_mem hx
        exact HA.out i hi hi
      have XX := Lib.hid (X4.out.later B0.out)
      have VW : Hid (wr.rangeAt g 132 (scs m.seen (.slice m.sp m.L.length m.sc)).toList) := Lib.hid XX.out.parts.st
      have hsp : (scs m.seen (.slice m.sp m.L.length m.sc)).toList = (vf m.seen).toList ++ [.slice m.sp m.L.length m.sc] := by simp [scs]
      have rp := VW.out
      rw [hsp] at rp
      have VS : Hid (wr.rangeAt g 132 (vf m.seen).toList) := Lib.hid (range_app rp).1
      have ks : wr.cell? ⟨g, 196, none⟩ = some (.slice m.sp m.L.length m.sc) := by have := (range_app rp).2 0 _ rfl; rw [vfl_len] at this; exact this
      have VB := Lib.hid XX.out.parts.base; have VF := Lib.hid XX.out.parts.floor
      have kk := XX.out.parts.kind
      have ke := XX.out.parts.evs
      have NQS : Hid (∀ U : World, (binOp .neq 23 (.agg (vf m.seen)) (.agg (vf fun _ => 0))).run Tryd.prog U = .ok (.bool (!veq m.seen (fun _ => 0))) U) := Lib.hid fun U => vecI.neq _ _ U
      have NQF : Hid (∀ U : World, (binOp .neq 23 (.agg (vf m.floor)) (.agg (vf fun _ => 0))).run Tryd.prog U = .ok (.bool (!veq m.floor (fun _ => 0))) U) := Lib.hid fun U => vecI.neq _ _ U
      have NQB : Hid (∀ U : World, (binOp .neq 23 (.agg (vf m.base)) (.agg (vf fun _ => 0))).run Tryd.prog U = .ok (.bool (!veq m.base (fun _ => 0))) U) := Lib.hid fun U => vecI.neq _ _ U
      have MK : Hid (kindM m = true → May m) := Lib.hid fun hk => by
        obtain ⟨a1, a2, a3, a4, a5, a6⟩ := FC.out
        exact ⟨⟨by omega, by omega⟩, ⟨by omega, by omega⟩, a5, G1.out, G2.out, G3.out, by omega, CH.out, hk⟩
      clear rp hsp
      obtain ⟨ST, hST⟩ : ∃ S, (!veq m.seen (fun _ => 0) || (decide (0 < m.L.length) || !veq m.floor (fun _ => 0))) = S := ⟨_, rfl⟩
      obtain ⟨BZ, hBZ⟩ : ∃ z, veq m.base (fun _ => 0) = z := ⟨_, rfl⟩
      have HST := Lib.hid hST; have HBZ := Lib.hid hBZ
      have NOF : Hid (noFullM m = !ST) := Lib.hid (by unfold noFullM noState; rw [← hST]; cases veq m.seen (fun _ => 0) <;> cases veq m.floor (fun _ => 0) <;> by_cases hq : m.L.length = 0 <;> simp [hq, Nat.pos_iff_ne_zero])
      have NOB : Hid (noBaseM m = BZ) := Lib.hid hBZ
      clear hST hBZ
      obtain ⟨nL, hnL⟩ : ∃ n, m.L.length = n := ⟨_, rfl⟩
      obtain ⟨nM, hnM⟩ : ∃ n, m.E.length = n := ⟨_, rfl⟩
      rw [hnL] at ks; rw [hnM] at ke
      have NLH := Lib.hid hnL; have NMH := Lib.hid hnM
      rw [hnL] at HST
      clear hnL hnM
      have NQF2 : Hid (∀ U : World, (Op.equalIn 10000 23 (.agg (vf m.floor)) (.agg (vf fun _ => 0))).run Tryd.prog U = .ok (veq m.floor (fun _ => 0)) U) := Lib.hid fun U => vecI.equalIn 9998 _ _ U
      have NQS2 : Hid (∀ U : World, (Op.equalIn 10000 23 (.agg (vf m.seen)) (.agg (vf fun _ => 0))).run Tryd.prog U = .ok (veq m.seen (fun _ => 0)) U) := Lib.hid fun U => vecI.equalIn 9998 _ _ U
      have NQB2 : Hid (∀ U : World, (Op.equalIn 10000 23 (.agg (vf m.base)) (.agg (vf fun _ => 0))).run Tryd.prog U = .ok (veq m.base (fun _ => 0)) U) := Lib.hid fun U => vecI.equalIn 9998 _ _ U
      go_upto_region 11 with fail
      go_cut [5] (fun v wx => v = .bool ST ∧ wx = wr)
      case first =>
        clear ke kk NO YS MK NOF NOB HBZ NQB VW VB XX CH FC G1 G2 G3 HA HE HW BB B0 B4 X4
        cases hs0 : veq m.seen (fun _ => 0) with
        | false =>
          have NS := NQS.out; have NSe := NQS2.out
          rw [hs0] at NS NSe
          have HS0 := Lib.hid hs0
          clear hs0 NQS NQF
          go_wp2_with (first
          | refine wpList_pbuild (by rfl) _ rfl (vf fun _ => 0) (by simp only [List.map_toArray, List.map_nil]; exact builtV0 _) ?_
          | refine wpList_gload rfl _ rfl g 132 rfl _ VS.out _ Tryd.underlying23 rfl (sizeVcl m.seen) ?_
          | refine wpList_gloadG (by rfl) _ rfl g 197 rfl _ VF.out _ Tryd.underlying23 rfl (sizeVcl m.floor) ?_)
          go_meet
          exact ⟨by rw [← HST.out, HS0.out]; rfl, rfl⟩
        | true =>
          have NS := NQS.out; have NSe := NQS2.out
          rw [hs0] at NS NSe
          have HS0 := Lib.hid hs0
          clear hs0 NQS
          by_cases hl0 : 0 < nL
          · have hl1 : (nL : Int) > 0 := by omega
            have HL0 := Lib.hid hl0
            clear hl0 NQF
            go_wp2_with (first
          | refine wpList_pbuild (by rfl) _ rfl (vf fun _ => 0) (by simp only [List.map_toArray, List.map_nil]; exact builtV0 _) ?_
          | refine wpList_gload rfl _ rfl g 132 rfl _ VS.out _ Tryd.underlying23 rfl (sizeVcl m.seen) ?_
          | refine wpList_gloadG (by rfl) _ rfl g 197 rfl _ VF.out _ Tryd.underlying23 rfl (sizeVcl m.floor) ?_)
            go_meet
            exact ⟨by rw [← HST.out, HS0.out, decide_eq_true HL0.out]; rfl, rfl⟩
          · have hl1 : ¬ (nL : Int) > 0 := by omega
            have HL0 := Lib.hid hl0
            clear hl0
            obtain ⟨FZ, hFZ⟩ : ∃ z, veq m.floor (fun _ => 0) = z := ⟨_, rfl⟩
            have NF := NQF.out; have NFe := NQF2.out
            rw [hFZ] at NF NFe
            have HFZ := Lib.hid hFZ
            clear hFZ NQF
            go_wp2_with (first
          | refine wpList_pbuild (by rfl) _ rfl (vf fun _ => 0) (by simp only [List.map_toArray, List.map_nil]; exact builtV0 _) ?_
          | refine wpList_gload rfl _ rfl g 132 rfl _ VS.out _ Tryd.underlying23 rfl (sizeVcl m.seen) ?_
          | refine wpList_gloadG (by rfl) _ rfl g 197 rfl _ VF.out _ Tryd.underlying23 rfl (sizeVcl m.floor) ?_)
            go_meet
            exact ⟨by rw [← HST.out, HS0.out, decide_eq_false HL0.out, HFZ.out]; rfl, rfl⟩
      case rest =>
      obtain ⟨rfl, rfl⟩ := hcut
      have NB := NQB.out
      rw [HBZ.out] at NB
      clear NQB NQS NQF VS ks HST HBZ
      go_upto_region 13 with (first
        | refine wpList_pbuild (by rfl) _ rfl (vf fun _ => 0) (by simp only [List.map_toArray, List.map_nil]; exact builtV0 _) ?_
        | refine wpList_gload rfl _ rfl g 67 rfl _ VB.out _ Tryd.underlying23 rfl (sizeVcl m.base) ?_)
      clear NB VB VF
      by_cases k1 : m.kind = 1
      · have e1 : (m.kind == 1) = true := beq_iff_eq.2 k1
        cases ST with
        | true =>
          obtain rfl : C = 1 := NO.out fun h => by have hk := h.kind; unfold kindM at hk; rw [NOF.out, NOB.out, NMH.out] at hk; simp [k1] at hk
          go_wp2
          go_ret
          exact ⟨rfl, BB.out⟩
        | false =>
          cases BZ with
          | false =>
            obtain rfl : C = 1 := NO.out fun h => by have hk := h.kind; unfold kindM at hk; rw [NOF.out, NOB.out, NMH.out] at hk; simp [k1] at hk
            go_wp2
            go_ret
            exact ⟨rfl, BB.out⟩
          | true =>
            by_cases hE0 : nM = 0
            · have ee : ((nM : Int) == 0) = true := by rw [hE0]; rfl
              obtain rfl : C = 0 := YS.out (MK.out (by unfold kindM; rw [NOF.out, NOB.out, NMH.out]; simp [k1, hE0]))
              go_wp2
              go_ret
              exact ⟨rfl, BB.out⟩
            · have ee : ((nM : Int) == 0) = false := beq_eq_false_iff_ne.2 (by omega)
              obtain rfl : C = 1 := NO.out fun h => by have hk := h.kind; unfold kindM at hk; rw [NOF.out, NOB.out, NMH.out] at hk; simp [k1, hE0] at hk
              go_wp2
              go_ret
              exact ⟨rfl, BB.out⟩
      have e1 : (m.kind == 1) = false := beq_eq_false_iff_ne.2 k1
      by_cases k2 : m.kind = 2
      · have e2 : (m.kind == 2) = true := beq_iff_eq.2 k2
        cases ST with
        | true =>
          obtain rfl : C = 1 := NO.out fun h => by have hk := h.kind; unfold kindM at hk; rw [NOF.out, NOB.out, NMH.out] at hk; simp [k2] at hk
          go_wp2
          go_ret
          exact ⟨rfl, BB.out⟩
        | false =>
          by_cases hE0 : nM > 0
          · have ee : (nM : Int) > 0 := by omega
            obtain rfl : C = 0 := YS.out (MK.out (by unfold kindM; rw [NOF.out, NOB.out, NMH.out]; simp [k2, hE0]))
            go_wp2
            go_ret
            exact ⟨rfl, BB.out⟩
          · have ee : ¬ (nM : Int) > 0 := by omega
            obtain rfl : C = 1 := NO.out fun h => by have hk := h.kind; unfold kindM at hk; rw [NOF.out, NOB.out, NMH.out] at hk; simp [k2, hE0] at hk
            go_wp2
            go_ret
            exact ⟨rfl, BB.out⟩
      have e2 : (m.kind == 2) = false := beq_eq_false_iff_ne.2 k2
      by_cases k3 : m.kind = 3
      · have e3 : (m.kind == 3) = true := beq_iff_eq.2 k3
        cases BZ with
        | false =>
          obtain rfl : C = 1 := NO.out fun h => by have hk := h.kind; unfold kindM at hk; rw [NOF.out, NOB.out, NMH.out] at hk; simp [k3] at hk
          go_wp2
          go_ret
          exact ⟨rfl, BB.out⟩
        | true =>
          have CAN : Hid (∀ V : World, Below w.heap.size w V → Calls Tryd.prog 28 #[.agg (scs m.seen (.slice m.sp m.L.length m.sc))] V (RetBool V (canB m.seen m.L))) := Lib.hid fun V hV => refCan_is m.seen m.sp m.sc m.L V (HW.out.below hV)
          obtain ⟨CB, hcan⟩ : ∃ c, canB m.seen m.L = c := ⟨_, rfl⟩
          rw [hcan] at CAN
          have HCB := Lib.hid hcan
          clear hcan
          go_wp2_with (refine wpList_gloadG (by rfl) _ rfl g 132 rfl _ VW.out _ Tryd.underlying27 rfl (sizeStl _ _) ?_)
          refine (CAN.out _ BB.out).mono ?_
          rintro e w9 ⟨rfl, hb9⟩
          have B9 := Lib.hid (thenBelow BB.out hb9)
          clear hb9
          cases CB with
          | false =>
            obtain rfl : C = 1 := NO.out fun h => by have hk := h.kind; unfold kindM at hk; rw [NOF.out, NOB.out, NMH.out, HCB.out] at hk; simp [k3] at hk
            go_wp2
            go_ret
            exact ⟨rfl, B9.out⟩
          | true =>
            obtain rfl : C = 0 := YS.out (MK.out (by unfold kindM; rw [NOF.out, NOB.out, NMH.out, HCB.out]; simp [k3]))
            go_wp2
            go_ret
            exact ⟨rfl, B9.out⟩
      have e3 : (m.kind == 3) = false := beq_eq_false_iff_ne.2 k3
      obtain rfl : C = 1 := NO.out fun h => by have hk := h.kind; unfold kindM at hk; rw [NOF.out, NOB.out, NMH.out] at hk; simp [k1, k2, k3] at hk
      go_wp2
      go_ret
      exact ⟨rfl, BB.out⟩
end Go.Proofs.YtapbeokocfmlpaaDoor
/- The document's bytes of a past, and of a message. -/
namespace Go.Proofs.YtapbeokocfmlpaaDoor
open Go Go.RowKit
set_option linter.unusedVariables false
set_option maxRecDepth 1000000

theorem builtP13 (p : Option Addr) (n c : Nat) (f : Nat → Int) (w : World) : (Instr.build 49 #[(0, .slice p n c), (1, .agg (vf f))]).run Tryd.prog w = .ok (.agg (pcs (.slice p n c) f)) w := run_build w _ _ _ (by kernel_rfl)
set_option maxHeartbeats 8000000 in
theorem refPastPut_is (p : Option Addr) (c : Nat) (l : List UInt8) (ep : Option Addr) (ec : Nat) (E : List EvP) (F : Nat → Int) (w : World) (hb : Given w p c l) (hE : EvsAt w ep E) (hn : E.length ≤ 1024) (hlen : l.length ≤ 140737488000000) :
    Calls Tryd.prog 22 #[.slice p l.length c, .agg (pcs (.slice ep E.length ec) F)] w (RetOwn w 5 (l ++ vbytes F ++ evsB E)) := by
  have HE := Lib.hid hE; have HG := Lib.hid hb; have N4 := Lib.hid hn; have NL := Lib.hid hlen
  have VL := vbytes_len F
  clear hb hE hn
  go_enter Tryd.func22, Tryd.ntmps22
  go_wp2_with (refine wpList_gbox rfl _ rfl (pcs (.slice ep E.length ec) F) rfl ?_)
  intro g w1 l1 h1 hb1
  have X1 : Hid (Px w1 g (.slice ep E.length ec) F) := Lib.hid h1
  have B1 := Lib.hid hb1
  clear h1 hb1
  go_wp2_with fail
  rename_i K2 hK2
  have m0 : Px w1.drew g (.slice ep E.length ec) F ∧ Below w.heap.size w w1.drew := ⟨X1.out.later (Below.refl _ _).drew, B1.out.drew⟩
  refine rg_last (by kernel_rfl) rfl (S := fun U => Px U g (.slice ep E.length ec) F ∧ Below w.heap.size w U) ?_
  refine rgd_pure 0 (some 5) rfl rfl (.slice p l.length c) (by kernel_rfl) (by kernel_rfl) (by kernel_rfl) (fun _ _ _ _ h => h) (by kernel_rfl) (fun w => by kernel_rfl) m0 ?_
  refine rgd_pure 1 (some 6) rfl rfl (.pointer (some ⟨g, 1, none⟩)) (by kernel_rfl) (by kernel_rfl) (by kernel_rfl) (fun _ _ _ _ h => h) (by kernel_rfl) (fun w => by kernel_rfl) m0 ?_
  refine rgd_pureS 2 (some 7) rfl rfl (.agg (vf F)) (by kernel_rfl) (by kernel_rfl) (by kernel_rfl) (fun _ _ _ _ h => h) (by kernel_rfl) (fun U hU => exec_gload 23 _ rfl g 1 (by kernel_rfl) _ hU.1.floor Tryd.underlying23 rfl (sizeVcl F)) m0 ?_
  refine rgd_pure 4 (some 9) rfl rfl (.pointer (some ⟨g, 0, none⟩)) (by kernel_rfl) (by kernel_rfl) (by kernel_rfl) (fun _ _ _ _ h => h) (by kernel_rfl) (fun w => by kernel_rfl) m0 ?_
  refine rgd_pureS 5 (some 10) rfl rfl (.slice ep E.length ec) (by kernel_rfl) (by kernel_rfl) (by kernel_rfl) (fun _ _ _ _ h => h) (by kernel_rfl) (fun U hU => exec_load1 _ _ rfl Tryd.underlying24 rfl ⟨g, 0, none⟩ _ (by kernel_rfl) hU.1.slot) m0 ?_
  have kL4 := HG.out.below m0.2
  have n7 := NL.out
  refine rgd_call 3 (some 8) (by kernel_rfl) rfl rfl (by kernel_rfl) 19 (#[.slice p l.length c, .agg (vf F)]) (by kernel_rfl) (refVput_is p c l F _ kL4 (by omega)) ?_
  rintro e U5 hrU5
  obtain ⟨L5, hL5⟩ : ∃ X, X = l ++ vbytes F := ⟨_, rfl⟩
  have nL5 : L5.length ≤ 140737488010000 := by rw [hL5]; simp only [List.length_append]; omega
  rw [← hL5] at hrU5
  have HL5 : Hid (l ++ vbytes F = L5) := Lib.hid hL5.symm
  clear hL5
  obtain ⟨p5, q5, rfl, kL5, bL5⟩ := hrU5.given
  have m1 : Px U5 g (.slice ep E.length ec) F ∧ Below w.heap.size w U5 := ⟨m0.1.later bL5, thenBelow m0.2 bL5⟩
  refine ⟨_, rfl, m1, ?_⟩
  have n9 := evsB_len E
  have n8 := N4.out
  refine rgd_call 6 (some 11) (by kernel_rfl) rfl rfl (by kernel_rfl) 20 (#[.slice p5 L5.length q5, .slice ep E.length ec]) (by kernel_rfl) (refPutEvents_is p5 q5 L5 ep ec E _ kL5 (HE.out.below m1.2) N4.out (by omega)) ?_
  rintro e U6 hrU6
  obtain ⟨L6, hL6⟩ : ∃ X, X = L5 ++ evsB E := ⟨_, rfl⟩
  have nL6 : L6.length ≤ 281474978000000 := by rw [hL6]; simp only [List.length_append]; omega
  rw [← hL6] at hrU6
  have HL6 : Hid (L5 ++ evsB E = L6) := Lib.hid hL6.symm
  clear hL6
  obtain ⟨p6, q6, rfl, kL6, bL6⟩ := hrU6.given
  have m2 : Px U6 g (.slice ep E.length ec) F ∧ Below w.heap.size w U6 := ⟨m1.1.later bL6, thenBelow m1.2 bL6⟩
  refine ⟨_, rfl, m2, ?_⟩
  refine rgd_pure 7 (some 4) rfl rfl (.slice p6 L6.length q6) (by kernel_rfl) (by kernel_rfl) (by kernel_rfl) (fun _ _ _ _ h => h) (by kernel_rfl) (fun w => by kernel_rfl) m2 ?_
  have KE : K2 { tmps := #[.slice p l.length c, .agg (pcs (.slice ep E.length ec) F), undef, .pointer (some ⟨g, 0, none⟩), .slice p6 L6.length q6, .slice p l.length c, .pointer (some ⟨g, 1, none⟩), .agg (vf F), .slice p5 L5.length q5, .pointer (some ⟨g, 0, none⟩), .slice ep E.length ec, .slice p6 L6.length q6], defers := [] } U6 := by
    refine hK2 _ _ ?_
    have FO : Hid (RetOwn w 5 (l ++ vbytes F ++ evsB E) (.returned (.slice p6 L6.length q6)) U6) := Lib.hid (by rw [HL5.out, HL6.out]; exact hrU6.after m1.2)
    clear hK2 m0 m1 m2 kL4 kL5 kL6 bL5 bL6 hrU5 hrU6 X1 B1
    go_wp2
    go_ret
    exact FO.out
  exact wpAnyH_done (by kernel_rfl) (Eq.mp (by kernel_rfl) KE) _

/-- what the document's Encode answers -/
def EncR2 (w : World) (m : Mg) (e : Ending) (w' : World) : Prop :=
  (mayM m = true ∧ ∃ p c, e = .returned (.tuple #[.slice p (sealed (mgB m)).length c, .int .i64 0]) ∧ Lies w' p (sealed (mgB m)) ∧ Below w.heap.size w w') ∨
  (mayM m = false ∧ e = .returned (.tuple #[.slice none 0 0, .int .i64 1]) ∧ Below w.heap.size w w')
set_option maxHeartbeats 16000000 in
theorem refEncode14_is (m : Mg) (w : World) (hE : EvsAt w m.ep m.E) (hL : WrsAt w m.sp m.L) : Calls Tryd.prog 7 #[.agg m.cells.toArray] w (EncR2 w m) := by
  have HE := Lib.hid hE; have HW := Lib.hid hL
  clear hE hL
  have CK : Hid (∀ V : World, Below w.heap.size w V → Calls Tryd.prog 10 #[.agg m.cells.toArray] V (Check1 V (mayE2 m))) := Lib.hid fun V hV => refCheck14_is m V (HE.out.below hV) (HW.out.below hV)
  cases hM : mayM m with
  | false =>
    have e1 : mayE2 m = 1 := by unfold mayE2; rw [if_neg (by rw [hM]; decide)]
    rw [e1] at CK
    have HM := Lib.hid hM
    clear hM e1
    go_enter Tryd.func7, Tryd.ntmps7
    go_wp2_with (refine wpList_gbox rfl _ rfl m.cells.toArray rfl ?_)
    intro g w1 l1 h1 hb1
    have X1 : Hid (Mx w1 g m) := Lib.hid h1
    have B1 := Lib.hid hb1
    have W1 := Lib.hid X1.out.whole
    clear h1 hb1
    go_wp2_with (refine wpList_gload rfl _ rfl g 0 rfl _ W1.out _ Tryd.underlying29 rfl (sizeMg m) ?_)
    refine (CK.out w1 B1.out).mono ?_
    rintro e w2 ⟨rfl, hb2⟩
    have B2 := Lib.hid (thenBelow B1.out hb2)
    clear hb2 CK X1 B1 W1
    go_wp2
    go_ret2
    exact .inr ⟨HM.out, rfl, B2.out⟩
  | true =>
    have e1 : mayE2 m = 0 := by unfold mayE2; rw [if_pos hM]
    rw [e1] at CK
    have ML := mgB_len hM
    obtain ⟨⟨s1, s2⟩, ⟨d1, d2⟩, KD0⟩ := may_parts hM
    have NE0 : m.E.length ≤ 1024 := by unfold mayM haveM at hM; simp only [Bool.and_eq_true, decide_eq_true_eq] at hM; exact hM.2.1.1
    have KD := Lib.hid KD0; have NE := Lib.hid NE0; have HM := Lib.hid hM
    have WK : Hid ((Lit.int .i64 m.kind).wf = true) := Lib.hid (wf_ok (by rcases KD0 with h | h | ⟨h, _⟩ <;> omega))
    have WS : Hid ((Lit.int .i64 m.src).wf = true) := Lib.hid (wf_ok (by omega)); have WD : Hid ((Lit.int .i64 m.dst).wf = true) := Lib.hid (wf_ok (by omega))
    have e1 := enc_len m.kind.toNat; have e2 := enc_len m.src.toNat; have e3 := enc_len m.dst.toNat
    have e4 := vbytes_len m.ack; have e5 := vbytes_len m.base; have e6 := vbytes_len m.floor
    have e7 := evsB_len m.E
    clear hM KD0 s1 s2 d1 d2
    obtain ⟨X, hX⟩ : ∃ X, mgB m = X := ⟨_, rfl⟩
    have HX := Lib.hid hX
    rw [hX] at ML
    clear hX
    have FIN : Hid (∀ p c V, Lies V p (sealed X) → Below w.heap.size w V → EncR2 w m (.returned (.tuple #[.slice p (sealed X).length c, .int .i64 0])) V) := Lib.hid fun p c V h1 h2 => .inl ⟨HM.out, p, c, by rw [HX.out], by rw [HX.out]; exact h1, h2⟩
    go_enter Tryd.func7, Tryd.ntmps7
    go_wp2_with (refine wpList_gbox rfl _ rfl m.cells.toArray rfl ?_)
    intro g w1 l1 h1 hb1
    have X1 : Hid (Mx w1 g m) := Lib.hid h1
    have B1 := Lib.hid hb1
    have W1 := Lib.hid X1.out.whole
    clear h1 hb1
    go_wp2_with (refine wpList_gload rfl _ rfl g 0 rfl _ W1.out _ Tryd.underlying29 rfl (sizeMg m) ?_)
    refine (CK.out w1 B1.out).mono ?_
    rintro e w2 ⟨rfl, hb2⟩
    have X2 := Lib.hid (X1.out.later hb2); have B2 := Lib.hid (thenBelow B1.out hb2)
    have k1 := X2.out.parts.kind
    clear hb2 CK X1 B1 W1
    go_wp2_with fail
    refine (refNumW_any none 0 [] m.kind w2 ⟨Lies.nil _ _, Nat.le_refl _, fun _ => ⟨rfl, rfl⟩⟩ WK.out (by simp)).mono ?_
    intro e w3 hr3
    obtain ⟨L3, hL3⟩ : ∃ X, X = [] ++ Cod.enc m.kind.toNat := ⟨_, rfl⟩
    have nL3 : L3.length ≤ 9 := by rw [hL3]; simp only [List.length_append, List.length_nil]; omega
    rw [← hL3] at hr3
    have HL3 : Hid ([] ++ Cod.enc m.kind.toNat = L3) := Lib.hid hL3.symm
    clear hL3
    obtain ⟨p3, q3, rfl, g3, b3⟩ := hr3.given
    have X3 := Lib.hid (X2.out.later b3); have B3 := Lib.hid (thenBelow B2.out b3); have G3 := Lib.hid g3
    clear hr3 g3 b3 X2 B2
    have k2 := X3.out.parts.src
    clear k1
    go_wp2_with fail
    refine (refNumW_any p3 q3 L3 m.src w3 G3.out WS.out (by omega)).mono ?_
    intro e w4 hr4
    obtain ⟨L4, hL4⟩ : ∃ X, X = L3 ++ Cod.enc m.src.toNat := ⟨_, rfl⟩
    have nL4 : L4.length ≤ 18 := by rw [hL4]; simp only [List.length_append, List.length_nil]; omega
    rw [← hL4] at hr4
    have HL4 : Hid (L3 ++ Cod.enc m.src.toNat = L4) := Lib.hid hL4.symm
    clear hL4
    obtain ⟨p4, q4, rfl, g4, b4⟩ := hr4.given
    have X4 := Lib.hid (X3.out.later b4); have B4 := Lib.hid (thenBelow B3.out b4); have G4 := Lib.hid g4
    clear hr4 g4 b4 X3 B3 G3
    have k3 := X4.out.parts.dst
    clear k2
    go_wp2_with fail
    refine (refNumW_any p4 q4 L4 m.dst w4 G4.out WD.out (by omega)).mono ?_
    intro e w5 hr5
    obtain ⟨L5, hL5⟩ : ∃ X, X = L4 ++ Cod.enc m.dst.toNat := ⟨_, rfl⟩
    have nL5 : L5.length ≤ 27 := by rw [hL5]; simp only [List.length_append, List.length_nil]; omega
    rw [← hL5] at hr5
    have HL5 : Hid (L4 ++ Cod.enc m.dst.toNat = L5) := Lib.hid hL5.symm
    clear hL5
    obtain ⟨p5, q5, rfl, g5, b5⟩ := hr5.given
    have X5 := Lib.hid (X4.out.later b5); have B5 := Lib.hid (thenBelow B4.out b5); have G5 := Lib.hid g5
    clear hr5 g5 b5 X4 B4 G4
    have AK := Lib.hid X5.out.parts.ack
    clear k3
    go_wp2_with (refine wpList_gload rfl _ rfl g 3 rfl _ AK.out _ Tryd.underlying23 rfl (sizeVcl m.ack) ?_)
    refine (refVput_is p5 q5 L5 m.ack w5 G5.out (by omega)).mono ?_
    intro e w6 hr6
    obtain ⟨L6, hL6⟩ : ∃ X, X = L5 ++ vbytes m.ack := ⟨_, rfl⟩
    have nL6 : L6.length ≤ 1300 := by rw [hL6]; simp only [List.length_append, List.length_nil]; omega
    rw [← hL6] at hr6
    have HL6 : Hid (L5 ++ vbytes m.ack = L6) := Lib.hid hL6.symm
    clear hL6
    obtain ⟨p6, q6, rfl, g6, b6⟩ := hr6.given
    have X6 := Lib.hid (X5.out.later b6); have B6 := Lib.hid (thenBelow B5.out b6); have G6 := Lib.hid g6
    clear hr6 g6 b6 X5 B5 G5
    clear AK
    have HH : Hid (L6 = Cod.enc m.kind.toNat ++ Cod.enc m.src.toNat ++ Cod.enc m.dst.toNat ++ vbytes m.ack) := Lib.hid (by rw [← HL6.out, ← HL5.out, ← HL4.out, ← HL3.out, List.nil_append])
    have kk := X6.out.parts.kind
    rcases KD.out with k1 | k2 | ⟨k3, hcan⟩
    · have z2 : (m.kind == 2) = false := by rw [k1]; rfl
      have z3 : (m.kind == 3) = false := by rw [k1]; rfl
      have HF : L6 = X := by rw [HH.out, ← HX.out]; unfold mgB; rw [if_neg (by omega), if_neg (by omega), List.append_nil]
      subst HF
      clear k1 HX
      go_wp2_with fail
      refine (seal2_any p6 q6 L6 w6 G6.out.lies G6.out.none (by omega)).mono ?_
      rintro e w7 ⟨p7, c7, rfl, _, _, _, lies7, b7⟩
      have FO := Lib.hid (FIN.out p7 c7 w7 lies7 (thenBelow B6.out b7))
      clear lies7 b7
      go_wp2
      go_ret2
      exact FO.out
    · have z2 : (m.kind == 2) = true := by rw [k2]; rfl
      have z3 : (m.kind == 3) = false := by rw [k2]; rfl
      have HF : Hid (L6 ++ vbytes m.base ++ evsB m.E = X) := Lib.hid (by rw [HH.out, ← HX.out]; unfold mgB; rw [if_pos k2]; simp only [List.append_assoc])
      clear k2
      go_wp2_with fail
      rename_i K3 hK3
      have m0 : Mx w6.drew g m ∧ Below w.heap.size w w6.drew := ⟨X6.out.later (Below.refl _ _).drew, B6.out.drew⟩
      refine rg_calm (by kernel_rfl) rfl (S := fun U => Mx U g m ∧ Below w.heap.size w U) ?_
      refine rgd_pure 0 (some 26) rfl rfl (.slice p6 L6.length q6) (by kernel_rfl) (by kernel_rfl) (by kernel_rfl) (fun _ _ _ _ h => h) (by kernel_rfl) (fun w => by kernel_rfl) m0 ?_
      refine rgd_pure 1 (some 27) rfl rfl (.pointer (some ⟨g, 67, none⟩)) (by kernel_rfl) (by kernel_rfl) (by kernel_rfl) (fun _ _ _ _ h => h) (by kernel_rfl) (fun w => by kernel_rfl) m0 ?_
      refine rgd_pureS 2 (some 28) rfl rfl (.agg (vf m.base)) (by kernel_rfl) (by kernel_rfl) (by kernel_rfl) (fun _ _ _ _ h => h) (by kernel_rfl) (fun U hU => exec_gload 23 _ rfl g 67 (by kernel_rfl) _ hU.1.parts.base Tryd.underlying23 rfl (sizeVcl m.base)) m0 ?_
      refine rgd_pure 4 (some 30) rfl rfl (.pointer (some ⟨g, 131, none⟩)) (by kernel_rfl) (by kernel_rfl) (by kernel_rfl) (fun _ _ _ _ h => h) (by kernel_rfl) (fun w => by kernel_rfl) m0 ?_
      refine rgd_pureS 5 (some 31) rfl rfl (.slice m.ep m.E.length m.ec) (by kernel_rfl) (by kernel_rfl) (by kernel_rfl) (fun _ _ _ _ h => h) (by kernel_rfl) (fun U hU => exec_load1 _ _ rfl Tryd.underlying24 rfl ⟨g, 131, none⟩ _ (by kernel_rfl) hU.1.parts.evs) m0 ?_
      have kL6 := G6.out.below (Below.refl _ _).drew
      refine rgd_call 3 (some 29) (by kernel_rfl) rfl rfl (by kernel_rfl) 19 (#[.slice p6 L6.length q6, .agg (vf m.base)]) (by kernel_rfl) (refVput_is p6 q6 L6 m.base _ kL6 (by omega)) ?_
      rintro e U7 hrU7
      obtain ⟨L7, hL7⟩ : ∃ X, X = L6 ++ vbytes m.base := ⟨_, rfl⟩
      have nL7 : L7.length ≤ 2600 := by rw [hL7]; simp only [List.length_append]; omega
      rw [← hL7] at hrU7
      have HL7 : Hid (L6 ++ vbytes m.base = L7) := Lib.hid hL7.symm
      clear hL7
      obtain ⟨p7, q7, rfl, kL7, bL7⟩ := hrU7.given
      have m1 : Mx U7 g m ∧ Below w.heap.size w U7 := ⟨m0.1.later bL7, thenBelow m0.2 bL7⟩
      refine ⟨_, rfl, m1, ?_⟩
      have n8 := NE.out
      refine rgd_call 6 (some 32) (by kernel_rfl) rfl rfl (by kernel_rfl) 20 (#[.slice p7 L7.length q7, .slice m.ep m.E.length m.ec]) (by kernel_rfl) (refPutEvents_is p7 q7 L7 m.ep m.ec m.E _ kL7 (HE.out.below m1.2) NE.out (by omega)) ?_
      rintro e U8 hrU8
      obtain ⟨L8, hL8⟩ : ∃ X, X = L7 ++ evsB m.E := ⟨_, rfl⟩
      have nL8 : L8.length ≤ 4000000 := by rw [hL8]; simp only [List.length_append]; omega
      rw [← hL8] at hrU8
      have HL8 : Hid (L7 ++ evsB m.E = L8) := Lib.hid hL8.symm
      clear hL8
      obtain ⟨p8, q8, rfl, kL8, bL8⟩ := hrU8.given
      have m2 : Mx U8 g m ∧ Below w.heap.size w U8 := ⟨m1.1.later bL8, thenBelow m1.2 bL8⟩
      refine ⟨_, rfl, m2, ?_⟩
      refine rgd_pure 7 (some 4) rfl rfl (.slice p8 L8.length q8) (by kernel_rfl) (by kernel_rfl) (by kernel_rfl) (fun _ _ _ _ h => h) (by kernel_rfl) (fun w => by kernel_rfl) m2 ?_
      have KE3 : K3 { tmps := #[.agg m.cells.toArray, .pointer (some ⟨g, 0, none⟩), .slice none 0 0, .int .i64 0, .slice p8 L8.length q8, .agg m.cells.toArray, .int .i64 0, .bool false, .pointer (some ⟨g, 0, none⟩), .int .i64 m.kind, .slice p3 L3.length q3, .slice p3 L3.length q3, .pointer (some ⟨g, 1, none⟩), .int .i64 m.src, .slice p4 L4.length q4, .slice p4 L4.length q4, .pointer (some ⟨g, 2, none⟩), .int .i64 m.dst, .slice p5 L5.length q5, .slice p5 L5.length q5, .pointer (some ⟨g, 3, none⟩), .agg (vf m.ack), .slice p6 L6.length q6, .pointer (some ⟨g, 0, none⟩), .int .i64 m.kind, .bool true, .slice p6 L6.length q6, .pointer (some ⟨g, 67, none⟩), .agg (vf m.base), .slice p7 L7.length q7, .pointer (some ⟨g, 131, none⟩), .slice m.ep m.E.length m.ec, .slice p8 L8.length q8, undef, undef, undef, undef, undef, undef, undef, undef, undef, undef, undef, undef, undef, undef, undef, undef], defers := [] } U8 := by
        refine hK3 _ _ ?_
        have HF2 : L8 = X := by rw [← HF.out, HL7.out, HL8.out]
        subst HF2
        have X8 := Lib.hid m2.1; have B8 := Lib.hid m2.2; have G8 := Lib.hid kL8
        have kk := X8.out.parts.kind
        clear hK3 m0 m1 m2 kL6 kL7 kL8 bL7 bL8 hrU7 hrU8 HX HF
        go_wp2_with fail
        refine (seal2_any p8 q8 L8 U8 G8.out.lies G8.out.none (by omega)).mono ?_
        rintro e w7 ⟨p7, c7, rfl, _, _, _, lies7, b7⟩
        have FO := Lib.hid (FIN.out p7 c7 w7 lies7 (thenBelow B8.out b7))
        clear lies7 b7
        go_wp2
        go_ret2
        exact FO.out
      exact wpAnyH_done (by kernel_rfl) (Eq.mp (by kernel_rfl) KE3) _
    · have z2 : (m.kind == 2) = false := by rw [k3]; rfl
      have z3 : (m.kind == 3) = true := by rw [k3]; rfl
      have HF : Hid (L6 ++ stB m.seen m.L ++ vbytes m.floor ++ evsB m.E = X) := Lib.hid (by rw [HH.out, ← HX.out]; unfold mgB; rw [if_neg (by omega), if_pos k3]; simp only [List.append_assoc])
      have HC := Lib.hid hcan
      have nS : (stB m.seen m.L).length ≤ 8700000 := by
        have h1 := vbytes_len m.seen; have h2 := enc_len m.L.length
        have h3 := wts_len m.L fun y hy => small_of ((can_iff.1 hcan).fine y hy).1
        have h4 := (can_iff.1 hcan).len
        unfold stB
        simp only [List.length_append]; omega
      clear k3 hcan
      have SW := Lib.hid X6.out.parts.st
      go_wp2_with (refine wpList_gload rfl _ rfl g 132 rfl _ SW.out _ Tryd.underlying27 rfl (sizeStl _ _) ?_)
      refine (refPutState_is p6 q6 L6 m.seen m.sp m.sc m.L w6 G6.out (HW.out.below B6.out) HC.out (by omega)).mono ?_
      intro e w7 hr7
      obtain ⟨L7, hL7⟩ : ∃ X, X = L6 ++ stB m.seen m.L := ⟨_, rfl⟩
      have nL7 : L7.length ≤ 8702000 := by rw [hL7]; simp only [List.length_append]; omega
      rw [← hL7] at hr7
      have HL7 : Hid (L6 ++ stB m.seen m.L = L7) := Lib.hid hL7.symm
      clear hL7
      obtain ⟨p7, q7, rfl, g7, b7⟩ := hr7.given
      have X7 := Lib.hid (X6.out.later b7); have B7 := Lib.hid (thenBelow B6.out b7); have G7 := Lib.hid g7
      clear hr7 g7 b7 X6 B6 G6 SW kk
      have ke := X7.out.parts.evs
      have FL := Lib.hid X7.out.parts.floor
      go_wp2_with (first
        | refine wpList_pbuild (by rfl) _ rfl (pcs (.slice m.ep m.E.length m.ec) m.floor) (by simp only [List.map_toArray, List.map_cons, List.map_nil]; exact builtP13 _ _ _ _ _) ?_
        | refine wpList_gload rfl _ rfl g 197 rfl _ FL.out _ Tryd.underlying23 rfl (sizeVcl m.floor) ?_)
      refine (refPastPut_is p7 q7 L7 m.ep m.ec m.E m.floor w7 G7.out (HE.out.below B7.out) NE.out (by omega)).mono ?_
      intro e w8 hr8
      have HF2 : L7 ++ vbytes m.floor ++ evsB m.E = X := by rw [← HF.out, ← HL7.out]
      rw [HF2] at hr8
      obtain ⟨p8, q8, rfl, g8, b8⟩ := hr8.given
      have B8 := Lib.hid (thenBelow B7.out b8); have G8 := Lib.hid g8
      clear hr8 g8 b8 ke FL HF2 HF X7 B7 G7
      go_wp2_with fail
      refine (seal2_any p8 q8 X w8 G8.out.lies G8.out.none (by omega)).mono ?_
      rintro e w9 ⟨p9, c9, rfl, _, _, _, lies9, b9⟩
      have FO := Lib.hid (FIN.out p9 c9 w9 lies9 (thenBelow B8.out b9))
      clear lies9 b9
      go_wp2
      go_ret2
      exact FO.out
end Go.Proofs.YtapbeokocfmlpaaDoor
/- The walk of WireEncodes. -/
namespace Go.Proofs.YtapbeokocfmlpaaDoor
open Go Go.RowKit
set_option linter.unusedVariables false
set_option maxRecDepth 1000000

theorem exec_eqlB14 {o : Oper} {a : Act} (yt : TypeId) (x y : Operand) (ho : o.op = .binOp .eql 4 x y yt) (X : Bool) (hx : a.eval x = .bool X) (hy : a.eval y = .bool X) (w : World) :
    (execOp a.eval o).run Tryd.prog w = .ok (.value (.bool true)) w := by
  have hb : ∀ w : World, (binOp .eql 4 (.bool X) (.bool X)).run Tryd.prog w = .ok (.bool true) w := fun w => by cases X <;> kernel_rfl
  unfold execOp
  simp only [ho, hx, hy]
  refine run_value_of ?_
  rw [Sem.run_bind]
  have hg : (eqGuard .eql 4 x y (.bool X) (.bool X)).run Tryd.prog w = .ok () w := by
    unfold eqGuard
    go_simp
  rw [hg]
  exact hb w
/-- what both Encodes answer, in one form -/
noncomputable def encQ (m : Mg) : List UInt8 := if mayM m = true then sealed (mgB m) else []
def EncB (w : World) (Q : List UInt8) (E : Int) (e : Ending) (w' : World) : Prop :=
  ∃ p c, e = .returned (.tuple #[.slice p Q.length c, .int .i64 E]) ∧ Lies w' p Q ∧ Below w.heap.size w w'
theorem EncR.both {w : World} {m : Mg} {e : Ending} {w' : World} (h : EncR w m e w') : EncB w (encQ m) (mayE m) e w' := by
  rcases h with ⟨hM, p, c, rfl, ho, hb⟩ | ⟨hM, rfl, hb⟩
  · obtain ⟨_, p', c', hv, _, _, lies, _⟩ := own_lies ho
    simp only [Value.slice.injEq] at hv
    obtain ⟨rfl, -, rfl⟩ := hv
    exact ⟨p, c, by unfold encQ mayE; rw [if_pos hM, if_pos hM], by unfold encQ; rw [if_pos hM]; exact lies, hb⟩
  · have hM2 : ¬ mayM m = true := by rw [hM]; decide
    exact ⟨none, 0, by unfold encQ mayE; rw [if_neg hM2, if_neg hM2]; rfl, by unfold encQ; rw [if_neg hM2]; exact Lies.nil _ _, hb⟩
theorem EncR2.both {w : World} {m : Mg} {e : Ending} {w' : World} (h : EncR2 w m e w') : EncB w (encQ m) (mayE m) e w' := by
  rcases h with ⟨hM, p, c, rfl, lies, hb⟩ | ⟨hM, rfl, hb⟩
  · exact ⟨p, c, by unfold encQ mayE; rw [if_pos hM, if_pos hM], by unfold encQ; rw [if_pos hM]; exact lies, hb⟩
  · have hM2 : ¬ mayM m = true := by rw [hM]; decide
    exact ⟨none, 0, by unfold encQ mayE; rw [if_neg hM2, if_neg hM2]; rfl, by unfold encQ; rw [if_neg hM2]; exact Lies.nil _ _, hb⟩
set_option maxHeartbeats 16000000 in
theorem wireEncodes_walk (m x : Mg) (W : World) (hE : EvsAt W m.ep m.E) (hL : WrsAt W m.sp m.L) (hE2 : EvsAt W x.ep x.E) (hL2 : WrsAt W x.sp x.L) (hS : Shapes W) (hT : Table W) :
    Calls Tryd.prog 3 #[.agg m.cells.toArray, .agg x.cells.toArray] W (Yes W) := by
  have HE := Lib.hid hE; have HW := Lib.hid hL; have HE2 := Lib.hid hE2; have HW2 := Lib.hid hL2; have HS := Lib.hid hS; have HT := Lib.hid hT
  clear hE hL hE2 hL2 hS hT
  obtain ⟨Q, hQ⟩ : ∃ Q, encQ m = Q := ⟨_, rfl⟩
  obtain ⟨E, hE0⟩ : ∃ E, mayE m = E := ⟨_, rfl⟩
  have EN : Hid (∀ V : World, Below W.heap.size W V → Calls Tryd.prog 6 #[.agg m.cells.toArray] V (EncB V Q E)) := Lib.hid fun V hV => by rw [← hQ, ← hE0]; exact (encode_is m V (HE.out.below hV) (HW.out.below hV) (HS.out.below hV) (HT.out.below hV)).mono fun e w' h => h.both
  have EN2 : Hid (∀ V : World, Below W.heap.size W V → Calls Tryd.prog 7 #[.agg m.cells.toArray] V (EncB V Q E)) := Lib.hid fun V hV => by rw [← hQ, ← hE0]; exact (refEncode14_is m V (HE.out.below hV) (HW.out.below hV)).mono fun e w' h => h.both
  have CK : Hid (∀ V : World, Below W.heap.size W V → Calls Tryd.prog 9 #[.agg m.cells.toArray] V (Check1 V E)) := Lib.hid fun V hV => by rw [← hE0]; exact wireCheck_is m V (HE.out.below hV) (HW.out.below hV) (HS.out.below hV)
  have CK2 : Hid (∀ V : World, Below W.heap.size W V → Calls Tryd.prog 10 #[.agg m.cells.toArray] V (Check1 V E)) := Lib.hid fun V hV => by rw [← hE0]; exact refCheck14_is m V (HE.out.below hV) (HW.out.below hV)
  have SM := Lib.hid (fun V (hV : Below W.heap.size W V) => smallM_is m V (HE.out.below hV) (HW.out.below hV))
  have SX := Lib.hid (fun V (hV : Below W.heap.size W V) => smallM_is x V (HE2.out.below hV) (HW2.out.below hV))
  have AW := Lib.hid (fun V (hV : Below W.heap.size W V) => awake14 V (HS.out.below hV) (HT.out.below hV))
  clear hQ hE0
  go_enter Tryd.func3, Tryd.ntmps3
  go_wp2_with (refine wpList_gbox rfl _ rfl m.cells.toArray rfl ?_)
  intro g w1 l1 h1 hb1
  have X1 : Hid (Mx w1 g m) := Lib.hid h1
  have B1 := Lib.hid hb1
  clear h1 hb1
  go_wp2_with (refine wpList_gbox rfl _ rfl x.cells.toArray rfl ?_)
  intro g2 w2 l2 h2 hb2
  have X2 := Lib.hid (X1.out.later hb2); have Y2 : Hid (Mx w2 g2 x) := Lib.hid h2
  have B2 := Lib.hid (thenBelow B1.out hb2)
  clear h2 hb2 X1 B1
  have W2 := Lib.hid X2.out.whole
  go_wp2_with (refine wpList_gload rfl _ rfl g 0 rfl _ W2.out _ Tryd.underlying29 rfl (sizeMg m) ?_)
  refine (SM.out w2 B2.out).mono ?_
  rintro e w3 ⟨b3, rfl, hs3, hb3⟩
  have X3 := Lib.hid (X2.out.later hb3); have Y3 := Lib.hid (Y2.out.later hb3); have B3 := Lib.hid (thenBelow B2.out hb3)
  clear hb3 X2 Y2 B2 W2 SM
  cases b3 with
  | false =>
    clear hs3
    go_wp2_with fail
    refine (AW.out w3 B3.out).mono ?_
    rintro e w99 ⟨rfl, hb99⟩
    have B99 := Lib.hid (thenBelow B3.out hb99)
    clear hb99 AW
    go_wp2
    go_ret
    exact ⟨rfl, B99.out⟩
  | true =>
  have S3 := Lib.hid (hs3 rfl)
  have W3 := Lib.hid Y3.out.whole
  clear hs3
  go_wp2_with (refine wpList_gloadG (by rfl) _ rfl g2 0 rfl _ W3.out _ Tryd.underlying29 rfl (sizeMg x) ?_)
  refine (SX.out w3 B3.out).mono ?_
  rintro e w4 ⟨b4, rfl, hs4, hb4⟩
  have X4 := Lib.hid (X3.out.later hb4); have Y4 := Lib.hid (Y3.out.later hb4); have B4 := Lib.hid (thenBelow B3.out hb4)
  clear hb4 X3 Y3 B3 W3 SX
  cases b4 with
  | false =>
    clear hs4
    go_wp2_with fail
    refine (AW.out w4 B4.out).mono ?_
    rintro e w99 ⟨rfl, hb99⟩
    have B99 := Lib.hid (thenBelow B4.out hb99)
    clear hb99 AW
    go_wp2
    go_ret
    exact ⟨rfl, B99.out⟩
  | true =>
  have S4 := Lib.hid (hs4 rfl)
  clear hs4
  have SA : Hid (∀ V : World, Below W.heap.size W V → Calls Tryd.prog 11 #[.agg m.cells.toArray, .agg x.cells.toArray] V (Tells V (m.Same x))) := Lib.hid fun V hV => wireSameA_is m x V (HE.out.below hV) (HE2.out.below hV) (HW.out.below hV) (HW2.out.below hV) (by have := S3.out.1; omega) (by have := S4.out.1; omega) (fun y hy => by have := S3.out.2.1 y hy; omega) (fun y hy => by have := S4.out.2.1 y hy; omega) (by have := S3.out.2.2; omega)
  have SA2 : Hid (∀ V : World, Below W.heap.size W V → Calls Tryd.prog 12 #[.agg m.cells.toArray, .agg x.cells.toArray] V (Tells V (m.Same x))) := Lib.hid fun V hV => refSame14_is m x V (HE.out.below hV) (HE2.out.below hV) (HW.out.below hV) (HW2.out.below hV) (by have := S3.out.1; omega) (by have := S4.out.1; omega) (fun y hy => by have := S3.out.2.1 y hy; omega) (fun y hy => by have := S4.out.2.1 y hy; omega) (by have := S3.out.2.2; omega)
  have W4 := Lib.hid X4.out.whole
  go_wp2_with (refine wpList_gload rfl _ rfl g 0 rfl _ W4.out _ Tryd.underlying29 rfl (sizeMg m) ?_)
  refine (EN.out w4 B4.out).mono ?_
  rintro e w5 ⟨p5, c5, rfl, le5, hb5⟩
  have X5 := Lib.hid (X4.out.later hb5); have Y5 := Lib.hid (Y4.out.later hb5); have B5 := Lib.hid (thenBelow B4.out hb5); have L5 := Lib.hid le5
  clear hb5 le5 X4 Y4 B4 W4 EN
  have W5 := Lib.hid X5.out.whole
  go_wp2_with (refine wpList_gload rfl _ rfl g 0 rfl _ W5.out _ Tryd.underlying29 rfl (sizeMg m) ?_)
  refine (EN2.out w5 B5.out).mono ?_
  rintro e w6 ⟨p6, c6, rfl, le6, hb6⟩
  have X6 := Lib.hid (X5.out.later hb6); have Y6 := Lib.hid (Y5.out.later hb6); have B6 := Lib.hid (thenBelow B5.out hb6); have L6 := Lib.hid le6
  have L5' := Lib.hid (L5.out.below hb6)
  clear hb6 le6 X5 Y5 B5 W5 EN2 L5
  go_wp2_with fail
  rename_i K2 hK2
  have m0 : (Mx w6.drew g m ∧ Mx w6.drew g2 x) ∧ Below W.heap.size W w6.drew := ⟨⟨X6.out.later (Below.refl _ _).drew, Y6.out.later (Below.refl _ _).drew⟩, B6.out.drew⟩
  refine rg_last (by kernel_rfl) rfl (S := fun U => (Mx U g m ∧ Mx U g2 x) ∧ Below W.heap.size W U) ?_
  refine rgd_pure 0 (some 28) rfl rfl (.slice p5 Q.length c5) (by kernel_rfl) (by kernel_rfl) (by kernel_rfl) (fun _ _ _ _ h => h) (by kernel_rfl) (fun w => by kernel_rfl) m0 ?_
  refine rgd_pure 1 (some 29) rfl rfl (.slice p6 Q.length c6) (by kernel_rfl) (by kernel_rfl) (by kernel_rfl) (fun _ _ _ _ h => h) (by kernel_rfl) (fun w => by kernel_rfl) m0 ?_
  refine rgd_call 2 (some 30) (by kernel_rfl) rfl rfl (by kernel_rfl) 8 (#[.slice p5 Q.length c5, .slice p6 Q.length c6]) (by kernel_rfl) (equal_any p5 p6 _ _ c5 c6 Q Q _ (L5'.out.below (Below.refl _ _).drew) (L6.out.below (Below.refl _ _).drew) rfl rfl) ?_
  rintro e U1 ⟨rfl, rfl⟩
  rw [show (Q == Q) = true from beq_self_eq_true Q]
  refine ⟨_, rfl, m0, ?_⟩
  refine rgd_pure 3 (some 31) rfl rfl (.bool true) (by kernel_rfl) (by kernel_rfl) (by kernel_rfl) (fun _ _ _ _ h => h) (by kernel_rfl) (fun w => by kernel_rfl) m0 ?_
  refine rgd_pure 4 (some 32) rfl rfl (.int .i64 E) (by kernel_rfl) (by kernel_rfl) (by kernel_rfl) (fun _ _ _ _ h => h) (by kernel_rfl) (fun w => by kernel_rfl) m0 ?_
  refine rgd_pure 5 (some 33) rfl rfl (.int .i64 E) (by kernel_rfl) (by kernel_rfl) (by kernel_rfl) (fun _ _ _ _ h => h) (by kernel_rfl) (fun w => by kernel_rfl) m0 ?_
  refine rgd_pure 6 (some 34) rfl rfl (.bool true) (by kernel_rfl) (by kernel_rfl) (by kernel_rfl) (fun _ _ _ _ h => h) (by kernel_rfl) (exec_eqlI _ _ _ _ rfl E (by kernel_rfl) (by kernel_rfl)) m0 ?_
  refine rgd_pure 7 (some 35) rfl rfl (.bool true) (by kernel_rfl) (by kernel_rfl) (by kernel_rfl) (fun _ _ _ _ h => h) (by kernel_rfl) (fun w => by kernel_rfl) m0 ?_
  refine rgd_pure 8 (some 36) rfl rfl (.bool true) (by kernel_rfl) (by kernel_rfl) (by kernel_rfl) (fun _ _ _ _ h => h) (by kernel_rfl) (fun w => by kernel_rfl) m0 ?_
  refine rgd_pureS 9 (some 37) rfl rfl (.agg m.cells.toArray) (by kernel_rfl) (by kernel_rfl) (by kernel_rfl) (fun _ _ _ _ h => h) (by kernel_rfl) (fun U hU => exec_gload 29 _ rfl g 0 (by kernel_rfl) _ hU.1.1.whole Tryd.underlying29 rfl (sizeMg m)) m0 ?_
  refine rgd_pureS 11 (some 39) rfl rfl (.agg m.cells.toArray) (by kernel_rfl) (by kernel_rfl) (by kernel_rfl) (fun _ _ _ _ h => h) (by kernel_rfl) (fun U hU => exec_gload 29 _ rfl g 0 (by kernel_rfl) _ hU.1.1.whole Tryd.underlying29 rfl (sizeMg m)) m0 ?_
  refine rgd_call 10 (some 38) (by kernel_rfl) rfl rfl (by kernel_rfl) 9 (#[.agg m.cells.toArray]) (by kernel_rfl) (CK.out _ m0.2) ?_
  rintro e U2 ⟨rfl, hU2⟩
  have m1 : (Mx U2 g m ∧ Mx U2 g2 x) ∧ Below W.heap.size W U2 := ⟨⟨m0.1.1.later hU2, m0.1.2.later hU2⟩, thenBelow m0.2 hU2⟩
  refine ⟨_, rfl, m1, ?_⟩
  refine rgd_call 12 (some 40) (by kernel_rfl) rfl rfl (by kernel_rfl) 10 (#[.agg m.cells.toArray]) (by kernel_rfl) (CK2.out _ m1.2) ?_
  rintro e U3 ⟨rfl, hU3⟩
  have m2 : (Mx U3 g m ∧ Mx U3 g2 x) ∧ Below W.heap.size W U3 := ⟨⟨m1.1.1.later hU3, m1.1.2.later hU3⟩, thenBelow m1.2 hU3⟩
  refine ⟨_, rfl, m2, ?_⟩
  refine rgd_pure 13 (some 41) rfl rfl (.bool true) (by kernel_rfl) (by kernel_rfl) (by kernel_rfl) (fun _ _ _ _ h => h) (by kernel_rfl) (exec_eqlI _ _ _ _ rfl E (by kernel_rfl) (by kernel_rfl)) m2 ?_
  refine rgd_pure 14 (some 42) rfl rfl (.bool true) (by kernel_rfl) (by kernel_rfl) (by kernel_rfl) (fun _ _ _ _ h => h) (by kernel_rfl) (fun w => by kernel_rfl) m2 ?_
  refine rgd_pure 15 (some 43) rfl rfl (.bool true) (by kernel_rfl) (by kernel_rfl) (by kernel_rfl) (fun _ _ _ _ h => h) (by kernel_rfl) (fun w => by kernel_rfl) m2 ?_
  refine rgd_pureS 16 (some 44) rfl rfl (.agg m.cells.toArray) (by kernel_rfl) (by kernel_rfl) (by kernel_rfl) (fun _ _ _ _ h => h) (by kernel_rfl) (fun U hU => exec_gload 29 _ rfl g 0 (by kernel_rfl) _ hU.1.1.whole Tryd.underlying29 rfl (sizeMg m)) m2 ?_
  refine rgd_pureS 17 (some 45) rfl rfl (.agg x.cells.toArray) (by kernel_rfl) (by kernel_rfl) (by kernel_rfl) (fun _ _ _ _ h => h) (by kernel_rfl) (fun U hU => exec_gload 29 _ rfl g2 0 (by kernel_rfl) _ hU.1.2.whole Tryd.underlying29 rfl (sizeMg x)) m2 ?_
  refine rgd_pureS 19 (some 47) rfl rfl (.agg m.cells.toArray) (by kernel_rfl) (by kernel_rfl) (by kernel_rfl) (fun _ _ _ _ h => h) (by kernel_rfl) (fun U hU => exec_gload 29 _ rfl g 0 (by kernel_rfl) _ hU.1.1.whole Tryd.underlying29 rfl (sizeMg m)) m2 ?_
  refine rgd_pureS 20 (some 48) rfl rfl (.agg x.cells.toArray) (by kernel_rfl) (by kernel_rfl) (by kernel_rfl) (fun _ _ _ _ h => h) (by kernel_rfl) (fun U hU => exec_gload 29 _ rfl g2 0 (by kernel_rfl) _ hU.1.2.whole Tryd.underlying29 rfl (sizeMg x)) m2 ?_
  refine rgd_call 18 (some 46) (by kernel_rfl) rfl rfl (by kernel_rfl) 11 (#[.agg m.cells.toArray, .agg x.cells.toArray]) (by kernel_rfl) (SA.out _ m2.2) ?_
  rintro e U4 ⟨b9, rfl, hb9, hU4⟩
  have m3 : (Mx U4 g m ∧ Mx U4 g2 x) ∧ Below W.heap.size W U4 := ⟨⟨m2.1.1.later hU4, m2.1.2.later hU4⟩, thenBelow m2.2 hU4⟩
  refine ⟨_, rfl, m3, ?_⟩
  refine rgd_call 21 (some 49) (by kernel_rfl) rfl rfl (by kernel_rfl) 12 (#[.agg m.cells.toArray, .agg x.cells.toArray]) (by kernel_rfl) (SA2.out _ m3.2) ?_
  rintro e U5 ⟨b10, rfl, hb10, hU5⟩
  obtain rfl : b10 = b9 := by cases b9 <;> cases b10 <;> simp_all
  have m4 : (Mx U5 g m ∧ Mx U5 g2 x) ∧ Below W.heap.size W U5 := ⟨⟨m3.1.1.later hU5, m3.1.2.later hU5⟩, thenBelow m3.2 hU5⟩
  refine ⟨_, rfl, m4, ?_⟩
  refine rgd_pure 22 (some 50) rfl rfl (.bool true) (by kernel_rfl) (by kernel_rfl) (by kernel_rfl) (fun _ _ _ _ h => h) (by kernel_rfl) (exec_eqlB14 _ _ _ rfl b10 (by kernel_rfl) (by kernel_rfl)) m4 ?_
  refine rgd_pure 23 (some 51) rfl rfl (.bool true) (by kernel_rfl) (by kernel_rfl) (by kernel_rfl) (fun _ _ _ _ h => h) (by kernel_rfl) (fun w => by kernel_rfl) m4 ?_
  refine rgd_pure 24 (some 52) rfl rfl (.bool true) (by kernel_rfl) (by kernel_rfl) (by kernel_rfl) (fun _ _ _ _ h => h) (by kernel_rfl) (fun w => by kernel_rfl) m4 ?_
  refine rgd_call 25 (some 53) (by kernel_rfl) rfl rfl (by kernel_rfl) 5 (#[]) (by kernel_rfl) (AW.out _ m4.2) ?_
  rintro e U6 ⟨rfl, hU6⟩
  have m5 : (Mx U6 g m ∧ Mx U6 g2 x) ∧ Below W.heap.size W U6 := ⟨⟨m4.1.1.later hU6, m4.1.2.later hU6⟩, thenBelow m4.2 hU6⟩
  refine ⟨_, rfl, m5, ?_⟩
  refine rgd_pure 26 (some 54) rfl rfl (.bool true) (by kernel_rfl) (by kernel_rfl) (by kernel_rfl) (fun _ _ _ _ h => h) (by kernel_rfl) (fun w => by kernel_rfl) m5 ?_
  refine rgd_pure 27 (some 4) rfl rfl (.bool true) (by kernel_rfl) (by kernel_rfl) (by kernel_rfl) (fun _ _ _ _ h => h) (by kernel_rfl) (fun w => by kernel_rfl) m5 ?_
  have KE : K2 { tmps := #[.agg m.cells.toArray, .agg x.cells.toArray, .pointer (some ⟨g, 0, none⟩), .pointer (some ⟨g2, 0, none⟩), .bool true, .slice p5 Q.length c5, .int .i64 E, .slice p6 Q.length c6, .int .i64 E, .agg m.cells.toArray, .bool true, .bool false, .bool false, .agg x.cells.toArray, .bool true, .bool false, .bool false, undef, .tuple #[.slice p5 Q.length c5, .int .i64 E], .agg m.cells.toArray, .tuple #[.slice p5 Q.length c5, .int .i64 E], .slice p5 Q.length c5, .int .i64 E, .tuple #[.slice p6 Q.length c6, .int .i64 E], .agg m.cells.toArray, .tuple #[.slice p6 Q.length c6, .int .i64 E], .slice p6 Q.length c6, .int .i64 E, .slice p5 Q.length c5, .slice p6 Q.length c6, .bool true, .bool true, .int .i64 E, .int .i64 E, .bool true, .bool true, .bool true, .agg m.cells.toArray, .int .i64 E, .agg m.cells.toArray, .int .i64 E, .bool true, .bool true, .bool true, .agg m.cells.toArray, .agg x.cells.toArray, .bool b10, .agg m.cells.toArray, .agg x.cells.toArray, .bool b10, .bool true, .bool true, .bool true, .bool true, .bool true], defers := [] } U6 := by
    refine hK2 _ _ ?_
    have BF := Lib.hid m5.2
    clear hK2 m0 m1 m2 m3 m4 m5
    go_wp2
    go_ret
    exact ⟨rfl, BF.out⟩
  exact wpAnyH_done (by kernel_rfl) (Eq.mp (by kernel_rfl) KE) _
end Go.Proofs.YtapbeokocfmlpaaDoor
