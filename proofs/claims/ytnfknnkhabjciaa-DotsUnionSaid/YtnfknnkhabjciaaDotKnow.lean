/- Knows, own and the document's; Whole. -/
import Derived.Test.YtnfknnkhabjciaaDotFuns
namespace Go.Proofs.Ytnfknnkhabjciaa
open Go Go.RowKit
set_option linter.unusedVariables false

set_option maxHeartbeats 4000000 in
set_option maxRecDepth 100000 in
theorem knows_is (F : Nat → Int) (p : Option Addr) (c : Nat) (l : List Dt) (d : Dt) (w : World) (h : DRow w p l) (hlen : l.length ≤ 10000) :
    Calls Try.prog 10 #[.agg (ccs F (.slice p l.length c)), .agg (dcs d.1 d.2)] w fun e w' => e = .returned (.bool (knowsB F l d)) ∧ Below w.heap.size w w' := by
  have H := Lib.hid h
  clear h
  have HA := Lib.hid (fun W => has_is F d.1 d.2 W)
  have VL := Lib.hid (fun W => valid_is d.1 d.2 W)
  have HK : Hid (knowsB F l d = (hasB F d.1 d.2 || (vldB d.1 d.2 && l.contains d))) := rfl
  go_enter Try.func10, Try.ntmps10
  go_wp2_with (refine wpList_gbox rfl _ rfl (ccs F (.slice p l.length c)) rfl ?_)
  intro g1 w1 l1 h1 hb1
  have C1 : Hid (Cx w1 g1 F (.slice p l.length c)) := h1
  have B1 := Lib.hid hb1; have H1 := Lib.hid (H.out.below hb1)
  clear h1 hb1
  go_wp2_with (refine wpList_gbox rfl _ rfl (dcs d.1 d.2) rfl ?_)
  intro g2 w2 l2 h2 hb2
  have C2 := Lib.hid (C1.out.later hb2); have R2 := Lib.hid (range_of_block h2)
  have B2 := Lib.hid (thenBelow B1.out hb2); have H2 := Lib.hid (H1.out.below hb2)
  clear h2 hb2
  go_wp2_with (first | refine wpList_vmid vecI rfl _ rfl g1 0 rfl _ C2.out.range ?_ | refine wpList_gload rfl _ rfl g2 0 rfl _ R2.out _ Try.underlying28 rfl (sizeDl d.1 d.2) ?_)
  refine (HA.out _).mono ?_
  rintro e w3 ⟨rfl, hb3⟩
  have C3 := Lib.hid (C2.out.later hb3); have R3 := Lib.hid (range_below R2.out hb3); have B3 := Lib.hid (thenBelow B2.out hb3); have H3 := Lib.hid (H2.out.below hb3)
  clear hb3
  cases hh : hasB F d.1 d.2 with
  | true =>
    rw [hh, Bool.true_or] at HK
    clear hh
    go_wp2
    go_ret
    exact ⟨ret_bool (by rw [HK.out]), B3.out⟩
  | false =>
    rw [hh, Bool.false_or] at HK
    rw [hh] at HA
    clear hh
    go_wp2_with (first | refine wpList_gloadG (by rfl) _ rfl g2 0 rfl _ R3.out _ Try.underlying28 rfl (sizeDl d.1 d.2) ?_)
    refine (VL.out _).mono ?_
    rintro e w4 ⟨rfl, hb4⟩
    have C4 := Lib.hid (C3.out.later hb4); have R4 := Lib.hid (range_below R3.out hb4); have B4 := Lib.hid (thenBelow B3.out hb4); have H4 := Lib.hid (H3.out.below hb4)
    clear hb4
    cases hv : vldB d.1 d.2 with
    | false =>
      rw [hv, Bool.false_and] at HK
      clear hv
      go_wp2
      go_ret
      exact ⟨ret_bool (by rw [HK.out]), B4.out⟩
    | true =>
      rw [hv, Bool.true_and] at HK
      rw [hv] at VL
      clear hv
      have s0 := C4.out.slot
      have CO := Lib.hid (containsD_is p c l d w4 H4.out hlen)
      go_wp2_with (first | refine wpList_gloadG (by rfl) _ rfl g2 0 rfl _ R4.out _ Try.underlying28 rfl (sizeDl d.1 d.2) ?_)
      refine CO.out.mono ?_
      rintro e w5 ⟨rfl, hb5⟩
      have B5 := Lib.hid (thenBelow B4.out hb5)
      clear hb5 s0
      go_wp2
      go_ret
      exact ⟨ret_bool (by rw [HK.out]; first | rfl | rw [Bool.eq_iff_iff, decide_eq_true_eq, List.contains_iff_mem]), B5.out⟩

theorem fieldC1 (G : Nat → Int) (v : Value) (w : World) : (Instr.field 26 (.agg (ccs G v)) 1).run Try.prog w = .ok v w := by
  have h64 : (ccs G v)[64]? = some v := by
    have := Array.getElem?_push_size (xs := vf G) (x := v)
    rw [vf_size] at this; exact this
  simp only [Instr.field, Sem.run_bind, run_underlying Try.underlying26, Result.andThen_ok]
  have hag : (isAgg 24).run Try.prog w = .ok false w := Try.isAgg24 w
  simp [asAgg, Go.part, Sem.run_bind, hag, Result.andThen, h64]
theorem fieldC0 (G : Nat → Int) (v : Value) (w : World) : (Instr.field 26 (.agg (ccs G v)) 0).run Try.prog w = .ok (.agg (vf G)) w := by
  have he : (ccs G v).extract 0 64 = vf G := by
    unfold ccs
    apply Array.ext_getElem?
    intro i
    rw [Array.getElem?_extract]
    by_cases h : i < 64
    · rw [if_pos (by simp [vf_size]; omega), Nat.zero_add, Array.getElem?_push_lt (by rw [vf_size]; exact h), Array.getElem?_eq_getElem (by rw [vf_size]; exact h)]
    · rw [if_neg (by simp [vf_size]; omega), vf_none G i (by omega)]
  simp only [Instr.field, Sem.run_bind, run_underlying Try.underlying26, Result.andThen_ok]
  have hag : (isAgg 23).run Try.prog w = .ok true w := Try.isAgg23 w
  have hsz : (Go.sizeOf 23).run Try.prog w = .ok 64 w := Try.sizeOf23 w
  simp [asAgg, Go.part, Sem.run_bind, hag, hsz, Result.andThen, he]

/-- Whole: nothing stands behind the vector -/
def WholeR (F : Nat → Int) (l : List Dt) (b : Bool) : Prop := ∃ G o, IsTidy F l G o ∧ b = decide (o.length = 0)
set_option maxHeartbeats 4000000 in
set_option maxRecDepth 100000 in
theorem whole_is (F : Nat → Int) (p : Option Addr) (c : Nat) (l : List Dt) (w : World) (h : DotsAt w p l) (hlen : l.length ≤ 1000) :
    Calls Try.prog 12 #[.agg (ccs F (.slice p l.length c))] w fun e w' => ∃ b, e = .returned (.bool b) ∧ WholeR F l b ∧ Below w.heap.size w w' := by
  have H := Lib.hid h
  clear h
  go_enter Try.func12, Try.ntmps12
  go_wp2_with (refine wpList_gbox rfl _ rfl (ccs F (.slice p l.length c)) rfl ?_)
  intro g1 w1 l1 h1 hb1
  have C1 : Hid (Cx w1 g1 F (.slice p l.length c)) := h1
  have B1 := Lib.hid hb1
  have T := Lib.hid (tidyD_is F p c l w1 (H.out.below hb1) hlen)
  clear h1 hb1
  go_wp2_with (first | refine wpList_gload rfl _ rfl g1 0 rfl _ (range_of_block C1.out) _ Try.underlying26 rfl (by rw [Array.length_toList]; exact sizeC _ _) ?_)
  refine T.out.mono ?_
  rintro e w2 ⟨G, o, v, hI, rfl, hown, hb2⟩
  obtain ⟨pv, cv, rfl⟩ := own_shape hown
  have B2 := Lib.hid (thenBelow B1.out hb2)
  have WR : Hid (WholeR F l (decide (o.length = 0))) := ⟨G, o, hI, rfl⟩
  clear hI hown hb2 T
  have hf := fun w => fieldC1 G (.slice pv o.length cv) w
  go_wp2
  go_ret
  refine ⟨decide (o.length = 0), ret_bool ?_, WR.out, B2.out⟩
  first
  | rfl
  | (rw [Bool.eq_iff_iff]; simp)

set_option maxHeartbeats 4000000 in
set_option maxRecDepth 100000 in
theorem refKnows_is (F : Nat → Int) (p : Option Addr) (c : Nat) (l : List Dt) (d : Dt) (w : World) (h : DRow w p l) (hlen : l.length ≤ 10000) :
    Calls Try.prog 11 #[.agg (ccs F (.slice p l.length c)), .agg (dcs d.1 d.2)] w fun e w' => e = .returned (.bool (knowsB F l d)) ∧ Below w.heap.size w w' := by
  have H := Lib.hid h
  clear h
  have HA := Lib.hid (fun W => refHas_is F d.1 d.2 W)
  have VL := Lib.hid (fun W => refValid_is d.1 d.2 W)
  have HK : Hid (knowsB F l d = (hasB F d.1 d.2 || (vldB d.1 d.2 && l.contains d))) := rfl
  go_enter Try.func11, Try.ntmps11
  go_wp2_with (refine wpList_gbox rfl _ rfl (ccs F (.slice p l.length c)) rfl ?_)
  intro g1 w1 l1 h1 hb1
  have C1 : Hid (Cx w1 g1 F (.slice p l.length c)) := h1
  have B1 := Lib.hid hb1; have H1 := Lib.hid (H.out.below hb1)
  clear h1 hb1
  go_wp2_with (refine wpList_gbox rfl _ rfl (dcs d.1 d.2) rfl ?_)
  intro g2 w2 l2 h2 hb2
  have C2 := Lib.hid (C1.out.later hb2); have R2 := Lib.hid (range_of_block h2)
  have B2 := Lib.hid (thenBelow B1.out hb2); have H2 := Lib.hid (H1.out.below hb2)
  have hg2 : g2 < w2.heap.size := (Array.getElem?_eq_some_iff.1 h2).1
  clear h2 hb2
  go_wp2_with (first | refine wpList_vmid vecI rfl _ rfl g1 0 rfl _ C2.out.range ?_ | refine wpList_gload rfl _ rfl g2 0 rfl _ R2.out _ Try.underlying28 rfl (sizeDl d.1 d.2) ?_)
  refine (HA.out _).mono ?_
  rintro e w3 ⟨rfl, hb3⟩
  have C3 := Lib.hid (C2.out.later hb3); have R3 := Lib.hid (range_below R2.out hb3); have B3 := Lib.hid (thenBelow B2.out hb3); have H3 := Lib.hid (H2.out.below hb3)
  have hg3 : g2 < w3.heap.size := Nat.lt_of_lt_of_le hg2 hb3.size
  clear hb3 hg2
  cases hh : hasB F d.1 d.2 with
  | true =>
    rw [hh, Bool.true_or] at HK
    clear hh
    go_wp2
    go_ret
    exact ⟨ret_bool (by rw [HK.out]), B3.out⟩
  | false =>
    rw [hh, Bool.false_or] at HK
    rw [hh] at HA
    clear hh
    have s0 := C3.out.slot
    go_wp2
    clear s0
    go_loopw [14] (fun i wr => ∃ k : Nat, k ≤ l.length ∧ i = .int .i64 k ∧ (vldB d.1 d.2 = true → d ∉ l.take k) ∧ Below w3.heap.size w3 wr) (fun i _ => l.length - (intOf i).toNat)
    case atStart => exact ⟨0, Nat.zero_le _, rfl, fun _ h => by simp at h, Below.refl _ _⟩
    case round =>
      obtain ⟨k, hk, rfl, hno, hb⟩ := hrel
      have NO := Lib.hid hno; have B := Lib.hid (thenBelow B3.out hb); have B' := Lib.hid hb
      by_cases hkl : k < l.length
      · have hkl' : (k : Int) < l.length := by omega
        have hln : l ≠ [] := by intro e; rw [e, List.length_nil] at hkl; omega
        obtain ⟨b, o, rfl, hr⟩ := (H3.out.below hb) hln
        obtain ⟨d1, d2⟩ := dcl_get l k hkl
        have r1 := hr _ _ d1; have r2 := hr _ _ d2
        have hn1 := take_next l k hkl
        have hmem : l[k] ∈ l := List.getElem_mem hkl
        have RR := Lib.hid (range_below R3.out hb)
        obtain ⟨x, hx⟩ : ∃ x, x = l[k] := ⟨_, rfl⟩
        rw [← hx] at r1 r2 hn1 hmem
        have N1 := Lib.hid hn1; have MM := Lib.hid hmem
        have SR : Hid (wr.rangeAt b (o + k * 2) (dcs x.1 x.2).toList) := fun j u hu => by
          match j, hu with
          | 0, hu => simp [dcs] at hu; subst hu; exact r1
          | 1, hu => simp [dcs] at hu; subst hu; rw [Nat.add_assoc]; exact r2
          | j + 2, hu => simp [dcs] at hu
        have hgw : g2 < wr.heap.size := Nat.lt_of_lt_of_le hg3 hb.size
        clear hno hb hr d1 d2 r1 r2 hn1 hx hmem
        go_wp2_with (first | refine wpList_gload rfl _ rfl b (o + k * 2) rfl _ SR.out _ Try.underlying28 rfl (sizeDl x.1 x.2) ?_ | refine wpList_galloc _ zeroD rfl rfl ?_)
        intro g6 w9 l9 h9 hb9
        have B9 := Lib.hid (thenBelow B.out hb9); have B9' := Lib.hid (thenBelow B'.out hb9); have R9 := Lib.hid (range_below RR.out hb9)
        have lw6 := Nat.le_trans B'.out.size l9
        have lw7 := Nat.le_trans B.out.size l9
        have hg26 : g2 < g6 := Nat.lt_of_lt_of_le hgw l9
        clear hb9
        go_wp2_with (refine wpList_gstore rfl _ _ rfl g6 rfl (dcs x.1 x.2) rfl _ _ h9 (sizeD x.1 x.2) rfl (dcs_one x.1 x.2) ?_)
        intro wa ha ga
        have BA := Lib.hid (B9.out.trans (grown_below ga B9.out.size lw7)); have BA' := Lib.hid (B9'.out.trans (grown_below ga B9'.out.size lw6))
        have RA : Hid (wa.rangeAt g2 0 (dcs d.1 d.2).toList) := fun j u hu => ga.cell (R9.out j u hu) (by simp; omega)
        have RX := Lib.hid (range_of_block ha)
        clear ha ga h9
        have hq1 : ∀ w : World, (Op.equalIn 10000 28 (.agg (dcs x.1 x.2)) (.agg (dcs d.1 d.2))).run Try.prog w = .ok (eqD x d) w := fun w => runEqD x d w
        have hq2 : ∀ w : World, (binOp .eql 28 (.agg (dcs x.1 x.2)) (.agg (dcs d.1 d.2))).run Try.prog w = .ok (.bool (eqD x d)) w := fun w => eqAtD.1 x d w
        cases hxy : eqD x d with
        | true =>
          obtain rfl := (eqD_iff x d).1 hxy
          rw [hxy] at hq1 hq2
          clear hxy
          go_wp2_with (first | refine wpList_gload rfl _ rfl g6 0 rfl _ RX.out _ Try.underlying28 rfl (sizeDl x.1 x.2) ?_ | refine wpList_gload rfl _ rfl g2 0 rfl _ RA.out _ Try.underlying28 rfl (sizeDl x.1 x.2) ?_ | refine wpList_gloadG (by rfl) _ rfl g2 0 rfl _ RA.out _ Try.underlying28 rfl (sizeDl x.1 x.2) ?_)
          refine (VL.out _).mono ?_
          rintro e wb ⟨rfl, hbb⟩
          have BB := Lib.hid (thenBelow BA.out hbb); have BB' := Lib.hid (thenBelow BA'.out hbb)
          clear hbb hq1 hq2
          cases hv : vldB x.1 x.2 with
          | true =>
            have HY : Hid (knowsB F l x = true) := by
              show knowsB F l x = true
              rw [HK.out, hv, Bool.true_and, List.contains_iff_mem]; exact MM.out
            clear hv
            go_wp2
            go_ret
            exact ⟨ret_bool (by rw [HY.out]), BB.out⟩
          | false =>
            have NX : Hid (vldB x.1 x.2 = true → x ∉ l.take (k + 1)) := fun h => by rw [hv] at h; cases h
            clear hv
            go_wp2
            go_roundw
            case rel => exact ⟨k + 1, by omega, by go_num, NX.out, BB'.out⟩
            case measure => simp [intOf]; omega
        | false =>
          have hne : ¬ x = d := fun e => by rw [(eqD_iff x d).2 e] at hxy; cases hxy
          have NX : Hid (vldB d.1 d.2 = true → d ∉ l.take (k + 1)) := fun h hm => by
            rw [N1.out] at hm
            rcases List.mem_append.1 hm with e | e
            · exact NO.out h e
            · exact hne (List.mem_singleton.1 e).symm
          rw [hxy] at hq1 hq2
          clear hxy hne
          go_wp2_with (first | refine wpList_gload rfl _ rfl g6 0 rfl _ RX.out _ Try.underlying28 rfl (sizeDl x.1 x.2) ?_ | refine wpList_gload rfl _ rfl g2 0 rfl _ RA.out _ Try.underlying28 rfl (sizeDl d.1 d.2) ?_)
          go_roundw
          case rel => exact ⟨k + 1, by omega, by go_num, NX.out, BA'.out⟩
          case measure => simp [intOf]; omega
      · have hkl' : ¬ (k : Int) < l.length := by omega
        have HY : Hid (knowsB F l d = false) := by
          show knowsB F l d = false
          rw [HK.out]
          cases hv : vldB d.1 d.2 with
          | false => rfl
          | true =>
            have := NO.out hv
            rw [List.take_of_length_le (by omega)] at this
            rw [Bool.true_and, ← Bool.not_eq_true, List.contains_iff_mem]; exact this
        clear hno hb
        go_wp2
        go_ret
        exact ⟨ret_bool (by rw [HY.out]), B.out⟩
end Go.Proofs.Ytnfknnkhabjciaa
