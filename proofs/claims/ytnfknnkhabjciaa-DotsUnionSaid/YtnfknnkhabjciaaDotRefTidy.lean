/- The document's own Tidy. -/
import Derived.Test.YtnfknnkhabjciaaDotKnow
import Derived.Test.YtnfknnkhabjciaaDotPass
import Derived.Test.YtnfknnkhabjciaaDotApp
namespace Go.Proofs.Ytnfknnkhabjciaa
open Go Go.RowKit
set_option linter.unusedVariables false

theorem Cx.congr {w : World} {g : Nat} {f f' : Nat → Int} {v : Value} (h : Cx w g f v) (he : ∀ i, i < 64 → f i = f' i) : Cx w g f' v := by
  unfold Cx at *
  rw [h]
  congr 2
  unfold ccs
  rw [vf_congr he]
theorem builtC0 (w : World) : (Instr.build 26 #[]).run Try.prog w = .ok (.agg (ccs (fun _ => 0) (.slice none 0 0))) w := by
  unfold ccs; rw [vf_zero]; kernel_rfl

set_option maxHeartbeats 16000000 in
set_option maxRecDepth 100000 in
theorem refTidyD_is (F : Nat → Int) (p : Option Addr) (c : Nat) (l : List Dt) (w : World) (h : DotsAt w p l) (hlen : l.length ≤ 1000) :
    Calls Try.prog 8 #[.agg (ccs F (.slice p l.length c))] w (TidyR w F l) := by
  have H := Lib.hid h
  clear h
  go_enter Try.func8, Try.ntmps8
  go_wp2_with (refine wpList_gbox rfl _ rfl (ccs F (.slice p l.length c)) rfl ?_)
  intro g1 w1 l1 h1 hb1
  have C1 : Hid (Cx w1 g1 F (.slice p l.length c)) := h1
  have B1 := Lib.hid hb1; have H1 := Lib.hid (H.out.below hb1)
  clear h1 hb1
  go_wp2_with (refine wpList_galloc _ zeroC rfl rfl ?_)
  intro g2 w2 l2 h2 hb2
  have C2 := Lib.hid (C1.out.later hb2); have D2 : Hid (Cx w2 g2 (fun _ => 0) (.slice none 0 0)) := h2
  have B2 := Lib.hid (thenBelow B1.out hb2); have H2 := Lib.hid (H1.out.below hb2)
  have h12 : g1 < g2 := Nat.lt_of_lt_of_le C1.out.lt l2
  have lw2 := Nat.le_trans B1.out.size l2
  clear h2 hb2
  go_wp2_with (first | refine Great.wpList_readTo rfl _ rfl (.agg (ccs (fun _ => 0) (.slice none 0 0))) (by unfold execOp; simp only [List.map_toArray, List.map_cons, List.map_nil, Sem.run_bind]; rw [builtC0]; rfl) ?_ | refine wpList_galloc _ zeroC rfl rfl ?_)
  intro g3 w4 l4 h4 hb4
  have B4 := Lib.hid (thenBelow B2.out hb4); have H4 := Lib.hid (H2.out.below hb4); have C4 := Lib.hid (C2.out.later hb4); have D4 := Lib.hid (D2.out.later hb4)
  have h13 : g1 < g3 := Nat.lt_of_lt_of_le C2.out.lt l4
  have h23 : g2 < g3 := Nat.lt_of_lt_of_le D2.out.lt l4
  have hb3' : ∀ b o, p = some ⟨b, o, none⟩ → l ≠ [] → b < g3 := fun b o e hn => by
    obtain ⟨b', o', e', hr⟩ := H2.out.row hn
    rw [e] at e'; cases e'
    exact Nat.lt_of_lt_of_le (range_lt hr hn) l4
  have lw3 := Nat.le_trans B2.out.size l4
  clear hb4
  go_wp2_with (refine wpList_gstore rfl _ _ rfl g3 rfl (ccs (fun _ => 0) (.slice none 0 0)) rfl _ _ h4 (sizeC (fun _ => 0) _) (by first | rfl | (rw [ccs_size, ccs_size]) | (rw [ccs_size])) (ccs_one (fun _ => 0) none 0 0) ?_)
  intro w5 h5 g5
  have E5 : Hid (Cx w5 g3 (fun _ => 0) (.slice none 0 0)) := h5
  have B5 := Lib.hid (B4.out.trans (grown_below g5 B4.out.size lw3)); have H5 := Lib.hid (H4.out.kept hb3' g5 (Nat.le_refl _)); have C5 := Lib.hid (C4.out.kept g5 (by simp; omega)); have D5 := Lib.hid (D4.out.kept g5 (by simp; omega))
  have HB := Lib.hid hb3'
  clear h5 g5 h4 hb3'
  go_wp2_with (first | refine wpList_vmid vecI rfl _ rfl g1 0 rfl _ C5.out.range ?_)
  go_loopw [17] (fun i wr => ∃ k : Nat, k ≤ 64 ∧ i = .int .i64 k ∧ Cx wr g3 (upto k (clampF F) (fun _ => 0)) (.slice none 0 0) ∧ Cx wr g1 F (.slice p l.length c) ∧ Cx wr g2 (fun _ => 0) (.slice none 0 0) ∧ DotsAt wr p l ∧ Below w.heap.size w wr ∧ w5.heap.size ≤ wr.heap.size) (fun i _ => 64 - (intOf i).toNat)
  case atStart => exact ⟨0, by omega, rfl, by rw [upto_zero]; exact E5.out, C5.out, D5.out, H5.out, B5.out, Nat.le_refl _⟩
  case round =>
    obtain ⟨k, hk, rfl, hE, hC, hD, hH, hb, hN5⟩ := hrel
    have E := Lib.hid hE; have C := Lib.hid hC; have D := Lib.hid hD; have HH := Lib.hid hH; have B := Lib.hid hb
    clear hE hC hD hH hb
    by_cases hlt : k < 64
    · have hi := vecI.index F .i64 k k rfl hlt
      have hc := E.out.cell k hlt
      have hfr := E.out.free k
      have hkI : (k : Int) < 64 := by omega
      have hS : Hid (Cx (wr.setCell ⟨g3, k, none⟩ (.int .i64 (min (max (F k) 0) 1073741824))) g3 (upto (k + 1) (clampF F) (fun _ => 0)) (.slice none 0 0)) := by
        show Cx _ _ _ _
        rw [← upto_set]
        exact E.out.set k hlt (clampF F k)
      have hG := Lib.hid (grown_cell wr g3 k (.int .i64 (min (max (F k) 0) 1073741824)))
      generalize F k = x at hi hS hG
      go_wp2
      go_roundw
      case rel => exact ⟨k + 1, by omega, by go_num, hS.out, C.out.kept hG.out (by simp; omega), D.out.kept hG.out (by simp; omega), HH.out.kept HB.out hG.out (Nat.le_refl _), B.out.trans (grown_below hG.out B.out.size lw3), Nat.le_trans hN5 hG.out.size⟩
      case measure => simp [intOf]; omega
    · obtain rfl : k = 64 := by omega
      have E2 := Lib.hid (E.out.congr (upto_all _ _))
      have s1 := C.out.slot
      have PS : Hid (Passes F l 0 (clampF F)) := Passes.start (Rch.start F l _ (fun _ _ => rfl))
      have hN6' := hN5
      clear E hk hN5
      go_wp2
      clear s1
      go_loopw [31] (fun i wr => ∃ (t : Nat) (G : Nat → Int), t ≤ l.length ∧ i = .int .i64 t ∧ Passes F l t G ∧ Cx wr g3 G (.slice none 0 0) ∧ Cx wr g1 F (.slice p l.length c) ∧ Cx wr g2 (fun _ => 0) (.slice none 0 0) ∧ DotsAt wr p l ∧ Below w.heap.size w wr ∧ w5.heap.size ≤ wr.heap.size) (fun i _ => l.length - (intOf i).toNat)
      case atStart => exact ⟨0, clampF F, Nat.zero_le _, rfl, PS.out, E2.out, C.out, D.out, HH.out, B.out, hN6'⟩
      case round =>
        obtain ⟨t, G0, ht, rfl, hps, hE, hC, hD, hH, hb, hN5⟩ := hrel
        have PS := Lib.hid hps; have E := Lib.hid hE; have C := Lib.hid hC; have D := Lib.hid hD; have HH := Lib.hid hH; have B := Lib.hid hb
        clear hps hE hC hD hH hb
        by_cases htl : t < l.length
        · have htl' : (t : Int) < l.length := by omega
          have s1 := C.out.slot
          have PA : Hid (Pass F l G0 0 G0) := Pass.start PS.out.rch
          go_wp2
          clear s1
          go_loopw [36] (fun i wr => ∃ (k : Nat) (G : Nat → Int), k ≤ l.length ∧ i = .int .i64 k ∧ Pass F l G0 k G ∧ Cx wr g3 G (.slice none 0 0) ∧ Cx wr g1 F (.slice p l.length c) ∧ Cx wr g2 (fun _ => 0) (.slice none 0 0) ∧ DotsAt wr p l ∧ Below w.heap.size w wr ∧ w5.heap.size ≤ wr.heap.size) (fun i _ => l.length - (intOf i).toNat)
          case atStart => exact ⟨0, G0, Nat.zero_le _, rfl, PA.out, E.out, C.out, D.out, HH.out, B.out, hN5⟩
          case round =>
            obtain ⟨k, G, hk, rfl, hpa, hE, hC, hD, hH, hb, hN5⟩ := hrel
            have PA := Lib.hid hpa; have E := Lib.hid hE; have C := Lib.hid hC; have D := Lib.hid hD; have HH := Lib.hid hH; have B := Lib.hid hb
            by_cases hkl : k < l.length
            · have hkl' : (k : Int) < l.length := by omega
              have hln : l ≠ [] := by intro e; rw [e, List.length_nil] at hkl; omega
              obtain ⟨b, o, hpe, hr⟩ := hH.row hln
              have hbs := range_lt hr hln
              obtain ⟨d1, d2⟩ := dcl_get l k hkl
              have r1 := hr _ _ d1; have r2 := hr _ _ d2
              have hskip := hpa.skip hkl
              have hmore := hpa.more hkl
              obtain ⟨x, hx⟩ : ∃ x, x = l[k] := ⟨_, rfl⟩
              rw [← hx] at r1 r2 hskip hmore
              have SKIP := Lib.hid hskip; have MORE := Lib.hid hmore
              have SR : Hid (wr.rangeAt b (o + k * 2) (dcs x.1 x.2).toList) := fun j u hu => by
                match j, hu with
                | 0, hu => simp [dcs] at hu; subst hu; exact r1
                | 1, hu => simp [dcs] at hu; subst hu; rw [Nat.add_assoc]; exact r2
                | j + 2, hu => simp [dcs] at hu
              have hGb := hpa.rch.good
              have GB := Lib.hid hGb
              clear hpa hE hC hD hH hb hr d1 d2 r1 r2 hx hskip hmore hGb
              subst hpe
              obtain ⟨r, n⟩ := x
              simp only at *
              go_wp2_with (first | refine wpList_gload rfl _ rfl b (o + k * 2) rfl _ SR.out _ Try.underlying28 rfl (sizeDl r n) ?_ | refine wpList_galloc _ zeroD rfl rfl ?_)
              intro g6 w9 l9 h9 hb9
              have B9 := Lib.hid (thenBelow B.out hb9); have E9 := Lib.hid (E.out.later hb9); have C9 := Lib.hid (C.out.later hb9); have D9 := Lib.hid (D.out.later hb9); have H9 := Lib.hid (HH.out.below hb9)
              have h16 : g1 < g6 := Nat.lt_of_lt_of_le C.out.lt l9
              have h26 : g2 < g6 := Nat.lt_of_lt_of_le D.out.lt l9
              have h36 : g3 < g6 := Nat.lt_of_lt_of_le E.out.lt l9
              have hbg : b < g6 := Nat.lt_of_lt_of_le hbs l9
              have lw6 := Nat.le_trans B.out.size l9
              have hN9 := Nat.le_trans hN5 hb9.size
              clear hb9
              go_wp2_with (refine wpList_gstore rfl _ _ rfl g6 rfl (dcs r n) rfl _ _ h9 (sizeD r n) rfl (dcs_one r n) ?_)
              intro wa ha ga
              have BA := Lib.hid (B9.out.trans (grown_below ga B9.out.size lw6)); have EA := Lib.hid (E9.out.kept ga (by simp; omega)); have CA := Lib.hid (C9.out.kept ga (by simp; omega)); have DA := Lib.hid (D9.out.kept ga (by simp; omega)); have HHA := Lib.hid (H9.out.kept (fun b' o' e _ => by cases e; exact hbg) ga (Nat.le_refl _))
              have hNa := Nat.le_trans hN9 ga.size
              have a0 := cell_regrown ((cell_of_row wa g6 0 _ _ _ ha).trans (show _ = some (.int .i64 r) from rfl))
              have a1 := cell_regrown ((cell_of_row wa g6 1 _ _ _ ha).trans (show _ = some (.int .i64 n) from rfl))
              have cV := quiet_call (w := wa) (fun W => refValid_is r n W)
              have RX := Lib.hid (range_of_block ha)
              clear ha ga h9
              have HB6 : Hid (∀ b' o', some (⟨b, o, none⟩ : Addr) = some ⟨b', o', none⟩ → l ≠ [] → b' < g3) := HB.out
              cases hv : vldB r n with
              | false =>
                rw [hv] at cV
                have PN := Lib.hid (SKIP.out (fun hn => by have := hn.1; unfold vl at this; rw [hv] at this; cases this))
                clear hv
                go_wp2
                refine wp_region_quiet_below (by kernel_rfl) (by kernel_rfl) ?_
                iterate 13 (go_big_quiet_step (exact cV _ _))
                refine wpQuiet_nil ?_
                rintro _ ⟨⟨dq, osq⟩, rfl⟩
                have hb2 := below_regrown wa dq osq
                have BQ := Lib.hid (thenBelow BA.out hb2); have EQ := Lib.hid (EA.out.later hb2); have CQ := Lib.hid (CA.out.later hb2); have DQ := Lib.hid (DA.out.later hb2); have HQ := Lib.hid (HHA.out.below hb2)
                have hNq := Nat.le_trans hNa hb2.size
                generalize Sort.grow (redrawn wa dq) osq = wq at hb2 BQ EQ CQ DQ HQ hNq ⊢
                clear hb2 a0 a1 cV
                go_wp2
                refine ⟨⟨_, _, _, _, _, _, _, _, _, _, _, _, _, _, _, _, _, _, _, _, _, _, _, _, _, ⟨k + 1, G, by omega, by go_num, PN.out, EQ.out, CQ.out, DQ.out, HQ.out, BQ.out, hNq⟩, rfl⟩, ?_⟩
                simp [intOf]; omega
              | true =>
                have hv' := (vld_iff r n).1 hv
                rw [hv] at cV
                obtain ⟨i, rfl⟩ : ∃ i : Nat, r = (i : Int) := ⟨r.toNat, by omega⟩
                have hi : i < 64 := by omega
                have hGi := GB.out i hi
                have hw3 : IntKind.i64.wrap (G i + 1) = G i + 1 := by simp [IntKind.wrap, IntKind.bits, IntKind.signed]; omega
                have hp0 : (0 : Int) ≤ (i : Int) := by omega
                have hp1 : (i : Int) < 64 := by omega
                have c2 := cell_regrown (EA.out.cell i hi)
                by_cases hn1 : n = G i + 1
                · subst hn1
                  have PN := Lib.hid (MORE.out ⟨hv, by simp⟩)
                  have PN2 : Hid (Pass F l G0 (k + 1) (vset G i (G i + 1))) := by
                    have := PN.out
                    show Pass F l G0 (k + 1) (vset G i (G i + 1))
                    simpa using this
                  clear hv hGi PN
                  go_wp2
                  refine wp_region_quiet_below (by kernel_rfl) (by kernel_rfl) ?_
                  iterate 13 (go_big_quiet_step (exact cV _ _))
                  refine wpQuiet_nil ?_
                  rintro _ ⟨⟨dq, osq⟩, rfl⟩
                  have hb2 := below_regrown wa dq osq
                  have BQ := Lib.hid (thenBelow BA.out hb2); have EQ := Lib.hid (EA.out.later hb2); have CQ := Lib.hid (CA.out.later hb2); have DQ := Lib.hid (DA.out.later hb2); have HQ := Lib.hid (HHA.out.below hb2); have RQ := Lib.hid (range_below RX.out hb2)
                  have hNq := Nat.le_trans hNa hb2.size
                  generalize Sort.grow (redrawn wa dq) osq = wq at hb2 BQ EQ CQ DQ HQ RQ hNq ⊢
                  clear hb2 a0 a1 cV c2
                  have c0 : wq.cell? ⟨g6, 0, none⟩ = some (.int .i64 (i : Int)) := RQ.out 0 _ rfl
                  have c1 : wq.cell? ⟨g6, 1, none⟩ = some (.int .i64 (G i + 1)) := RQ.out 1 _ rfl
                  have c2 := EQ.out.cell i hi
                  have f2 := EQ.out.free i
                  have hG := Lib.hid (grown_cell wq g3 i (.int .i64 (G i + 1)))
                  have EE := Lib.hid (EQ.out.set i hi (G i + 1))
                  have BE := Lib.hid (BQ.out.trans (grown_below hG.out BQ.out.size lw3)); have CE := Lib.hid (CQ.out.kept hG.out (by simp; omega)); have DE := Lib.hid (DQ.out.kept hG.out (by simp; omega)); have HE := Lib.hid (HQ.out.kept HB6.out hG.out (Nat.le_refl _))
                  have hNe := Nat.le_trans hNq hG.out.size
                  go_wp2
                  refine ⟨⟨_, _, _, _, _, _, _, _, _, _, _, _, _, _, _, _, _, _, _, _, _, _, _, _, _, ⟨k + 1, _, by omega, by go_num, PN2.out, EE.out, CE.out, DE.out, HE.out, BE.out, hNe⟩, rfl⟩, ?_⟩
                  simp [intOf]; omega
                · have PN := Lib.hid (SKIP.out (fun hn => hn1 (by have := hn.2; simpa using this)))
                  clear hv hGi
                  go_wp2
                  refine wp_region_quiet_below (by kernel_rfl) (by kernel_rfl) ?_
                  iterate 13 (go_big_quiet_step (exact cV _ _))
                  refine wpQuiet_nil ?_
                  rintro _ ⟨⟨dq, osq⟩, rfl⟩
                  have hb2 := below_regrown wa dq osq
                  have BQ := Lib.hid (thenBelow BA.out hb2); have EQ := Lib.hid (EA.out.later hb2); have CQ := Lib.hid (CA.out.later hb2); have DQ := Lib.hid (DA.out.later hb2); have HQ := Lib.hid (HHA.out.below hb2); have RQ := Lib.hid (range_below RX.out hb2)
                  have hNq := Nat.le_trans hNa hb2.size
                  generalize Sort.grow (redrawn wa dq) osq = wq at hb2 BQ EQ CQ DQ HQ RQ hNq ⊢
                  clear hb2 a0 a1 cV c2
                  go_wp2
                  refine ⟨⟨_, _, _, _, _, _, _, _, _, _, _, _, _, _, _, _, _, _, _, _, _, _, _, _, _, ⟨k + 1, G, by omega, by go_num, PN.out, EQ.out, CQ.out, DQ.out, HQ.out, BQ.out, hNq⟩, rfl⟩, ?_⟩
                  simp [intOf]; omega
            · have hke : k = l.length := by omega
              have hkl' : ¬ (k : Int) < l.length := by omega
              have PX : Hid (Passes F l (t + 1) G) := by have := hpa; rw [hke] at this; exact PS.out.next this
              clear hpa hE hC hD hH hb
              go_wp2
              go_roundw
              case rel => exact ⟨t + 1, G, by omega, by go_num, PX.out, E.out, C.out, D.out, HH.out, B.out, hN5⟩
              case measure => simp [intOf]; omega
        · have hte : t = l.length := by omega
          have htl' : ¬ (t : Int) < l.length := by omega
          subst hte
          have hcl := PS.out.closed
          have CLO := Lib.hid hcl
          have RCH := Lib.hid PS.out.rch
          have PU : Hid (Put l G0 0 []) := Put.start l G0
          have s1 := C.out.slot
          obtain ⟨N, hNN⟩ : ∃ N, N = wr.heap.size := ⟨_, rfl⟩
          have hwN : w.heap.size ≤ N := by rw [hNN]; exact B.out.size
          have hg1N : g1 < N := by rw [hNN]; exact C.out.lt
          have hg2N : g2 < N := by rw [hNN]; exact D.out.lt
          have hg3N : g3 < N := by rw [hNN]; exact E.out.lt
          have hpN : ∀ b o, p = some ⟨b, o, none⟩ → l ≠ [] → b < N := fun b o e hn => by
            obtain ⟨b', o', e', hr⟩ := HH.out.row hn
            rw [e] at e'; cases e'
            rw [hNN]; exact range_lt hr hn
          have HPN := Lib.hid hpN
          have hNle : N ≤ wr.heap.size := by omega
          clear hcl hpN hNN
          go_wp2
          clear s1
          go_loopw [64] (fun i wr => ∃ (k : Nat) (o : List Dt) (v : Value), k ≤ l.length ∧ i = .int .i64 k ∧ Put l G0 k o ∧ wr.ownsRow N 28 2 v o.length (dcl o) ∧ o.length ≤ k ∧ Cx wr g3 G0 v ∧ Cx wr g1 F (.slice p l.length c) ∧ Cx wr g2 (fun _ => 0) (.slice none 0 0) ∧ DotsAt wr p l ∧ Below w.heap.size w wr ∧ N ≤ wr.heap.size) (fun i _ => l.length - (intOf i).toNat)
          case atStart => exact ⟨0, [], _, Nat.zero_le _, rfl, PU.out, ⟨rfl, .inl ⟨rfl, rfl⟩⟩, Nat.le_refl _, E.out, C.out, D.out, HH.out, B.out, hNle⟩
          case round =>
            clear hNle hN5
            clear E C D HH B
            obtain ⟨k, o, v, hk, rfl, hpu, hown, hok, hE, hC, hD, hH, hb, hNw⟩ := hrel
            have U := Lib.hid hpu; have E := Lib.hid hE; have C := Lib.hid hC; have D := Lib.hid hD; have HH := Lib.hid hH; have B := Lib.hid hb; have W := Lib.hid hown
            obtain ⟨_, pq, cq, rfl, hcq, _, hnone, hsome⟩ := own_drow hown
            have NONE := Lib.hid hnone; have SOME := Lib.hid hsome
            by_cases hkl : k < l.length
            · have hkl' : (k : Int) < l.length := by omega
              have hln : l ≠ [] := by intro e; rw [e, List.length_nil] at hkl; omega
              obtain ⟨b, o9, hpe, hr⟩ := hH.row hln
              have hbs := range_lt hr hln
              obtain ⟨d1, d2⟩ := dcl_get l k hkl
              have r1 := hr _ _ d1; have r2 := hr _ _ d2
              have hskip := hpu.skip hkl
              have hput := hpu.put hkl
              obtain ⟨x, hx⟩ : ∃ x, x = l[k] := ⟨_, rfl⟩
              rw [← hx] at r1 r2 hskip hput
              have SKIP := Lib.hid hskip; have PUT := Lib.hid hput
              have SR : Hid (wr.rangeAt b (o9 + k * 2) (dcs x.1 x.2).toList) := fun j u hu => by
                match j, hu with
                | 0, hu => simp [dcs] at hu; subst hu; exact r1
                | 1, hu => simp [dcs] at hu; subst hu; rw [Nat.add_assoc]; exact r2
                | j + 2, hu => simp [dcs] at hu
              clear hpu hown hE hC hD hH hb hr d1 d2 r1 r2 hx hskip hput hnone hsome
              subst hpe
              have HB6 : Hid (∀ b' o', some (⟨b, o9, none⟩ : Addr) = some ⟨b', o', none⟩ → l ≠ [] → b' < g3) := HB.out
              have VL := Lib.hid (fun W => refValid_is x.1 x.2 W)
              go_wp2_with (first | refine wpList_gload rfl _ rfl b (o9 + k * 2) rfl _ SR.out _ Try.underlying28 rfl (sizeDl x.1 x.2) ?_ | refine wpList_galloc _ zeroD rfl rfl ?_)
              intro g6 w9 l9 h9 hb9
              have B9 := Lib.hid (thenBelow B.out hb9); have E9 := Lib.hid (E.out.later hb9); have C9 := Lib.hid (C.out.later hb9); have D9 := Lib.hid (D.out.later hb9); have H9 := Lib.hid (HH.out.below hb9); have W9 := Lib.hid (own_lat W.out hb9)
              have hg6 : N ≤ g6 := Nat.le_trans hNw l9
              have h6w : wr.heap.size ≤ g6 := l9
              have lw6 := Nat.le_trans B.out.size l9
              have hN9 := Nat.le_trans hNw hb9.size
              have hbg : b < g6 := Nat.lt_of_lt_of_le hbs l9
              clear hb9
              have hWlt : ∀ b, (Value.slice pq o.length cq).ownBlock = some b → b < g6 := fun b e => Nat.lt_of_lt_of_le (by
                rcases W.out.2 with ⟨z, _⟩ | ⟨b', cap', cur', z1, z2, z3, z4⟩
                · rw [z] at e; cases e
                · rw [z1] at e; cases e; exact (Array.getElem?_eq_some_iff.1 z3).1) l9
              go_wp2_with (refine wpList_gstore rfl _ _ rfl g6 rfl (dcs x.1 x.2) rfl _ _ h9 (sizeD x.1 x.2) rfl (dcs_one x.1 x.2) ?_)
              intro wa ha ga
              have BA := Lib.hid (B9.out.trans (grown_below ga B9.out.size lw6)); have EA := Lib.hid (E9.out.kept ga (by simp; omega)); have CA := Lib.hid (C9.out.kept ga (by simp; omega)); have DA := Lib.hid (D9.out.kept ga (by simp; omega)); have HHA := Lib.hid (H9.out.kept (fun b' o' e _ => by cases e; exact hbg) ga (Nat.le_refl _))
              have WA : Hid (wa.ownsRow N 28 2 (.slice pq o.length cq) o.length (dcl o)) := by
                refine ⟨W9.out.1, ?_⟩
                rcases W9.out.2 with q | ⟨b, cap, cur, q1, q2, q3, q4⟩
                · exact .inl q
                · have hlt' := hWlt b (by rw [q1]; rfl)
                  exact .inr ⟨b, cap, cur, q1, q2, (ga.block b (Array.getElem?_eq_some_iff.1 q3).1 (by intro e; have := Option.some.inj e; omega)).trans q3, q4⟩
              have hNa := Nat.le_trans hN9 ga.size
              have RA := Lib.hid (range_of_block ha)
              have hga : g6 < wa.heap.size := (Array.getElem?_eq_some_iff.1 ha).1
              clear ha ga h9 hWlt B9 E9 C9 D9 H9 W9 W E C D HH B SR
              go_wp2_with (first | refine wpList_gload rfl _ rfl g6 0 rfl _ RA.out _ Try.underlying28 rfl (sizeDl x.1 x.2) ?_)
              refine (VL.out _).mono ?_
              rintro e wb ⟨rfl, hbb⟩
              have BB := Lib.hid (thenBelow BA.out hbb); have DB := Lib.hid (DA.out.later hbb); have EB := Lib.hid (EA.out.later hbb); have CB := Lib.hid (CA.out.later hbb); have HHB := Lib.hid (HHA.out.below hbb); have RB := Lib.hid (range_below RA.out hbb); have WB := Lib.hid (own_lat WA.out hbb)
              have hNb : N ≤ wb.heap.size := Nat.le_trans hNa hbb.size
              have hgb := Nat.lt_of_lt_of_le hga hbb.size
              clear hbb
              cases hv : vldB x.1 x.2 with
              | false =>
                have PN := Lib.hid (SKIP.out (.inl hv))
                rw [hv] at VL
                clear hv
                go_wp2
                go_roundw
                case rel => exact ⟨k + 1, o, _, by omega, by go_num, PN.out, WB.out, by omega, EB.out, CB.out, DB.out, HHB.out, BB.out, hNb⟩
                case measure => simp [intOf]; omega
              | true =>
                rw [hv] at VL
                have KN := Lib.hid (fun W h => refKnows_is G0 pq cq o x W h (by omega))
                go_wp2_with (first | refine wpList_gloadG (by rfl) _ rfl g3 0 rfl _ (range_of_block EB.out) _ Try.underlying26 rfl (by rw [Array.length_toList]; exact sizeC _ _) ?_ | refine wpList_gloadG (by rfl) _ rfl g6 0 rfl _ RB.out _ Try.underlying28 rfl (sizeDl x.1 x.2) ?_)
                have hdr := (own_drow WB.out).2
                obtain ⟨_, _, e, _, hdr, _⟩ := hdr
                cases e
                refine (KN.out _ hdr).mono ?_
                rintro e wc ⟨rfl, hbc⟩
                have BC := Lib.hid (thenBelow BB.out hbc); have DC := Lib.hid (DB.out.later hbc); have EC := Lib.hid (EB.out.later hbc); have CC := Lib.hid (CB.out.later hbc); have HHC := Lib.hid (HHB.out.below hbc); have RC := Lib.hid (range_below RB.out hbc); have WC := Lib.hid (own_lat WB.out hbc)
                have hNc : N ≤ wc.heap.size := Nat.le_trans hNb hbc.size
                have hgc := Nat.lt_of_lt_of_le hgb hbc.size
                clear hbc hdr
                cases hs : knowsB G0 o x with
                | true =>
                  have PN := Lib.hid (SKIP.out (.inr hs))
                  clear hs hv
                  go_wp2
                  go_roundw
                  case rel => exact ⟨k + 1, o, _, by omega, by go_num, PN.out, WC.out, by omega, EC.out, CC.out, DC.out, HHC.out, BC.out, hNc⟩
                  case measure => simp [intOf]; omega
                | false =>
                  have PN := Lib.hid (PUT.out hv hs)
                  clear hs hv
                  have s2 := EC.out.slot
                  obtain ⟨M, hM⟩ : ∃ M, M = wc.heap.size := ⟨_, rfl⟩
                  have hwM : w.heap.size ≤ M := by rw [hM]; exact BC.out.size
                  have hNM : N ≤ M := by omega
                  have hMc : M ≤ wc.heap.size := by omega
                  have hRI := U.out.rises
                  have RI := Lib.hid hRI
                  have h6M : g6 < M := by omega
                  clear hM hRI
                  go_wp2
                  clear s2
                  go_loopw [10, 79] (fun a i wq => ∃ (j at_ : Nat), j ≤ o.length ∧ i = .int .i64 j ∧ a = .int .i64 at_ ∧ Srch o x j at_ ∧ Below wc.heap.size wc wq) (fun _ i _ => o.length - (intOf i).toNat)
                  case atStart => exact ⟨0, 0, Nat.zero_le _, rfl, rfl, Srch.start o x, Below.refl _ _⟩
                  case round =>
                    obtain ⟨j, at_, hj, rfl, rfl, hsr, hbq⟩ := hrel
                    have SR := Lib.hid hsr; have BQ' := Lib.hid hbq; have BQ := Lib.hid (thenBelow BC.out hbq); have RQ := Lib.hid (range_below RC.out hbq)
                    have hgq := Nat.lt_of_lt_of_le hgc hbq.size
                    have WQ := Lib.hid (own_lat WC.out hbq)
                    by_cases hjo : j < o.length
                    · have hjo' : (j : Int) < o.length := by omega
                      have hon : o ≠ [] := by intro e; rw [e, List.length_nil] at hjo; omega
                      obtain ⟨_, _, e, _, hdr, _⟩ := (own_drow WQ.out).2
                      cases e
                      obtain ⟨b2, o2, hpe, hr⟩ := hdr hon
                      obtain ⟨d1, d2⟩ := dcl_get o j hjo
                      have r1 := hr _ _ d1; have r2 := hr _ _ d2
                      have hyes := hsr.yes RI.out hjo
                      have hno := hsr.no hjo
                      obtain ⟨y, hy⟩ : ∃ y, y = o[j] := ⟨_, rfl⟩
                      rw [← hy] at r1 r2 hyes hno
                      have YES := Lib.hid hyes; have NO := Lib.hid hno
                      have SS : Hid (wr.rangeAt b2 (o2 + j * 2) (dcs y.1 y.2).toList) := fun j u hu => by
                        match j, hu with
                        | 0, hu => simp [dcs] at hu; subst hu; exact r1
                        | 1, hu => simp [dcs] at hu; subst hu; rw [Nat.add_assoc]; exact r2
                        | j + 2, hu => simp [dcs] at hu
                      have LT := Lib.hid (fun W => less_is y.1 y.2 x.1 x.2 W)
                      clear hsr hr d1 d2 r1 r2 hy hyes hno
                      subst hpe
                      go_wp2_with (first | refine wpList_gload rfl _ rfl b2 (o2 + j * 2) rfl _ SS.out _ Try.underlying28 rfl (sizeDl y.1 y.2) ?_ | refine wpList_galloc _ zeroD rfl rfl ?_)
                      intro g7 we l7 h7 hb7
                      have BE' := Lib.hid (thenBelow BQ'.out hb7); have RE := Lib.hid (range_below RQ.out hb7)
                      have hg7 : g6 < g7 := Nat.lt_of_lt_of_le hgq l7
                      have hc7 : wc.heap.size ≤ g7 := Nat.le_trans BQ'.out.size l7
                      clear hb7 hbq
                      go_wp2_with (refine wpList_gstore rfl _ _ rfl g7 rfl (dcs y.1 y.2) rfl _ _ h7 (sizeD y.1 y.2) rfl (dcs_one y.1 y.2) ?_)
                      intro wf hf gf
                      have BF' := Lib.hid (BE'.out.trans (grown_below gf BE'.out.size hc7))
                      have RF : Hid (wf.rangeAt g6 0 (dcs x.1 x.2).toList) := fun j u hu => gf.cell (RE.out j u hu) (by simp; omega)
                      have RG := Lib.hid (range_of_block hf)
                      clear hf gf h7
                      go_wp2_with (first | refine wpList_gload rfl _ rfl g7 0 rfl _ RG.out _ Try.underlying28 rfl (sizeDl y.1 y.2) ?_ | refine wpList_gload rfl _ rfl g6 0 rfl _ RF.out _ Try.underlying28 rfl (sizeDl x.1 x.2) ?_)
                      refine (LT.out _).mono ?_
                      rintro e wg ⟨rfl, hbg⟩
                      have BG' := Lib.hid (thenBelow BF'.out hbg)
                      clear hbg
                      cases hl : lessD y.1 y.2 x.1 x.2 with
                      | true =>
                        have SY := Lib.hid (YES.out hl)
                        clear hl
                        go_wp2
                        go_roundw
                        case rel => exact ⟨j + 1, j + 1, by omega, by go_num, by go_num, SY.out, BG'.out⟩
                        case measure => simp [intOf]; omega
                      | false =>
                        have SY := Lib.hid (NO.out hl)
                        clear hl
                        go_wp2
                        go_roundw
                        case rel => exact ⟨j + 1, at_, by omega, by go_num, rfl, SY.out, BG'.out⟩
                        case measure => simp [intOf]; omega
                    · have hjo' : ¬ (j : Int) < o.length := by omega
                      have hje : j = o.length := by omega
                      have hat : at_ ≤ o.length := by have := hsr.le; omega
                      have PX := Lib.hid (PN.out at_ hat hsr.lo (fun i hi h1 => hsr.hi i hi h1 (by omega)))
                      have EQ := Lib.hid (EC.out.later hbq); have CQ := Lib.hid (CC.out.later hbq); have DQ := Lib.hid (DC.out.later hbq); have HQ := Lib.hid (HHC.out.below hbq)
                      have hNq : N ≤ wr.heap.size := Nat.le_trans hNc hbq.size
                      have hatc : at_ ≤ cq := by omega
                      have hatc' : (at_ : Int) ≤ cq := by omega
                      have hat' : (at_ : Int) ≤ o.length := by omega
                      obtain ⟨_, _, e, _, _, hnn, hss⟩ := (own_drow WQ.out).2
                      cases e
                      have s2 := EQ.out.slot
                      clear hsr hbq PN
                      cases pq with
                      | none =>
                        obtain ⟨ho0, hc0⟩ := hnn rfl
                        subst ho0 hc0
                        obtain rfl : at_ = 0 := by simpa using hat
                        clear hnn hss
                        have c0 : wr.cell? ⟨g6, 0, none⟩ = some (.int .i64 x.1) := RQ.out 0 _ rfl
                        have c1 : wr.cell? ⟨g6, 1, none⟩ = some (.int .i64 x.2) := RQ.out 1 _ rfl
                        go_wp2_with (at_builtin; refine wpList_dots _ rfl _ _ rfl wr.heap.size [] (.slice none 0 0) rfl ⟨rfl, .inl ⟨rfl, rfl⟩⟩ _ 1 1 [x] rfl (drow_one wr x) rfl (by intro e; cases e) (by simp) (by simp) ?_)
                        intro v2 w2 hown2 hb2
                        have BZ : Hid (Below wr.heap.size wr w2) := (below_alloc wr _).trans hb2
                        have EZ := Lib.hid (EQ.out.later BZ.out)
                        have s2 := EZ.out.slot
                        go_wp2_with (at_builtin; refine wpList_dots _ rfl _ _ rfl wr.heap.size [x] v2 rfl hown2 none 0 0 [] rfl (DRow.nil _ _) rfl (fun _ => ⟨rfl, rfl⟩) (by simp) BZ.out.size ?_)
                        intro v3 w3 hown3 hb3
                        have hl3 : ([x] ++ []).length ≤ k + 1 := (by simp)
                        have hown3 : w3.ownsRow wr.heap.size 28 2 v3 ([x] ++ []).length (dcl ([x] ++ [])) := by simpa using hown3
                        have BY : Hid (Below wr.heap.size wr w3) := Lib.hid (BZ.out.trans hb3)
                        have BV := Lib.hid (thenBelow BQ.out BY.out); have EY := Lib.hid (EQ.out.later BY.out); have CY := Lib.hid (CQ.out.later BY.out); have DY := Lib.hid (DQ.out.later BY.out); have HY := Lib.hid (HQ.out.below BY.out)
                        have WY := Lib.hid (own_down hown3 hNq)
                        have hNy : N ≤ w3.heap.size := Nat.le_trans hNq BY.out.size
                        clear hown3 hb3 hown2 hb2 c0 c1 s2
                        have c2 := EY.out.slot
                        have f2 := EY.out.free 64
                        have hG := Lib.hid (grown_cell w3 g3 64 v3)
                        have EE := Lib.hid (EY.out.setSlot v3)
                        have BE := Lib.hid (BV.out.trans (grown_below hG.out BV.out.size lw3)); have CE := Lib.hid (CY.out.kept hG.out (by simp; omega)); have DE := Lib.hid (DY.out.kept hG.out (by simp; omega)); have HE := Lib.hid (HY.out.kept HB6.out hG.out (Nat.le_refl _)); have WE := Lib.hid (own_kept WY.out hG.out (by omega))
                        have hNe : N ≤ (w3.setCell ⟨g3, 64, none⟩ v3).heap.size := Nat.le_trans hNy hG.out.size
                        obtain ⟨pv, cv, hpv⟩ := own_shape WY.out
                        obtain ⟨o3, ho3⟩ : ∃ o3, o3 = ([x] ++ []) := ⟨_, rfl⟩
                        have PX3 : Put l G0 (k + 1) ([x] ++ []) := by have := PX.out; simpa using this
                        rw [← ho3] at WE hl3 hpv PX3
                        have PX3 := Lib.hid PX3
                        subst hpv
                        clear ho3
                        go_wp2
                        go_roundw
                        case rel => exact ⟨k + 1, o3, _, by omega, by go_num, PX3.out, WE.out, hl3, EE.out, CE.out, DE.out, HE.out, BE.out, hNe⟩
                        case measure => simp [intOf]; omega
                      | some ap =>
                        obtain ⟨gq, e, hNgq, hOq⟩ := hss ap rfl
                        subst e
                        clear hnn hss
                        have hdt := DRow.take hOq at_
                        have hltk : (o.take at_).length = at_ := by rw [List.length_take]; omega
                        have OQ := Lib.hid hOq
                        clear hOq
                        go_wp2_with (at_builtin; refine wpList_dots _ rfl _ _ rfl wr.heap.size [] (.slice none 0 0) rfl ⟨rfl, .inl ⟨rfl, rfl⟩⟩ _ at_ cq (o.take at_) rfl hdt hltk.symm (by intro e; cases e) (by simp; omega) (Nat.le_refl _) ?_)
                        intro v1 w1 hown1 hb1
                        have hown1 : w1.ownsRow wr.heap.size 28 2 v1 (o.take at_).length (dcl (o.take at_)) := by rw [hltk]; simpa using hown1
                        have RZ := Lib.hid (range_below RQ.out hb1)
                        have c0 : w1.cell? ⟨g6, 0, none⟩ = some (.int .i64 x.1) := RZ.out 0 _ rfl
                        have c1 : w1.cell? ⟨g6, 1, none⟩ = some (.int .i64 x.2) := RZ.out 1 _ rfl
                        go_wp2_with (at_builtin; refine wpList_dots _ rfl _ _ rfl wr.heap.size (o.take at_) v1 rfl (own_lat hown1 (below_alloc w1 _)) _ 1 1 [x] rfl (drow_one w1 x) rfl (by intro e; cases e) (by rw [hltk]; omega) (Nat.le_trans hb1.size (below_alloc w1 _).size) ?_)
                        intro v2 w2 hown2 hb2
                        have BZ : Hid (Below wr.heap.size wr w2) := hb1.trans (((Below.refl wr.heap.size w1).alloc hb1.size _).trans hb2)
                        have EZ := Lib.hid (EQ.out.later BZ.out); have OZ := Lib.hid (OQ.out.later BZ.out)
                        have s2 := EZ.out.slot
                        have O2 : w2.ownsRow wr.heap.size 28 2 v2 (o.take at_ ++ [x]).length (dcl (o.take at_ ++ [x])) := by
                          rw [List.length_append, hltk]; exact hown2
                        have hl2 : (o.take at_ ++ [x]).length ≤ 100000 := by rw [List.length_append, hltk]; simp; omega
                        have h3 : (o.take at_ ++ [x] ++ o.drop at_).length = o.length + 1 := by simp; omega
                        have hl3' : (o.drop at_).length = o.length - at_ := List.length_drop
                        by_cases hca : cq = at_
                        · have HDR : Hid (o.drop at_ = []) := List.drop_eq_nil_of_le (by omega)
                          go_wp2_with (at_builtin; refine wpList_dots _ rfl _ _ rfl wr.heap.size (o.take at_ ++ [x]) v2 rfl O2 _ _ _ (o.drop at_) rfl (by rw [HDR.out]; exact DRow.nil _ _) (by omega) (by intro e; cases e) (by omega) BZ.out.size ?_)
                          intro v3 w3 hown3 hb3
                          have hl3 : (o.take at_ ++ [x] ++ o.drop at_).length ≤ k + 1 := (by rw [h3]; omega)
                          have hown3 : w3.ownsRow wr.heap.size 28 2 v3 (o.take at_ ++ [x] ++ o.drop at_).length (dcl (o.take at_ ++ [x] ++ o.drop at_)) := by
                            rw [show (o.take at_ ++ [x] ++ o.drop at_).length = at_ + (o.length - at_ + 1) from by rw [h3]; omega]
                            simpa [HDR.out] using hown3
                          have BY : Hid (Below wr.heap.size wr w3) := Lib.hid (BZ.out.trans hb3)
                          have BV := Lib.hid (thenBelow BQ.out BY.out); have EY := Lib.hid (EQ.out.later BY.out); have CY := Lib.hid (CQ.out.later BY.out); have DY := Lib.hid (DQ.out.later BY.out); have HY := Lib.hid (HQ.out.below BY.out)
                          have WY := Lib.hid (own_down hown3 hNq)
                          have hNy : N ≤ w3.heap.size := Nat.le_trans hNq BY.out.size
                          clear hown3 hb3 hown2 hb2 c0 c1 s2
                          have c2 := EY.out.slot
                          have f2 := EY.out.free 64
                          have hG := Lib.hid (grown_cell w3 g3 64 v3)
                          have EE := Lib.hid (EY.out.setSlot v3)
                          have BE := Lib.hid (BV.out.trans (grown_below hG.out BV.out.size lw3)); have CE := Lib.hid (CY.out.kept hG.out (by simp; omega)); have DE := Lib.hid (DY.out.kept hG.out (by simp; omega)); have HE := Lib.hid (HY.out.kept HB6.out hG.out (Nat.le_refl _)); have WE := Lib.hid (own_kept WY.out hG.out (by omega))
                          have hNe : N ≤ (w3.setCell ⟨g3, 64, none⟩ v3).heap.size := Nat.le_trans hNy hG.out.size
                          obtain ⟨pv, cv, hpv⟩ := own_shape WY.out
                          obtain ⟨o3, ho3⟩ : ∃ o3, o3 = (o.take at_ ++ [x] ++ o.drop at_) := ⟨_, rfl⟩
                          have PX3 := PX.out
                          rw [← ho3] at WE hl3 hpv PX3
                          have PX3 := Lib.hid PX3
                          subst hpv
                          clear ho3
                          go_wp2
                          go_roundw
                          case rel => exact ⟨k + 1, o3, _, by omega, by go_num, PX3.out, WE.out, hl3, EE.out, CE.out, DE.out, HE.out, BE.out, hNe⟩
                          case measure => simp [intOf]; omega
                        · have hdd := DRow.drop OZ.out at_
                          go_wp2_with (at_builtin; refine wpList_dots _ rfl _ _ rfl wr.heap.size (o.take at_ ++ [x]) v2 rfl O2 _ _ _ (o.drop at_) rfl (by simpa using hdd) hl3'.symm (by intro e; cases e) (by omega) BZ.out.size ?_)
                          intro v3 w3 hown3 hb3
                          have hl3 : (o.take at_ ++ [x] ++ o.drop at_).length ≤ k + 1 := (by rw [h3]; omega)
                          have hown3 : w3.ownsRow wr.heap.size 28 2 v3 (o.take at_ ++ [x] ++ o.drop at_).length (dcl (o.take at_ ++ [x] ++ o.drop at_)) := by
                            rw [show (o.take at_ ++ [x] ++ o.drop at_).length = at_ + (o.length - at_ + 1) from by rw [h3]; omega]
                            simpa using hown3
                          have BY : Hid (Below wr.heap.size wr w3) := Lib.hid (BZ.out.trans hb3)
                          have BV := Lib.hid (thenBelow BQ.out BY.out); have EY := Lib.hid (EQ.out.later BY.out); have CY := Lib.hid (CQ.out.later BY.out); have DY := Lib.hid (DQ.out.later BY.out); have HY := Lib.hid (HQ.out.below BY.out)
                          have WY := Lib.hid (own_down hown3 hNq)
                          have hNy : N ≤ w3.heap.size := Nat.le_trans hNq BY.out.size
                          clear hown3 hb3 hown2 hb2 c0 c1 s2
                          have c2 := EY.out.slot
                          have f2 := EY.out.free 64
                          have hG := Lib.hid (grown_cell w3 g3 64 v3)
                          have EE := Lib.hid (EY.out.setSlot v3)
                          have BE := Lib.hid (BV.out.trans (grown_below hG.out BV.out.size lw3)); have CE := Lib.hid (CY.out.kept hG.out (by simp; omega)); have DE := Lib.hid (DY.out.kept hG.out (by simp; omega)); have HE := Lib.hid (HY.out.kept HB6.out hG.out (Nat.le_refl _)); have WE := Lib.hid (own_kept WY.out hG.out (by omega))
                          have hNe : N ≤ (w3.setCell ⟨g3, 64, none⟩ v3).heap.size := Nat.le_trans hNy hG.out.size
                          obtain ⟨pv, cv, hpv⟩ := own_shape WY.out
                          obtain ⟨o3, ho3⟩ : ∃ o3, o3 = (o.take at_ ++ [x] ++ o.drop at_) := ⟨_, rfl⟩
                          have PX3 := PX.out
                          rw [← ho3] at WE hl3 hpv PX3
                          have PX3 := Lib.hid PX3
                          subst hpv
                          clear ho3
                          go_wp2
                          go_roundw
                          case rel => exact ⟨k + 1, o3, _, by omega, by go_num, PX3.out, WE.out, hl3, EE.out, CE.out, DE.out, HE.out, BE.out, hNe⟩
                          case measure => simp [intOf]; omega
            · have hke : k = l.length := by omega
              have hkl' : ¬ (k : Int) < l.length := by omega
              have hpu' := hpu
              rw [hke] at hpu'
              have IT := Lib.hid (hpu'.tidy RCH.out CLO.out)
              clear hpu hpu' hE hC hD hH hb hown hnone hsome
              go_wp2_with (first | refine wpList_gload rfl _ rfl g3 0 rfl _ (range_of_block E.out) _ Try.underlying26 rfl (by rw [Array.length_toList]; exact sizeC _ _) ?_ | refine wpList_gstore rfl _ _ rfl g2 rfl (ccs G0 (.slice pq o.length cq)) rfl _ _ D.out (sizeC _ _) (by rw [ccs_size, ccs_size]) (ccs_one G0 pq o.length cq) ?_)
              intro wz hz gz
              have BZ := Lib.hid (B.out.trans (grown_below gz B.out.size lw2))
              have WZ := Lib.hid (own_kept W.out gz (by omega))
              have HZ := Lib.hid hz
              clear gz hz
              go_wp2
              exact bodyPost_ret (v := .agg (ccs G0 (.slice pq o.length cq))) (results_cell_row rfl _ wz g2 _ _ (0, 0) _ rfl HZ.out Try.underlying26 rfl (sizeC _ _)) rfl ⟨G0, o, (.slice pq o.length cq), IT.out, rfl, own_down WZ.out hwN, BZ.out⟩
end Go.Proofs.Ytnfknnkhabjciaa
