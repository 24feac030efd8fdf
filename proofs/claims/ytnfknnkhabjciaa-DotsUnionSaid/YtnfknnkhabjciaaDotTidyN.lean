/- Tidy of any context. -/
import Derived.Test.YtnfknnkhabjciaaDotCtx2
namespace Go.Proofs.Ytnfknnkhabjciaa
open Go Go.RowKit
set_option linter.unusedVariables false

/-- a context in its one form, the call's own -/
def TidyR (w : World) (F : Nat → Int) (l : List Dt) (e : Ending) (w' : World) : Prop :=
  ∃ G o v, IsTidy F l G o ∧ e = .returned (.agg (ccs G v)) ∧ w'.ownsRow w.heap.size 28 2 v o.length (dcl o) ∧ Below w.heap.size w w'
/-- where dots came from: nil has none, and an address has no spot -/
structure DotsAt (w : World) (p : Option Addr) (l : List Dt) : Prop where
  row : DRow w p l
  none : p = none → l = []
  spot : ∀ a, p = some a → ∃ b o, a = ⟨b, o, Option.none⟩
theorem DotsAt.below {w w' : World} {p : Option Addr} {l : List Dt} (h : DotsAt w p l) (hb : Below w.heap.size w w') : DotsAt w' p l := ⟨h.row.below hb, h.none, h.spot⟩
theorem DotsAt.kept {w w' : World} {p : Option Addr} {l : List Dt} (h : DotsAt w p l) {B g : Nat} (hB : ∀ b o, p = some ⟨b, o, Option.none⟩ → l ≠ [] → b < B) (hg : w.grownBy w' (some g)) (hle : B ≤ g) : DotsAt w' p l := by
  refine ⟨fun hn => ?_, h.none, h.spot⟩
  obtain ⟨b, o, rfl, hr⟩ := h.row hn
  have := hB b o rfl hn
  exact ⟨b, o, rfl, fun j u hu => (hg.cell (hr j u hu) (by intro e; have := Option.some.inj e; simp at this; omega))⟩

/-- what the loop has made behind k dots -/
def TStage (w : World) (g3 B : Nat) (F : Nat → Int) (L : List Dt) (k : Nat) : Prop :=
  ∃ G o v, Upd F (L.take k) G o ∧ Cx w g3 G v ∧ w.ownsRow B 28 2 v o.length (dcl o) ∧ o.length ≤ k

set_option maxHeartbeats 8000000 in
set_option maxRecDepth 100000 in
theorem tidyD_is (f : Nat → Int) (p : Option Addr) (c : Nat) (l : List Dt) (w : World) (h : DotsAt w p l) (hlen : l.length ≤ 1000) :
    Calls Try.prog 7 #[.agg (ccs f (.slice p l.length c))] w (TidyR w f l) := by
  have H := Lib.hid h
  clear h
  go_enter Try.func7, Try.ntmps7
  go_wp2_with (refine wpList_gbox rfl _ rfl (ccs f (.slice p l.length c)) rfl ?_)
  intro g1 w1 l1 h1 hb1
  have C1 : Hid (Cx w1 g1 f (.slice p l.length c)) := h1
  have B1 := Lib.hid hb1; have H1 := Lib.hid (H.out.below hb1)
  clear h1 hb1
  go_wp2_with (refine wpList_galloc _ zeroC rfl rfl ?_)
  intro g2 w2 l2 h2 hb2
  have C2 := Lib.hid (C1.out.later hb2); have D2 : Hid (Cx w2 g2 (fun _ => 0) (.slice none 0 0)) := h2
  have B2 := Lib.hid (thenBelow B1.out hb2); have H2 := Lib.hid (H1.out.below hb2)
  have h12 : g1 < g2 := Nat.lt_of_lt_of_le C1.out.lt l2
  have lw2 := Nat.le_trans B1.out.size l2
  clear h2 hb2
  have IB := Lib.hid (inBounds_is f w2)
  go_wp2_with (first | refine wpList_vmid vecI rfl _ rfl g1 0 rfl _ C2.out.range ?_)
  refine IB.out.mono ?_
  rintro e w3 ⟨rfl, hb3⟩
  have B3 := Lib.hid (thenBelow B2.out hb3); have H3 := Lib.hid (H2.out.below hb3); have C3 := Lib.hid (C2.out.later hb3); have D3 := Lib.hid (D2.out.later hb3)
  clear hb3 IB
  obtain ⟨F, hF⟩ : ∃ F, F = clampF f := ⟨_, rfl⟩
  rw [← hF]
  have HF := Lib.hid hF
  clear hF
  go_wp2_with (first | refine Great.wpList_readTo rfl _ rfl (.agg (ccs F (.slice none 0 0))) (by unfold execOp; simp only [List.map_toArray, List.map_cons, List.map_nil, Sem.run_bind]; rw [show (Act.eval _ _ : Value) = Value.agg (vf F) from rfl, builtC F]; rfl) ?_ | refine wpList_galloc _ zeroC rfl rfl ?_)
  intro g3 w4 l4 h4 hb4
  have B4 := Lib.hid (thenBelow B3.out hb4); have H4 := Lib.hid (H3.out.below hb4); have C4 := Lib.hid (C3.out.later hb4); have D4 := Lib.hid (D3.out.later hb4)
  have h13 : g1 < g3 := Nat.lt_of_lt_of_le C3.out.lt l4
  have h23 : g2 < g3 := Nat.lt_of_lt_of_le D3.out.lt l4
  have hb3' : ∀ b o, p = some ⟨b, o, none⟩ → l ≠ [] → b < g3 := fun b o e hn => by
    obtain ⟨b', o', e', hr⟩ := H3.out.row hn
    rw [e] at e'; cases e'
    exact Nat.lt_of_lt_of_le (range_lt hr hn) l4
  have lw3 := Nat.le_trans B3.out.size l4
  clear hb4
  go_wp2_with (refine wpList_gstore rfl _ _ rfl g3 rfl (ccs F (.slice none 0 0)) rfl _ _ h4 (sizeC F _) (by rw [ccs_size, ccs_size]) (ccs_one F none 0 0) ?_)
  intro w5 h5 g5
  have E5 : Hid (Cx w5 g3 F (.slice none 0 0)) := h5
  have B5 := Lib.hid (B4.out.trans (grown_below g5 B4.out.size lw3)); have H5 := Lib.hid (H4.out.kept hb3' g5 (Nat.le_refl _)); have C5 := Lib.hid (C4.out.kept g5 (by simp; omega)); have D5 := Lib.hid (D4.out.kept g5 (by simp; omega))
  clear h5 g5 h4 hb3'
  have hsl := C5.out.slot
  have CL := Lib.hid (cloneD_is p c l w5 H5.out.row H5.out.none H5.out.spot (by omega))
  go_wp2_with fail
  refine CL.out.mono ?_
  rintro e w6 ⟨v6, rfl, hown6, hb6⟩
  obtain ⟨_, pq, cq, rfl, hcq, _, hnone, hsome⟩ := own_drow hown6
  have B6 := Lib.hid (thenBelow B5.out hb6); have D6 := Lib.hid (D5.out.later hb6); have E6 := Lib.hid (E5.out.later hb6)
  clear hb6 CL hsl hown6
  cases pq with
  | none =>
    obtain ⟨hl0, hc0⟩ := hnone rfl
    subst hl0 hc0
    have SO := Lib.hid (sortNone_is none 0 (.func (.func 20) #[] #[]) w6)
    have CO := Lib.hid (compactNone_is none 0 w6)
    clear hnone hsome
    have IT : Hid (IsTidy f [] F []) := by have := (Upd.start f).tidy (l := []) (fun d => Iff.rfl); rw [← HF.out] at this; exact this
    go_wp2_with fail
    refine SO.out.mono ?_
    rintro e w' ⟨rfl, rfl⟩
    clear SO
    go_wp2_with fail
    refine CO.out.mono ?_
    rintro e w' ⟨rfl, rfl⟩
    clear CO
    go_wp2
    refine wp_loop_rounds 1 ?_
    rw [rounds_succ]
    go_wp2_with (first | refine wpList_gload rfl _ rfl g3 0 rfl _ (range_of_block E6.out) _ Try.underlying26 rfl (by rw [Array.length_toList]; exact sizeC _ _) ?_ | refine wpList_gstore rfl _ _ rfl g2 rfl (ccs F (.slice none 0 0)) rfl _ _ D6.out (sizeC _ _) (by rw [ccs_size, ccs_size]) (ccs_one F none 0 0) ?_)
    intro wz hz gz
    have BZ := Lib.hid (B6.out.trans (grown_below gz B6.out.size lw2))
    have WZ := Lib.hid (own_kept (show w6.ownsRow (g2 + 1) 28 2 (.slice none 0 0) 0 (dcl []) from ⟨rfl, .inl ⟨rfl, rfl⟩⟩) gz (Nat.lt_succ_self _))
    have HZ := Lib.hid hz
    clear gz hz
    go_wp2
    exact bodyPost_ret (v := .agg (ccs F (.slice none 0 0))) (results_cell_row rfl _ wz g2 _ _ (0, 0) _ rfl HZ.out Try.underlying26 rfl (sizeC _ _)) rfl ⟨F, [], (.slice none 0 0), IT.out, rfl, (show wz.ownsRow w.heap.size 28 2 (.slice none 0 0) 0 (dcl []) from ⟨rfl, .inl ⟨rfl, rfl⟩⟩), BZ.out⟩
  | some a =>
    obtain ⟨gq, rfl, lq, hO6⟩ := hsome a rfl
    have O6 := Lib.hid hO6
    have h3q : g3 < gq := Nat.lt_of_lt_of_le E5.out.lt lq
    have h2q : g2 < gq := Nat.lt_of_lt_of_le D5.out.lt lq
    have lwq := Nat.le_trans B5.out.size lq
    have SO := Lib.hid (sortD_is gq cq l w6 hO6 (by omega))
    clear hnone hsome hO6
    go_wp2_with fail
    refine SO.out.mono ?_
    rintro e w7 ⟨rfl, S, hord, hO7, hg7⟩
    obtain ⟨hperm, hpw⟩ := hord
    have hSl := hperm.length_eq
    have B7 := Lib.hid (B6.out.trans (grown_below hg7 B6.out.size lwq)); have D7 := Lib.hid (D6.out.kept hg7 (by simp; omega)); have E7 := Lib.hid (E6.out.kept hg7 (by simp; omega))
    have CO := compactD_is gq cq S w7 hO7 (by omega) (by omega)
    rw [hSl] at CO
    have CO := Lib.hid CO
    have hRi := dedup_rises S hpw
    have hMe : ∀ d, d ∈ dedup S ↔ d ∈ l := fun d => (dedup_mem S d).trans hperm.mem_iff
    have hLe := dedup_le S
    clear hg7 SO hO7 hperm hpw O6
    go_wp2_with fail
    refine CO.out.mono ?_
    rintro e w8 ⟨rfl, hO8, hg8⟩
    have B8 := Lib.hid (B7.out.trans (grown_below hg8 B7.out.size lwq)); have D8 := Lib.hid (D7.out.kept hg8 (by simp; omega)); have E8 := Lib.hid (E7.out.kept hg8 (by simp; omega))
    have O8 := Lib.hid hO8
    clear hg8 CO hO8
    obtain ⟨L, hL⟩ : ∃ L, L = dedup S := ⟨_, rfl⟩
    rw [← hL] at hRi hMe hLe O8
    simp only [← hL]
    have RI := Lib.hid hRi; have ME := Lib.hid hMe
    have hL1 : L.length ≤ 1000 := by omega
    clear hL hRi hMe hLe hSl
    have hq8 : gq < w8.heap.size := O8.out.lt
    obtain ⟨N, hN⟩ : ∃ N, N = w8.heap.size := ⟨_, rfl⟩
    have hNq : gq < N := by omega
    have hwN : w.heap.size ≤ N := by rw [hN]; exact B8.out.size
    go_wp2
    go_loopw [19] (fun i wr => ∃ k : Nat, k ≤ L.length ∧ i = .int .i64 k ∧ TStage wr g3 N f L k ∧ OwnD wr gq L ∧ Cx wr g2 (fun _ => 0) (.slice none 0 0) ∧ Below w.heap.size w wr ∧ N ≤ wr.heap.size) (fun i _ => L.length - (intOf i).toNat)
    case atStart => exact ⟨0, Nat.zero_le _, rfl, ⟨F, [], .slice none 0 0, by rw [HF.out]; exact Upd.start f, E8.out, ⟨rfl, .inl ⟨rfl, rfl⟩⟩, Nat.le_refl _⟩, O8.out, D8.out, B8.out, by omega⟩
    case round =>
      obtain ⟨k, hk, rfl, hst, hso, hdx, hb, hNw⟩ := hrel
      clear hN hq8
      obtain ⟨G, o, v, hU, hE, hown, hok⟩ := hst
      have S := Lib.hid hso; have D := Lib.hid hdx; have B := Lib.hid hb; have U := Lib.hid hU; have E := Lib.hid hE; have W := Lib.hid hown
      by_cases hkL : k < L.length
      · have hkL' : (k : Int) < L.length := by omega
        obtain ⟨r1, r2⟩ := hso.cells k hkL
        have hlt := rises_take RI.out k hkL
        have htk := take_next L k hkL
        obtain ⟨d, hd⟩ : ∃ d, d = L[k] := ⟨_, rfl⟩
        rw [← hd] at r1 r2 hlt htk
        clear hd
        have LT := Lib.hid hlt; have TK := Lib.hid htk
        have SR : Hid (wr.rangeAt gq (k * 2) (dcs d.1 d.2).toList) := fun j u hu => by
          match j, hu with
          | 0, hu => simp [dcs] at hu; subst hu; exact r1
          | 1, hu => simp [dcs] at hu; subst hu; exact r2
          | j + 2, hu => simp [dcs] at hu
        clear hso hdx hb hU hE hown hlt htk r1 r2
        have VL := Lib.hid (fun W => valid_is d.1 d.2 W)
        have HA := Lib.hid (fun W => has_is G d.1 d.2 W)
        obtain ⟨r, n⟩ := d
        simp only at *
        go_wp2_with (first | refine wpList_gload rfl _ rfl gq (k * 2) rfl _ SR.out _ Try.underlying28 rfl (sizeDl r n) ?_ | refine wpList_galloc _ zeroD rfl rfl ?_)
        intro g6 w9 l9 h9 hb9
        have B9 := Lib.hid (thenBelow B.out hb9); have S9 := Lib.hid (S.out.later hb9); have D9 := Lib.hid (D.out.later hb9); have E9 := Lib.hid (E.out.later hb9); have W9 := Lib.hid (own_lat W.out hb9)
        have h36 : g3 < g6 := Nat.lt_of_lt_of_le E.out.lt l9
        have h26 : g2 < g6 := Nat.lt_of_lt_of_le D.out.lt l9
        have hq6 : gq < g6 := Nat.lt_of_lt_of_le S.out.lt l9
        have lw6 := Nat.le_trans B.out.size l9
        have hN9 : N ≤ w9.heap.size := Nat.le_trans hNw hb9.size
        clear hb9
        go_wp2_with (refine wpList_gstore rfl _ _ rfl g6 rfl (dcs r n) rfl _ _ h9 (sizeD r n) rfl (dcs_one r n) ?_)
        intro wa ha ga
        have BA := Lib.hid (B9.out.trans (grown_below ga B9.out.size lw6)); have SA := Lib.hid (S9.out.kept ga (by simp; omega)); have DA := Lib.hid (D9.out.kept ga (by simp; omega)); have EA := Lib.hid (E9.out.kept ga (by simp; omega))
        have WA := Lib.hid (W9.out)
        have hNa : N ≤ wa.heap.size := Nat.le_trans hN9 ga.size
        have hg6 : N ≤ g6 := Nat.le_trans hNw l9
        have WA : Hid (wa.ownsRow N 28 2 v o.length (dcl o)) := by
          have := W9.out
          refine ⟨this.1, ?_⟩
          rcases this.2 with q | ⟨b, cap, cur, q1, q2, q3, q4⟩
          · exact .inl q
          · have hlt' : b < wr.heap.size := by
              rcases W.out.2 with z | ⟨b', cap', cur', z1, z2, z3, z4⟩
              · obtain ⟨z, _⟩ := z; rw [z] at q1; cases q1
              · rw [z1] at q1; cases q1; exact (Array.getElem?_eq_some_iff.1 z3).1
            exact .inr ⟨b, cap, cur, q1, q2, (ga.block b (Array.getElem?_eq_some_iff.1 q3).1 (by intro e; have := Option.some.inj e; omega)).trans q3, q4⟩
        have RA := Lib.hid (range_of_block ha)
        clear ha ga h9 W9
        go_wp2_with (first | refine wpList_gload rfl _ rfl g6 0 rfl _ RA.out _ Try.underlying28 rfl (sizeDl r n) ?_)
        refine (VL.out _).mono ?_
        rintro e wb ⟨rfl, hbb⟩
        have BB := Lib.hid (thenBelow BA.out hbb); have SB := Lib.hid (SA.out.later hbb); have DB := Lib.hid (DA.out.later hbb); have EB := Lib.hid (EA.out.later hbb); have RB := Lib.hid (range_below RA.out hbb); have WB := Lib.hid (own_lat WA.out hbb)
        have hNb : N ≤ wb.heap.size := Nat.le_trans hNa hbb.size
        clear hbb WA
        cases hv : vldB r n with
        | false =>
          have US := Lib.hid (U.out.skip (d := (r, n)) (.inl hv))
          rw [← TK.out] at US
          rw [hv] at VL
          clear hv
          go_wp2
          go_roundw
          case rel => exact ⟨k + 1, by omega, by go_num, ⟨G, o, v, US.out, EB.out, WB.out, by omega⟩, SB.out, DB.out, BB.out, hNb⟩
          case measure => simp [intOf]; omega
        | true =>
          have hv' := (vld_iff r n).1 hv
          obtain ⟨i, rfl⟩ : ∃ i : Nat, r = (i : Int) := ⟨r.toNat, by omega⟩
          have hi : i < 64 := by omega
          have hin := has_in G i n hv
          rw [hin] at HA
          go_wp2_with (first | refine wpList_vmidG vecI (by rfl) _ rfl g3 0 rfl _ EB.out.range ?_ | refine wpList_gloadG (by rfl) _ rfl g6 0 rfl _ RB.out _ Try.underlying28 rfl (sizeDl i n) ?_)
          refine (HA.out _).mono ?_
          rintro e wc ⟨rfl, hbc⟩
          have BC := Lib.hid (thenBelow BB.out hbc); have SC := Lib.hid (SB.out.later hbc); have DC := Lib.hid (DB.out.later hbc); have EC := Lib.hid (EB.out.later hbc); have RC := Lib.hid (range_below RB.out hbc); have WC := Lib.hid (own_lat WB.out hbc)
          have hNc : N ≤ wc.heap.size := Nat.le_trans hNb hbc.size
          clear hbc WB
          by_cases hG : n ≤ G i
          · have US := Lib.hid (U.out.skip (d := ((i : Int), n)) (.inr (by simpa using hG)))
            rw [← TK.out] at US
            have hde : decide (n ≤ G i) = true := decide_eq_true hG
            clear hv hin hv'
            go_wp2
            go_roundw
            case rel => exact ⟨k + 1, by omega, by go_num, ⟨G, o, v, US.out, EC.out, WC.out, by omega⟩, SC.out, DC.out, BC.out, hNc⟩
            case measure => simp [intOf]; omega
          · have hde : decide (n ≤ G i) = false := decide_eq_false hG
            have c0 : wc.cell? ⟨g6, 0, none⟩ = some (.int .i64 (i : Int)) := RC.out 0 _ rfl
            have c1 : wc.cell? ⟨g6, 1, none⟩ = some (.int .i64 n) := RC.out 1 _ rfl
            have c2 := EC.out.cell i hi
            have hGi := U.out.base i hi
            have hcl := clampF_in f i
            have hw3 : IntKind.i64.wrap (G i + 1) = G i + 1 := by simp [IntKind.wrap, IntKind.bits, IntKind.signed]; omega
            have hp0 : (0 : Int) ≤ (i : Int) := by omega
            have hp1 : (i : Int) < 64 := by omega
            by_cases hn1 : n = G i + 1
            · subst hn1
              have UM : Hid (Upd f (L.take (k + 1)) (vset G i (G i + 1)) o) := by
                have := U.out.more (d := ((i : Int), G i + 1)) LT.out hv (by simp)
                rw [← TK.out] at this
                show Upd f (L.take (k + 1)) (vset G i (G i + 1)) o
                simpa using this
              clear hv hin hGi hcl
              go_wp2
              go_quiet (fail)
              have hb2 : Below wc.heap.size wc (wc.drewN nq) := ⟨rfl, rfl, rfl, Nat.le_refl _, fun _ _ => rfl⟩
              have BD := Lib.hid (thenBelow BC.out hb2); have SD := Lib.hid (SC.out.later hb2); have DD := Lib.hid (DC.out.later hb2); have ED := Lib.hid (EC.out.later hb2); have RD := Lib.hid (range_below RC.out hb2); have WD := Lib.hid (own_lat WC.out hb2)
              have hNd : N ≤ (wc.drewN nq).heap.size := hNc
              generalize wc.drewN nq = wd at hb2 BD SD DD ED RD WD hNd ⊢
              clear hb2 c0 c1 c2
              have c0 : wd.cell? ⟨g6, 0, none⟩ = some (.int .i64 (i : Int)) := RD.out 0 _ rfl
              have c1 : wd.cell? ⟨g6, 1, none⟩ = some (.int .i64 (G i + 1)) := RD.out 1 _ rfl
              have c2 := ED.out.cell i hi
              have f2 := ED.out.free i
              have hG := Lib.hid (grown_cell wd g3 i (.int .i64 (G i + 1)))
              have EE := Lib.hid (ED.out.set i hi (G i + 1))
              have BE := Lib.hid (BD.out.trans (grown_below hG.out BD.out.size lw3)); have SE := Lib.hid (SD.out.kept hG.out (by simp; omega)); have DE := Lib.hid (DD.out.kept hG.out (by simp; omega)); have WE := Lib.hid (own_kept WD.out hG.out (by omega))
              have hNe : N ≤ (wd.setCell ⟨g3, i, none⟩ (.int .i64 (G i + 1))).heap.size := Nat.le_trans hNd hG.out.size
              go_wp2
              go_roundw
              case rel => exact ⟨k + 1, by omega, by go_num, ⟨vset G i (G i + 1), o, v, UM.out, EE.out, WE.out, by omega⟩, SE.out, DE.out, BE.out, hNe⟩
              case measure => simp [intOf]; omega
            · have UF : Hid (Upd f (L.take (k + 1)) G (o ++ [((i : Int), n)])) := by
                have := U.out.far (d := ((i : Int), n)) LT.out hv (by simpa using hG) (by simpa using hn1)
                rw [← TK.out] at this
                exact this
              clear hv hin hGi hcl
              go_wp2
              go_quiet (fail)
              have hb2 : Below wc.heap.size wc (wc.drewN nq) := ⟨rfl, rfl, rfl, Nat.le_refl _, fun _ _ => rfl⟩
              have BD := Lib.hid (thenBelow BC.out hb2); have SD := Lib.hid (SC.out.later hb2); have DD := Lib.hid (DC.out.later hb2); have ED := Lib.hid (EC.out.later hb2); have RD := Lib.hid (range_below RC.out hb2); have WD := Lib.hid (own_lat WC.out hb2)
              have hNd : N ≤ (wc.drewN nq).heap.size := hNc
              generalize wc.drewN nq = wd at hb2 BD SD DD ED RD WD hNd ⊢
              clear hb2 c0 c1 c2
              have c0 : wd.cell? ⟨g6, 0, none⟩ = some (.int .i64 (i : Int)) := RD.out 0 _ rfl
              have c1 : wd.cell? ⟨g6, 1, none⟩ = some (.int .i64 n) := RD.out 1 _ rfl
              have c2 := ED.out.slot
              obtain ⟨i0, hi0, hz0, hz1, hz2⟩ := info_parts infoDt
              have hbx := below_alloc wd (.cells #[.int .i64 (i : Int), .int .i64 n] 28)
              have BX := Lib.hid (thenBelow BD.out hbx); have SX := Lib.hid (SD.out.later hbx); have DX := Lib.hid (DD.out.later hbx); have EX := Lib.hid (ED.out.later hbx); have WX := Lib.hid (own_lat WD.out hbx)
              have hNx : N ≤ (wd.alloc (.cells #[.int .i64 (i : Int), .int .i64 n] 28)).heap.size := Nat.le_trans hNd hbx.size
              have hNW : Hid (∀ j u, (dvs ((i : Int), n))[j]? = some u → (wd.alloc (.cells #[.int .i64 (i : Int), .int .i64 n] 28)).cell? ((⟨wd.heap.size, 0, none⟩ : Addr).add j) = some u) := by
                intro j u hu
                rw [Addr.add_mid, Nat.zero_add, cell_of_row _ wd.heap.size j _ _ _ (heap_alloc_new wd _)]
                simpa [dvs] using hu
              have h1c : Hid (∀ u ∈ dvs ((i : Int), n), u.oneCell' = true) := by
                intro u hu
                simp [dvs] at hu
                rcases hu with rfl | rfl <;> rfl
              have hml : o.length + 1 ≤ maxLen := by unfold maxLen; omega
              have hml2 : (o.length + 1) * 16 ≤ 140737488355328 := by omega
              clear hbx
              go_wp2_with (at_builtin; refine wpList_append_own _ rfl _ _ 24 rfl N 28 i0 _ 2 16 Try.underlying24 hi0 hz0 hz1 hz2 rfl (by decide) v o.length (dcl o) rfl WX.out ⟨wd.heap.size, 0, none⟩ 1 1 (dvs ((i : Int), n)) rfl rfl hNW.out h1c.out hml hml2 hNx ?_)
              intro v' we hown2 hg2 _
              have hb3 : Below N (wd.alloc (.cells #[.int .i64 (i : Int), .int .i64 n] 28)) we := (Below.refl _ _).grown hg2 hNx (fun b hb => (WX.out.lt b hb).1)
              have hne : ∀ b, b < N → some b ≠ v.ownBlock := fun b hb e => by have := (WX.out.lt b e.symm).1; omega
              have SY := Lib.hid (SX.out.kept hg2 (hne gq hNq)); have DY := Lib.hid (DX.out.kept hg2 (hne g2 (by omega))); have EY := Lib.hid (EX.out.kept hg2 (hne g3 (by omega)))
              have BY := Lib.hid (BX.out.trans (hb3.mono hwN))
              have hNy : N ≤ we.heap.size := Nat.le_trans hNx hg2.size
              have WY : Hid (we.ownsRow N 28 2 v' (o ++ [((i : Int), n)]).length (dcl (o ++ [((i : Int), n)]))) := by
                rw [List.length_append, dcl_append]; exact hown2
              clear hown2 hg2 hb3 hne c0 c1 c2
              have c2 := EY.out.slot
              have f2 := EY.out.free 64
              have hG := Lib.hid (grown_cell we g3 64 v')
              have EE := Lib.hid (EY.out.setSlot v')
              have BE := Lib.hid (BY.out.trans (grown_below hG.out BY.out.size lw3)); have SE := Lib.hid (SY.out.kept hG.out (by simp; omega)); have DE := Lib.hid (DY.out.kept hG.out (by simp; omega)); have WE := Lib.hid (own_kept WY.out hG.out (by omega))
              have hNe : N ≤ (we.setCell ⟨g3, 64, none⟩ v').heap.size := Nat.le_trans hNy hG.out.size
              obtain ⟨pv, cv, hpv⟩ := own_shape WY.out
              have hol : (o ++ [((i : Int), n)]).length ≤ k + 1 := by simp; omega
              generalize o ++ [((i : Int), n)] = o2 at UF WE WY hol hpv
              subst hpv
              clear hml hml2 hi0 hz0 hz1 hz2
              go_wp2
              go_roundw
              case rel => exact ⟨k + 1, by omega, by go_num, ⟨G, o2, _, UF.out, EE.out, WE.out, hol⟩, SE.out, DE.out, BE.out, hNe⟩
              case measure => simp [intOf]; omega
      · obtain rfl : k = L.length := by omega
        have hkL' : ¬ (L.length : Int) < L.length := by omega
        rw [List.take_length] at hU
        have IT := Lib.hid (hU.tidy ME.out)
        obtain ⟨pv, cv, rfl⟩ := own_shape hown
        clear hso hdx hb hU hE hown
        go_wp2_with (first | refine wpList_gload rfl _ rfl g3 0 rfl _ (range_of_block E.out) _ Try.underlying26 rfl (by rw [Array.length_toList]; exact sizeC _ _) ?_ | refine wpList_gstore rfl _ _ rfl g2 rfl (ccs G (.slice pv o.length cv)) rfl _ _ D.out (sizeC _ _) (by rw [ccs_size, ccs_size]) (ccs_one G pv o.length cv) ?_)
        intro wz hz gz
        have BZ := Lib.hid (B.out.trans (grown_below gz B.out.size lw2))
        have WZ := Lib.hid (own_kept W.out gz (by omega))
        have HZ := Lib.hid hz
        clear gz hz
        go_wp2
        exact bodyPost_ret (v := .agg (ccs G (.slice pv o.length cv))) (results_cell_row rfl _ wz g2 _ _ (0, 0) _ rfl HZ.out Try.underlying26 rfl (sizeC _ _)) rfl ⟨G, o, (.slice pv o.length cv), IT.out, rfl, own_down WZ.out hwN, BZ.out⟩
end Go.Proofs.Ytnfknnkhabjciaa
