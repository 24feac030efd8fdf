/- The statement AuditLooks, proved for every input that its row reads: part 41 of 54. -/
import Derived.Test.YtkpldjiloinaoaaDoorPackAuditLooks38
import Derived.Test.YtkpldjiloinaoaaDoorPackAuditLooks37
import Derived.Deep.CutBlock
import Derived.Deep.DeepCutAuto
/- audit.Look of any state and past. -/
namespace Go.Proofs.YtkpldjiloinaoaaDoor
open Go Go.RowKit
set_option linter.unusedVariables false
set_option maxRecDepth 1000000

theorem builtTr (k r n : Int) (w : World) : (Instr.build 39 #[(0, .int .i64 k), (1, .agg (dcs r n))]).run Tryd.prog w = .ok (.agg #[.int .i64 k, .int .i64 r, .int .i64 n]) w := run_build w _ _ _ (by kernel_rfl)
theorem trV_one (t : Tr) : ∀ u ∈ trV t, u.oneCell' = true := by intro u hu; simp [trV] at hu; rcases hu with rfl | rfl | rfl <;> rfl
def LookCut (w : World) (T : List Tr) (v : Value) (wx : World) : Prop := wx.ownsRow w.heap.size 39 3 v T.length (trs T) ∧ Below w.heap.size w wx
def CanT (b : Bool) : List Tr := if b then [] else [(1, 0, 0)]
def WinT (b : Bool) : List Tr := if b then [] else [(7, 0, 0)]
set_option maxHeartbeats 1000000 in
theorem lookG_is (F : Nat → Int) (q : Option Addr) (d : Nat) (L : List Wr) (p : Option Addr) (c : Nat) (E : List EvP) (fl : Nat → Int) (w : World) (hw : WrsAt w q L) (hE : EvsAt w p E) (hT : Shapes w) (hn : L.length ≤ 10000) (hm : E.length ≤ 100) (hg : ∀ x ∈ E, x.e.gone.length ≤ 1000) :
    Calls Tryd.prog 7 #[.agg (scs F (.slice q L.length d)), .agg (pcs (.slice p E.length c) fl)] w (TrR w (lookT F L fl E)) := by
  obtain ⟨bc, hbc⟩ : ∃ b, canB F L = b := ⟨_, rfl⟩
  obtain ⟨bw, hbw⟩ : ∃ b, vle fl F = b := ⟨_, rfl⟩
  have CN : Hid (∀ V : World, Below w.heap.size w V → Calls Tryd.prog 13 #[.agg (scs F (.slice q L.length d))] V (RetBool V bc)) := Lib.hid fun V hV => by rw [← hbc]; exact docCan_is F q d L V (hw.below hV) (hT.below hV)
  have WN : Hid (∀ V : World, Calls Tryd.prog 14 #[.agg (vf fl), .agg (vf F)] V (RetBool V bw)) := Lib.hid fun V => by rw [← hbw]; exact ownWithin_is fl F V
  have LT : Hid (lookT F L fl E = (CanT bc ++ WinT bw) ++ evsT F (dotsW L) [] E) := Lib.hid (by rw [lookT, headT, hbc, hbw]; rfl)
  have HW := Lib.hid hw; have HE := Lib.hid hE; have HT := Lib.hid hT; have HG := Lib.hid hg
  clear hw hE hT hg hbc hbw
  go_enter Tryd.func7, Tryd.ntmps7
  go_wp2_with (refine wpList_gbox rfl _ rfl (scs F (.slice q L.length d)) rfl ?_)
  intro g2 w1 l2 h2 hb1
  have S1 : Hid (Sx w1 g2 F (.slice q L.length d)) := Lib.hid h2
  have B1 := Lib.hid hb1
  clear h2 hb1
  go_wp2_with (refine wpList_gbox rfl _ rfl (pcs (.slice p E.length c) fl) rfl ?_)
  intro g3 w2 l3 h3 hb2
  have P2 : Hid (Px w2 g3 (.slice p E.length c) fl) := Lib.hid h3
  have S2 := Lib.hid (S1.out.later hb2); have B2 := Lib.hid (thenBelow B1.out hb2)
  have SW := Lib.hid S2.out.whole
  clear h3 hb2 S1 B1
  go_wp2_with (refine wpList_gload (t := 26) rfl _ rfl g2 0 rfl _ SW.out _ Tryd.underlying26 rfl (sizeStl _ _) ?_)
  refine (CN.out w2 B2.out).mono ?_
  rintro e w3 ⟨rfl, hb3⟩
  have S3 := Lib.hid (S2.out.later hb3); have P3 := Lib.hid (P2.out.later hb3); have B3 := Lib.hid (thenBelow B2.out hb3)
  clear hb3 S2 P2 B2 SW CN
  go_upto_if 13 with fail
  go_cut [5] (fun v wx => LookCut w (CanT bc) v wx ∧ StayT w3 wx)
  case first =>
    have O0 : Hid (w3.ownsRow w.heap.size 39 3 (.slice none 0 0) 0 []) := Lib.hid ⟨rfl, .inl ⟨rfl, rfl⟩⟩
    clear S3 P3 WN LT HW HE HT HG
    cases bc with
    | true =>
      go_wp2
      go_meet
      exact ⟨⟨⟨rfl, .inl ⟨rfl, rfl⟩⟩, B3.out⟩, StayT.refl _⟩
    | false =>
      go_wp2_with (at_builtin; refine wpList_trS _ rfl _ _ rfl w.heap.size 0 [] _ rfl O0.out [.int .i64 1, .int .i64 0, .int .i64 0] rfl (trV_one (1, 0, 0)) rfl (by omega) B3.out.size ?_)
      intro v9 w9 o9 b9 s9
      have O9 := Lib.hid o9; have S9 := Lib.hid s9; have B9 := Lib.hid (B3.out.trans b9)
      clear o9 b9 s9
      go_wp2
      go_meet
      exact ⟨⟨O9.out, B9.out⟩, S9.out⟩
  case rest =>
  obtain ⟨⟨ow, hb⟩, hs⟩ := hcut
  have OW := Lib.hid ow; have B4 := Lib.hid hb; have S4 := Lib.hid (hs.sx S3.out); have P4 := Lib.hid (hs.px P3.out)
  have SV := Lib.hid S4.out.vec; have PF := Lib.hid P4.out.floor
  clear ow hb hs S3 P3 B3
  go_wp2_with (first | refine wpList_gload (t := 23) rfl _ rfl g3 1 rfl _ PF.out _ Tryd.underlying23 rfl (sizeVcl _) ?_ | refine wpList_gload (t := 23) rfl _ rfl g2 0 rfl _ SV.out _ Tryd.underlying23 rfl (sizeVcl _) ?_)
  refine (WN.out wc).mono ?_
  rintro e w4 ⟨rfl, hb4⟩
  have S5 := Lib.hid (S4.out.later hb4); have P5 := Lib.hid (P4.out.later hb4); have B5 := Lib.hid (thenBelow B4.out hb4)
  have O5 := Lib.hid (own_later OW.out hb4)
  clear hb4 S4 P4 B4 SV PF OW WN
  obtain ⟨nc, hnc⟩ : ∃ n, (CanT bc).length = n := ⟨_, rfl⟩
  have NC : Hid ((CanT bc).length = nc) := Lib.hid hnc
  have lc : nc ≤ 1 := by rw [← hnc]; cases bc <;> decide
  rw [hnc] at O5
  clear hnc
  go_upto_if 23 with fail
  go_cut [5] (fun v wx => LookCut w (CanT bc ++ WinT bw) v wx ∧ StayT w4 wx)
  case first =>
    clear S5 P5 LT HW HE HT HG
    cases bw with
    | true =>
      go_wp2
      go_meet
      exact ⟨⟨by rw [show WinT true = [] from rfl, List.append_nil, NC.out]; exact O5.out, B5.out⟩, StayT.refl _⟩
    | false =>
      go_wp2_with (at_builtin; refine wpList_trS _ rfl _ _ rfl w.heap.size nc (trs (CanT bc)) _ rfl O5.out [.int .i64 7, .int .i64 0, .int .i64 0] rfl (trV_one (7, 0, 0)) rfl (by omega) B5.out.size ?_)
      intro v9 w9 o9 b9 s9
      have O9 := Lib.hid o9; have S9 := Lib.hid s9; have B9 := Lib.hid (B5.out.trans b9)
      clear o9 b9 s9
      go_wp2
      go_meet
      exact ⟨⟨by rw [show WinT false = [(7, 0, 0)] from rfl, trs_snoc, List.length_append, NC.out]; exact O9.out, B9.out⟩, S9.out⟩
  case rest =>
  obtain ⟨⟨ow, hb⟩, hs⟩ := hcut
  obtain ⟨T0, hT0⟩ : ∃ T, CanT bc ++ WinT bw = T := ⟨_, rfl⟩
  have lT : T0.length ≤ 2 := by rw [← hT0]; cases bc <;> cases bw <;> decide
  rw [hT0] at ow LT
  have OW := Lib.hid ow; have B6 := Lib.hid hb; have S6 := Lib.hid (hs.sx S5.out); have P6 := Lib.hid (hs.px P5.out)
  have SW := Lib.hid S6.out.whole
  have BG := Lib.hid (beginG_is F q d L wc (HW.out.below B6.out) hn)
  clear ow hb hs S5 P5 B5 O5 NC lc hT0 HW
  go_wp2_with (refine wpList_gload (t := 26) rfl _ rfl g2 0 rfl _ SW.out _ Tryd.underlying26 rfl (sizeStl _ _) ?_)
  refine BG.out.mono ?_
  rintro e w5 ⟨A, r1, r2, r3, rfl, fr, hA, h1, h2, h3, n12, n13, n23, hb5⟩
  have P7 := Lib.hid (P6.out.later hb5); have B7 := Lib.hid (thenBelow B6.out hb5); have O7 := Lib.hid (own_later OW.out hb5); have F7 := Lib.hid fr
  have z2 := Nat.le_trans B6.out.size h2; have z3 := Nat.le_trans B6.out.size h3
  clear fr hA h1 h2 h3 hb5 S6 P6 B6 OW SW BG
  generalize dotsW L = S at F7 LT
  have k0 := P7.out.slot
  go_wp2
  clear k0 P7
  go_loopw [5, 33] (fun v i wr => ∃ k : Nat, k ≤ E.length ∧ i = .int .i64 k ∧ LookCut w (T0 ++ evsT F S [] (E.take k)) v wr ∧ Frg wr A r1 r2 r3 F S (dotsE (E.take k))) (fun _ i _ => E.length - (RowKit.intOf i).toNat)
  case atStart => exact ⟨0, Nat.zero_le _, rfl, ⟨by simpa [evsT] using O7.out, B7.out⟩, F7.out⟩
  case round =>
    obtain ⟨k, hk, rfl, ⟨ow, hb⟩, fr⟩ := hrel
    clear O7 B7 F7
    have OR := Lib.hid ow; have BR := Lib.hid hb; have FR := Lib.hid fr
    clear ow hb fr
    by_cases hkl : k < E.length
    · have hkl' : (k : Int) < E.length := by omega
      have TK := Lib.hid (evsT_take F S E k hkl); have DK := Lib.hid (dotsE_take E k hkl)
      have l1 : (T0 ++ evsT F S [] (E.take k)).length ≤ 700 := by
        have := evsT_len F S (E.take k) []
        rw [List.length_take] at this
        rw [List.length_append]; omega
      obtain ⟨b, o, rfl, hlt, hq⟩ := (HE.out.below BR.out).at hkl
      have GX := Lib.hid (HG.out _ (List.getElem_mem hkl))
      have XO := Lib.hid ((HE.out.below BR.out).ok _ (List.getElem_mem hkl))
      obtain ⟨x, hx⟩ : ∃ y, E[k] = y := ⟨_, rfl⟩
      rw [hx] at hq TK DK GX XO
      have HQ := Lib.hid hq
      clear hq hx hlt
      obtain ⟨TT, hTT⟩ : ∃ T, T0 ++ evsT F S [] (E.take k) = T := ⟨_, rfl⟩
      rw [hTT] at OR l1
      have TE : Hid (T0 ++ evsT F S [] (E.take (k + 1)) = TT ++ evT F S (dotsE (E.take k)) x.e) := Lib.hid (by rw [TK.out, ← List.append_assoc, hTT])
      clear TK hTT
      generalize dotsE (E.take k) = M at FR TE DK
      go_wp2_with (first | refine wpList_gload (t := 48) rfl _ rfl b (o + k * 8) rfl _ HQ.out _ Tryd.underlying48 rfl (sizeEvA x) ?_ | refine wpList_galloc (t := 48) _ zeroEvA rfl rfl ?_)
      intro g8 w6 l8 h8 hb6
      have B6 := Lib.hid (thenBelow BR.out hb6); have W6 := Lib.hid hb6; have E6 := Lib.hid h8
      have l8W := Nat.le_trans BR.out.size l8
      clear h8 hb6 HQ
      go_wp2_with (refine wpList_gstore (t := 48) rfl _ _ rfl g8 rfl x.cells.toArray rfl _ _ E6.out (by rw [List.size_toArray]; exact sizeEvA x) rfl (fun v hv => x.cells_one v (by simpa using hv)) ?_)
      intro w7 h7 gr7
      have BW7 := Lib.hid (W6.out.trans (grown_below gr7 W6.out.size l8))
      have F7 := Lib.hid (FR.out.later BW7.out); have B7 := Lib.hid (thenBelow BR.out BW7.out); have O7 := Lib.hid (own_later OR.out BW7.out)
      have E7 : Hid (w7.heap[g8]? = some (.cells x.cells.toArray 48 (0, 0))) := Lib.hid h7
      have R7 : Hid (w7.rangeAt g8 0 x.cells) := Lib.hid (range_of_block h7)
      have WR := Lib.hid (wrongG_is A r1 r2 r3 F S M x w7 F7.out (XO.out.below BW7.out) GX.out (HT.out.below B7.out))
      have ES : Hid (evT F S M x.e = trk (kindL (kindsOf F S M x.e)) x.e.rep x.e.n) := Lib.hid (evT_trk F S M x.e)
      have l6 := kindL_le F S M x.e
      clear h7 gr7 B6 W6 E6 BW7 FR BR OR XO GX
      generalize kindL (kindsOf F S M x.e) = ks at WR ES l6
      go_wp2_with (refine wpList_gload (t := 48) rfl _ rfl g8 0 rfl _ R7.out _ Tryd.underlying48 rfl (sizeEvA x) ?_)
      refine WR.out.mono ?_
      rintro e w8 ⟨v8, he8, o8, hb8⟩
      have F8 := Lib.hid (F7.out.later hb8); have B8 := Lib.hid (thenBelow B7.out hb8); have O8 := Lib.hid (own_later O7.out hb8)
      have E8 : Hid (w8.heap[g8]? = some (.cells x.cells.toArray 48 (0, 0))) := Lib.hid ((hb8.block g8 (Array.getElem?_eq_some_iff.1 E7.out).1).trans E7.out)
      obtain ⟨-, q8, c8, hv8, -, -, -⟩ := own_liesI o8
      subst hv8
      subst he8
      have K8 : Hid (w8.ownsRow w7.heap.size 3 1 (.slice q8 ks.length c8) ks.length (ints ks)) := Lib.hid o8
      clear hb8 o8 F7 B7 O7 E7 R7 WR
      dsimp only
      go_wp2
      go_loopw [5, 41] (fun v i wy => ∃ j : Nat, j ≤ ks.length ∧ i = .int .i64 j ∧ LookCut w (TT ++ (trk ks x.e.rep x.e.n).take j) v wy ∧ StayT w8 wy) (fun _ i _ => ks.length - (RowKit.intOf i).toNat)
      case atStart => exact ⟨0, Nat.zero_le _, rfl, ⟨by rw [List.take_zero, List.append_nil]; exact O8.out, B8.out⟩, StayT.refl _⟩
      case round =>
        obtain ⟨j, hj, rfl, ⟨ow, hb⟩, hs⟩ := hrel
        have OY := Lib.hid ow; have BY := Lib.hid hb; have SY := Lib.hid hs
        clear ow hb hs O8 B8
        by_cases hjl : j < ks.length
        · have hjl' : (j : Int) < ks.length := by omega
          have TJ := Lib.hid (trk_take ks x.e.rep x.e.n j hjl)
          have l2 : (TT ++ (trk ks x.e.rep x.e.n).take j).length ≤ 800 := by
            rw [List.length_append, List.length_take, trk_len]; omega
          obtain ⟨NN, hNN⟩ : ∃ n, (TT ++ (trk ks x.e.rep x.e.n).take j).length = n := ⟨_, rfl⟩
          have OY2 : Hid (wr.ownsRow w.heap.size 39 3 u5 NN (trs (TT ++ (trk ks x.e.rep x.e.n).take j))) := Lib.hid (by rw [← hNN]; exact OY.out)
          have NH := Lib.hid hNN
          rw [hNN] at l2
          clear hNN OY
          obtain ⟨d8, of8, rfl, hd8, hc8⟩ := (own_liesI2 (SY.out.own K8.out (by decide))).at (by omega)
          have c0 := hc8 j hjl
          have R8 : Hid (wr.rangeAt g8 0 (dcs x.e.rep x.e.n).toList) := Lib.hid (xv_dot (SY.out.cells E8.out (by decide)))
          generalize ks.getD j 0 = K0 at c0 TJ
          clear hc8 hd8
          have BT := Lib.hid (builtTr K0 x.e.rep x.e.n)
          go_wp2_with (first | refine wpList_gload (t := 37) rfl _ rfl g8 0 rfl _ R8.out _ Tryd.underlying37 rfl (sizeDtA _ _) ?_ | refine wpList_pbuild (by rfl) _ rfl #[.int .i64 K0, .int .i64 x.e.rep, .int .i64 x.e.n] (by simp only [List.map_toArray, List.map_cons, List.map_nil]; exact BT.out _) ?_ | (at_builtin; refine wpList_trS _ rfl _ _ rfl w.heap.size NN _ _ rfl OY2.out [.int .i64 K0, .int .i64 x.e.rep, .int .i64 x.e.n] rfl (trV_one (K0, x.e.rep, x.e.n)) rfl (by omega) BY.out.size ?_))
          intro v9 w9 o9 b9 s9
          have O9 := Lib.hid o9; have B9 := Lib.hid (BY.out.trans b9); have S9 := Lib.hid (SY.out.trans s9)
          clear o9 b9 s9 OY2 BY SY
          go_wp2
          go_roundw
          case rel => exact ⟨j + 1, by omega, by simp, ⟨by rw [TJ.out, ← List.append_assoc, trs_snoc, List.length_append, NH.out]; exact O9.out, B9.out⟩, S9.out⟩
          case measure => simp [intOf]; omega
        · obtain rfl : j = ks.length := by omega
          have hjl' : ¬ ((ks.length : Nat) : Int) < ks.length := by omega
          have OF : Hid (wr.ownsRow w.heap.size 39 3 u5 (TT ++ trk ks x.e.rep x.e.n).length (trs (TT ++ trk ks x.e.rep x.e.n))) := Lib.hid (by
            have := OY.out
            rw [← trk_len ks x.e.rep x.e.n, List.take_length] at this
            exact this)
          have F9 := Lib.hid (SY.out.frg F8.out)
          have E9 : Hid (wr.heap[g8]? = some (.cells x.cells.toArray 48 (0, 0))) := Lib.hid (SY.out.cells E8.out (by decide))
          have R9 : Hid (wr.rangeAt g8 0 x.cells) := Lib.hid (range_of_block E9.out)
          have PS := Lib.hid (passG_is A r1 r2 r3 F S M x wr F9.out n12 n13 n23)
          clear F8 E8 K8 OY SY E9
          go_wp2_with (refine wpList_gload (t := 48) rfl _ rfl g8 0 rfl _ R9.out _ Tryd.underlying48 rfl (sizeEvA x) ?_)
          refine PS.out.mono ?_
          rintro e w9 ⟨⟨v9, rfl⟩, fr9, hbs, hgs⟩
          have OG := Lib.hid (own_pastG OF.out F9.out hgs)
          have BF := Lib.hid (BY.out.trans (hbs _ z2 z3 BY.out.size))
          have FF := Lib.hid fr9
          clear hbs hgs fr9 OF BY F9 R9 PS
          go_wp2
          go_roundw
          case rel => exact ⟨k + 1, by omega, by simp, ⟨by rw [TE.out, ES.out]; exact OG.out, BF.out⟩, by rw [DK.out]; exact FF.out⟩
          case measure => simp [intOf]; omega
    · obtain rfl : k = E.length := by omega
      have hkl' : ¬ ((E.length : Nat) : Int) < E.length := by omega
      rw [List.take_length] at OR
      go_wp2
      go_ret
      exact ⟨_, rfl, by rw [LT.out]; exact OR.out, BR.out⟩
end Go.Proofs.YtkpldjiloinaoaaDoor
