/- The statement AuditLooks, proved for every input that its row reads: part 45 of 54. -/
import Derived.Test.YtkpldjiloinaoaaDoorPackAuditLooks44
import Derived.Test.YtkpldjiloinaoaaDoorPackAuditLooks29
import Derived.Laws.OwnMore
/- The document's Look of any state and past. -/
namespace Go.Proofs.YtkpldjiloinaoaaDoor
open Go Go.RowKit
set_option linter.unusedVariables false
set_option maxRecDepth 1000000

theorem elemE36 : Tryd.prog.underlying 27 = some (.slice (Tryd.prog.elem 27)) := by kernel_rfl
theorem sizeE36 (w : World) : (sizeOf (Tryd.prog.elem 27)).run Tryd.prog w = .ok 8 w := by kernel_rfl
theorem exec_cutToE {o : Oper} {a : Act} (x y : Operand) (ho : o.op = .slice 27 x none (some y) none) (p : Option Addr) (A c n : Nat) (hx : a.eval x = .slice p A c) (hy : a.eval y = .int .i64 (n : Int)) (hn : n ≤ c) (w : World) :
    (execOp a.eval o).run Tryd.prog w = .ok (.value (.slice p n c)) w := by
  unfold execOp
  simp only [ho, hx, Option.map_none, Option.map_some, hy]
  refine run_value_of ?_
  rw [run_sliceAt_slice (h := elemE36), run_slice_h (ht := elemE36) (h0 := by omega) (h2 := by omega), sizeE36]
  simp only [Result.andThen, sliced, Int.toNat_natCast, Nat.zero_mul, Nat.sub_zero]
  cases p <;> simp [Addr.add]
theorem takeE {w : World} {p : Option Addr} {L : List EvP} (h : EvsAt w p L) (i : Nat) : EvsAt w p (L.take i) :=
  ⟨fun hn => by
    have h1 : L ≠ [] := fun e => hn (by simp [e])
    obtain ⟨b, o, e1, hr⟩ := h.row h1
    refine ⟨b, o, e1, fun j u hu => hr j u ?_⟩
    have e : ecl L = ecl (L.take i) ++ ecl (L.drop i) := by rw [← ecl_append, List.take_append_drop]
    rw [e, List.getElem?_append_left (List.getElem?_eq_some_iff.1 hu).1]
    exact hu, fun x hx => h.ok x (List.mem_of_mem_take hx), fun e => by rw [h.none e]; simp⟩
theorem exec_appT {P : Program} {o : Oper} {a : Act} {w : World} {t : TypeId} (s x : Operand) (ho : o.op = .call { callee := .builtin .append, args := #[s, x], argTypes := #[t, t] }) (v xv : Value) (hs : a.eval s = v) (hx : a.eval x = xv) {v' : Value} {w' : World} (hrun : (Builtin.append_ #[t, t] o.type #[v, xv]).run P w = .ok v' w') :
    (execOp a.eval o).run P w = .ok (.value v') w' := by
  simp [execOp, ho, resolve, invoke, builtin, hs, hx, hrun, Result.andThen]
theorem trs_length (T : List Tr) : (trs T).length = T.length * 3 := by
  induction T with
  | nil => rfl
  | cons t T ih => simp only [trs, List.flatMap_cons, List.length_append, List.length_cons] at ih ⊢; rw [ih]; simp [trV]; omega
theorem trs_one (T : List Tr) : ∀ u ∈ trs T, u.oneCell' = true := by
  intro u hu
  obtain ⟨t, _, h⟩ := List.mem_flatMap.1 hu
  exact trV_one t u h
theorem trs_app (a b : List Tr) : trs (a ++ b) = trs a ++ trs b := by simp [trs]
/-- troubles of one's own, put behind others of one's own -/
theorem run_appT (w : World) (ty : TypeId) (B n : Nat) (xs : List Value) (v : Value) (hown : w.ownsRow B 39 3 v n xs) (B2 : Nat) (v2 : Value) (T : List Tr) (h2 : w.ownsRow B2 39 3 v2 T.length (trs T)) (hlen : n + T.length ≤ 1000000) (hB : B ≤ w.heap.size) :
    ∃ v' w', (Builtin.append_ #[30, 30] ty #[v, v2]).run Tryd.prog w = .ok v' w' ∧ w'.ownsRow B 39 3 v' (n + T.length) (xs ++ trs T) ∧ Below B w w' ∧ StayT w w' := by
  obtain ⟨i0, hi, hz0, hz1, hz2⟩ := info_parts infoTr
  have h2' := h2
  rcases h2.2 with ⟨rfl, h0⟩ | ⟨g, cap, cur, rfl, hB2, hc, _⟩
  · have : T = [] := List.eq_nil_of_length_eq_zero h0
    subst this
    exact ⟨v, w, run_append_owned_none (P := Tryd.prog) (w := w) B 30 ty 39 i0 3 Tryd.underlying30 hi v n xs hown, by simpa [trs] using hown, Below.refl _ _, StayT.refl _⟩
  · obtain ⟨v', w', hrun, r1, r2, _⟩ := run_append_own (P := Tryd.prog) w B 30 ty 39 i0 _ 3 24 Tryd.underlying30 hi hz0 hz1 hz2 rfl (by decide) v n xs hown ⟨g, 0, none⟩ T.length cap (trs T) (trs_length T) (fun j u hu => by
        have hj : j < T.length * 3 := by rw [← trs_length]; exact (List.getElem?_eq_some_iff.1 hu).1
        have := h2'.cellAt j hj
        rw [Addr.add_mid, Nat.zero_add, this]; exact hu) (trs_one T) (by unfold maxLen; omega) (by omega) hB
    refine ⟨v', w', hrun, r1, (Below.refl B w).grown r2 hB (fun k hk => (hown.lt k hk).1), ⟨r2.size, fun g2 hg hn => ?_⟩⟩
    refine r2.block g2 hg (fun e => ?_)
    rcases hown.2 with ⟨q, _⟩ | ⟨g', cap', cur', rfl, _, hc', _⟩
    · rw [q] at e; cases e
    · cases e; exact hn _ _ hc'
set_option maxHeartbeats 1000000 in
theorem refLookG_is (F : Nat → Int) (q : Option Addr) (d : Nat) (L : List Wr) (p : Option Addr) (c : Nat) (E : List EvP) (fl : Nat → Int) (w : World) (hw : WrsAt w q L) (hE : EvsAt w p E) (hcap : E.length ≤ c) (hn : L.length ≤ 10000) (hm : E.length ≤ 100) (hg : ∀ x ∈ E, x.e.gone.length ≤ 1000) :
    Calls Tryd.prog 8 #[.agg (scs F (.slice q L.length d)), .agg (pcs (.slice p E.length c) fl)] w (TrR w (lookT F L fl E)) := by
  obtain ⟨bc, hbc⟩ : ∃ b, canB F L = b := ⟨_, rfl⟩
  obtain ⟨bw, hbw⟩ : ∃ b, vle fl F = b := ⟨_, rfl⟩
  have CN : Hid (∀ V : World, Below w.heap.size w V → Calls Tryd.prog 18 #[.agg (scs F (.slice q L.length d))] V (RetBool V bc)) := Lib.hid fun V hV => by rw [← hbc]; exact refCan_is F q d L V (hw.below hV)
  have WN : Hid (∀ V : World, Calls Tryd.prog 19 #[.agg (vf fl), .agg (vf F)] V (RetBool V bw)) := Lib.hid fun V => by rw [← hbw]; exact refWithin_is fl F V
  have LT : Hid (lookT F L fl E = (CanT bc ++ WinT bw) ++ evsT F (dotsW L) [] E) := Lib.hid (by rw [lookT, headT, hbc, hbw]; rfl)
  have HW := Lib.hid hw; have HE := Lib.hid hE; have HG := Lib.hid hg
  clear hw hE hg hbc hbw
  go_enter Tryd.func8, Tryd.ntmps8
  go_wp2_with (refine wpList_gbox rfl _ rfl (scs F (.slice q L.length d)) rfl ?_)
  intro g2 w1 l2 h2 hb1
  have S1 : Hid (Sx w1 g2 F (.slice q L.length d)) := Lib.hid h2
  have B1 := Lib.hid hb1
  clear h2 hb1
  go_wp2_with (refine wpList_gbox rfl _ rfl (pcs (.slice p E.length c) fl) rfl ?_)
  intro g3 w2 l3 h3 hb2
  have P2 : Hid (Px w2 g3 (.slice p E.length c) fl) := Lib.hid h3
  have S2 := Lib.hid (S1.out.later hb2); have B2 := Lib.hid (thenBelow B1.out hb2)
  have SW := Lib.hid S2.out.whole
  clear h3 hb2 S1 B1
  go_wp2_with (refine wpList_gload (t := 26) rfl _ rfl g2 0 rfl _ SW.out _ Tryd.underlying26 rfl (sizeStl _ _) ?_)
  refine (CN.out w2 B2.out).mono ?_
  rintro e w3 ⟨rfl, hb3⟩
  have S3 := Lib.hid (S2.out.later hb3); have P3 := Lib.hid (P2.out.later hb3); have B3 := Lib.hid (thenBelow B2.out hb3)
  clear hb3 S2 P2 B2 SW CN
  go_upto_if 10 with fail
  go_cut [5] (fun v wx => LookCut w (CanT bc) v wx ∧ StayT w3 wx)
  case first =>
    have O0 : Hid (w3.ownsRow w.heap.size 39 3 (.slice none 0 0) 0 []) := Lib.hid ⟨rfl, .inl ⟨rfl, rfl⟩⟩
    clear S3 P3 WN LT HW HE HG
    cases bc with
    | true =>
      go_wp2
      go_meet
      exact ⟨⟨⟨rfl, .inl ⟨rfl, rfl⟩⟩, B3.out⟩, StayT.refl _⟩
    | false =>
      go_wp2_with (at_builtin; refine wpList_trS _ rfl _ _ rfl w.heap.size 0 [] _ rfl O0.out [.int .i64 1, .int .i64 0, .int .i64 0] rfl (trV_one (1, 0, 0)) rfl (by omega) B3.out.size ?_)
      intro v9 w9 o9 b9 s9
      have O9 := Lib.hid o9; have S9 := Lib.hid s9; have B9 := Lib.hid (B3.out.trans b9)
      clear o9 b9 s9
      go_wp2
      go_meet
      exact ⟨⟨O9.out, B9.out⟩, S9.out⟩
  case rest =>
  obtain ⟨⟨ow, hb⟩, hs⟩ := hcut
  have OW := Lib.hid ow; have B4 := Lib.hid hb; have S4 := Lib.hid (hs.sx S3.out); have P4 := Lib.hid (hs.px P3.out)
  have SV := Lib.hid S4.out.vec; have PF := Lib.hid P4.out.floor
  clear ow hb hs S3 P3 B3
  go_wp2_with (first | refine wpList_gload (t := 23) rfl _ rfl g3 1 rfl _ PF.out _ Tryd.underlying23 rfl (sizeVcl _) ?_ | refine wpList_gload (t := 23) rfl _ rfl g2 0 rfl _ SV.out _ Tryd.underlying23 rfl (sizeVcl _) ?_)
  refine (WN.out wc).mono ?_
  rintro e w4 ⟨rfl, hb4⟩
  have S5 := Lib.hid (S4.out.later hb4); have P5 := Lib.hid (P4.out.later hb4); have B5 := Lib.hid (thenBelow B4.out hb4)
  have O5 := Lib.hid (own_later OW.out hb4)
  clear hb4 S4 P4 B4 SV PF OW WN
  obtain ⟨nc, hnc⟩ : ∃ n, (CanT bc).length = n := ⟨_, rfl⟩
  have NC : Hid ((CanT bc).length = nc) := Lib.hid hnc
  have lc : nc ≤ 1 := by rw [← hnc]; cases bc <;> decide
  rw [hnc] at O5
  clear hnc
  go_upto_if 20 with fail
  go_cut [5] (fun v wx => LookCut w (CanT bc ++ WinT bw) v wx ∧ StayT w4 wx)
  case first =>
    clear S5 P5 LT HW HE HG
    cases bw with
    | true =>
      go_wp2
      go_meet
      exact ⟨⟨by rw [show WinT true = [] from rfl, List.append_nil, NC.out]; exact O5.out, B5.out⟩, StayT.refl _⟩
    | false =>
      go_wp2_with (at_builtin; refine wpList_trS _ rfl _ _ rfl w.heap.size nc (trs (CanT bc)) _ rfl O5.out [.int .i64 7, .int .i64 0, .int .i64 0] rfl (trV_one (7, 0, 0)) rfl (by omega) B5.out.size ?_)
      intro v9 w9 o9 b9 s9
      have O9 := Lib.hid o9; have S9 := Lib.hid s9; have B9 := Lib.hid (B5.out.trans b9)
      clear o9 b9 s9
      go_wp2
      go_meet
      exact ⟨⟨by rw [show WinT false = [(7, 0, 0)] from rfl, trs_snoc, List.length_append, NC.out]; exact O9.out, B9.out⟩, S9.out⟩
  case rest =>
  obtain ⟨⟨ow, hb⟩, hs⟩ := hcut
  obtain ⟨T0, hT0⟩ : ∃ T, CanT bc ++ WinT bw = T := ⟨_, rfl⟩
  have lT : T0.length ≤ 2 := by rw [← hT0]; cases bc <;> cases bw <;> decide
  rw [hT0] at ow LT
  have OW := Lib.hid ow; have B6 := Lib.hid hb; have S6 := Lib.hid (hs.sx S5.out); have P6 := Lib.hid (hs.px P5.out)
  clear ow hb hs S5 P5 B5 O5 NC lc hT0
  have k0 := P6.out.slot
  go_wp2
  clear k0
  go_loopw [5, 28] (fun v i wr => ∃ k : Nat, k ≤ E.length ∧ i = .int .i64 k ∧ LookCut w (T0 ++ evsT F (dotsW L) [] (E.take k)) v wr ∧ Sx wr g2 F (.slice q L.length d) ∧ Px wr g3 (.slice p E.length c) fl) (fun _ i _ => E.length - (RowKit.intOf i).toNat)
  case atStart => exact ⟨0, Nat.zero_le _, rfl, ⟨by simpa [evsT] using OW.out, B6.out⟩, S6.out, P6.out⟩
  case round =>
    obtain ⟨k, hk, rfl, ⟨ow, hb⟩, sx, px⟩ := hrel
    clear OW B6 S6 P6
    have OR := Lib.hid ow; have BR := Lib.hid hb; have SR := Lib.hid sx; have PR := Lib.hid px
    clear ow hb sx px
    by_cases hkl : k < E.length
    · have hkl' : (k : Int) < E.length := by omega
      have hkc : k ≤ c := by omega
      have TK := Lib.hid (evsT_take F (dotsW L) E k hkl)
      have l1 : (T0 ++ evsT F (dotsW L) [] (E.take k)).length ≤ 700 := by
        have := evsT_len F (dotsW L) (E.take k) []
        rw [List.length_take] at this
        rw [List.length_append]; omega
      have EA := Lib.hid (HE.out.below BR.out)
      obtain ⟨b, o, rfl, hlt, hq⟩ := EA.out.at hkl
      have GX := Lib.hid (HG.out _ (List.getElem_mem hkl))
      have XO := Lib.hid (EA.out.ok _ (List.getElem_mem hkl))
      obtain ⟨x, hx⟩ : ∃ y, E[k] = y := ⟨_, rfl⟩
      rw [hx] at hq TK GX XO
      have HQ := Lib.hid hq
      clear hq hx hlt
      obtain ⟨TT, hTT⟩ : ∃ T, T0 ++ evsT F (dotsW L) [] (E.take k) = T := ⟨_, rfl⟩
      rw [hTT] at OR l1
      have TE : Hid (T0 ++ evsT F (dotsW L) [] (E.take (k + 1)) = TT ++ evT F (dotsW L) (dotsE (E.take k)) x.e) := Lib.hid (by rw [TK.out, ← List.append_assoc, hTT])
      have l6 : (evT F (dotsW L) (dotsE (E.take k)) x.e).length ≤ 6 := by rw [evT_len]; exact kindL_le ..
      have lTk : (E.take k).length = k := by rw [List.length_take]; omega
      have EV : Hid (∀ V : World, Below wr.heap.size wr V → Calls Tryd.prog 20 #[.agg (scs F (.slice q L.length d)), .slice (some ⟨b, o, none⟩) k c, .agg x.cells.toArray] V (TrR V (evT F (dotsW L) (dotsE (E.take k)) x.e))) := Lib.hid fun V hV => by
        have h := refEvent_is F q d L (some ⟨b, o, none⟩) c (E.take k) x V ((HW.out.below BR.out).below hV) ((takeE EA.out k).below hV) (XO.out.below hV) hn (by omega) GX.out
        rw [lTk] at h
        exact h
      clear TK hTT XO GX lTk
      generalize evT F (dotsW L) (dotsE (E.take k)) x.e = T9 at TE l6 EV
      go_wp2_with (first | refine wpList_gload (t := 48) rfl _ rfl b (o + k * 8) rfl _ HQ.out _ Tryd.underlying48 rfl (sizeEvA x) ?_ | refine wpList_galloc (t := 48) _ zeroEvA rfl rfl ?_)
      intro g7 w6 l7 h7 hb6
      have W6 := Lib.hid hb6; have E6 := Lib.hid h7
      have l7W := Nat.le_trans BR.out.size l7
      clear h7 hb6 HQ
      go_wp2_with (refine wpList_gstore (t := 48) rfl _ _ rfl g7 rfl x.cells.toArray rfl _ _ E6.out (by rw [List.size_toArray]; exact sizeEvA x) rfl (fun v hv => x.cells_one v (by simpa using hv)) ?_)
      intro w7 h7 gr7
      have BW := Lib.hid (W6.out.trans (grown_below gr7 W6.out.size l7))
      have S7 := Lib.hid (SR.out.later BW.out); have P7 := Lib.hid (PR.out.later BW.out); have O7 := Lib.hid (own_later OR.out BW.out)
      have E7 : Hid (w7.heap[g7]? = some (.cells x.cells.toArray 48 (0, 0))) := Lib.hid h7
      clear h7 gr7 W6 E6 SR PR OR EA
      go_wp2_with fail
      rename_i K3 hK3
      have bd : Below wr.heap.size wr w7.drew := to_drew BW.out
      have BD := Lib.hid (to_drew (thenBelow BR.out BW.out))
      have od : w7.drew.ownsRow w.heap.size 39 3 u5 TT.length (trs TT) := own_later (w := w7) O7.out (to_drew (Below.refl _ _))
      have m0 : Sx w7.drew g2 F (.slice q L.length d) ∧ Px w7.drew g3 (.slice (some ⟨b, o, none⟩) E.length c) fl ∧ w7.drew.heap[g7]? = some (.cells x.cells.toArray 48 (0, 0)) := ⟨S7.out.later (w := w7) (to_drew (Below.refl _ _)), P7.out.later (w := w7) (to_drew (Below.refl _ _)), E7.out⟩
      refine rg_last (by kernel_rfl) rfl (S := fun U => Sx U g2 F (.slice q L.length d) ∧ Px U g3 (.slice (some ⟨b, o, none⟩) E.length c) fl ∧ U.heap[g7]? = some (.cells x.cells.toArray 48 (0, 0))) ?_
      refine rgd_pure 0 (some 33) rfl rfl (u5) (by kernel_rfl) (by kernel_rfl) (by kernel_rfl) (fun _ _ _ _ h => h) (by kernel_rfl) (fun w => by kernel_rfl) m0 ?_
      refine rgd_pureS 1 (some 34) rfl rfl (.agg (scs F (.slice q L.length d))) (by kernel_rfl) (by kernel_rfl) (by kernel_rfl) (fun _ _ _ _ h => h) (by kernel_rfl) (fun U hU => exec_gload 26 _ rfl g2 0 (by kernel_rfl) _ hU.1.whole Tryd.underlying26 rfl (sizeStl _ _)) m0 ?_
      refine rgd_pure 2 (some 35) rfl rfl (.pointer (some ⟨g3, 0, none⟩)) (by kernel_rfl) (by kernel_rfl) (by kernel_rfl) (fun _ _ _ _ h => h) (by kernel_rfl) (fun w => by kernel_rfl) m0 ?_
      refine rgd_pureS 3 (some 36) rfl rfl (.slice (some ⟨b, o, none⟩) E.length c) (by kernel_rfl) (by kernel_rfl) (by kernel_rfl) (fun _ _ _ _ h => h) (by kernel_rfl) (fun U hU => exec_load1 _ _ rfl Tryd.underlying27 rfl ⟨g3, 0, none⟩ _ (by kernel_rfl) hU.2.1.slot) m0 ?_
      refine rgd_pure 4 (some 37) rfl rfl (.int .i64 k) (by kernel_rfl) (by kernel_rfl) (by kernel_rfl) (fun _ _ _ _ h => h) (by kernel_rfl) (fun w => by kernel_rfl) m0 ?_
      refine rgd_pure 5 (some 38) rfl rfl (.slice (some ⟨b, o, none⟩) k c) (by kernel_rfl) (by kernel_rfl) (by kernel_rfl) (fun _ _ _ _ h => h) (by kernel_rfl) (fun w => exec_cutToE _ _ rfl _ E.length c k (by kernel_rfl) (by kernel_rfl) hkc w) m0 ?_
      refine rgd_pureS 6 (some 39) rfl rfl (.agg x.cells.toArray) (by kernel_rfl) (by kernel_rfl) (by kernel_rfl) (fun _ _ _ _ h => h) (by kernel_rfl) (fun U hU => exec_gload 48 _ rfl g7 0 (by kernel_rfl) x.cells (range_of_block hU.2.2) Tryd.underlying48 rfl (sizeEvA x)) m0 ?_
      refine rgd_call 7 (some 40) (by kernel_rfl) rfl rfl (by kernel_rfl) 20 (#[.agg (scs F (.slice q L.length d)), .slice (some ⟨b, o, none⟩) k c, .agg x.cells.toArray]) (by kernel_rfl) (EV.out _ bd) ?_
      rintro _ V ⟨v2, rfl, o2, b7⟩
      have m1 : Sx V g2 F (.slice q L.length d) ∧ Px V g3 (.slice (some ⟨b, o, none⟩) E.length c) fl ∧ V.heap[g7]? = some (.cells x.cells.toArray 48 (0, 0)) := ⟨m0.1.later b7, m0.2.1.later b7, (b7.block g7 (Array.getElem?_eq_some_iff.1 m0.2.2).1).trans m0.2.2⟩
      refine ⟨_, rfl, m1, ?_⟩
      have ov := own_later od b7
      have bv := thenBelow BD.out b7
      obtain ⟨v3, V3, hrun, o3, b3, s3⟩ := run_appT V 30 w.heap.size TT.length (trs TT) u5 ov _ v2 T9 o2 (by omega) bv.size
      have m3 : Sx V3 g2 F (.slice q L.length d) ∧ Px V3 g3 (.slice (some ⟨b, o, none⟩) E.length c) fl ∧ V3.heap[g7]? = some (.cells x.cells.toArray 48 (0, 0)) := ⟨s3.sx m1.1, s3.px m1.2.1, s3.cells m1.2.2 (by decide)⟩
      refine rgd_run 8 (some 41) (by kernel_rfl) rfl rfl (by kernel_rfl) v3 V3 (exec_appT _ _ rfl u5 v2 (by kernel_rfl) (by kernel_rfl) hrun) m3 ?_
      refine rgd_pure 9 (some 5) rfl rfl (v3) (by kernel_rfl) (by kernel_rfl) (by kernel_rfl) (fun _ _ _ _ h => h) (by kernel_rfl) (fun w => by kernel_rfl) m3 ?_
      have M3 := Lib.hid m3; have O3 := Lib.hid o3; have B3 := Lib.hid (bv.trans b3)
      clear m0 m1 m3 o3 s3 b3 o2 b7 ov od bv bd hrun BD EV S7 P7 O7 E7 BW
      have KE : K3 { tmps := #[.agg (scs F (.slice q L.length d)), .agg (pcs (.slice (some ⟨b, o, none⟩) E.length c) fl), .pointer (some ⟨g2, 0, none⟩), .pointer (some ⟨g3, 0, none⟩), .slice none 0 0, v3, .int .i64 k, .pointer (some ⟨g7, 0, none⟩), u8, u9, u10, u11, u12, u13, u14, u15, u16, u17, u18, u19, u20, u21, u22, u23, u24, .pointer (some ⟨g3, 0, none⟩), .slice (some ⟨b, o, none⟩) E.length c, .int .i64 E.length, .int .i64 k, .bool true, .int .i64 k, .pointer (some ⟨b, o + k * 8, none⟩), .agg x.cells.toArray, u5, .agg (scs F (.slice q L.length d)), .pointer (some ⟨g3, 0, none⟩), .slice (some ⟨b, o, none⟩) E.length c, .int .i64 k, .slice (some ⟨b, o, none⟩) k c, .agg x.cells.toArray, v2, v3, u42, u43], defers := [] } V3 := by
        refine hK3 _ _ ?_
        clear hK3
        go_wp2
        go_roundw
        case rel => exact ⟨k + 1, by omega, by go_num, ⟨by rw [TE.out, List.length_append, trs_app]; exact O3.out, B3.out⟩, M3.out.1, M3.out.2.1⟩
        case measure => simp [intOf]; omega
      exact wpAnyH_done (by kernel_rfl) (Eq.mp (by kernel_rfl) KE) _
    · obtain rfl : k = E.length := by omega
      have hkl' : ¬ ((E.length : Nat) : Int) < E.length := by omega
      rw [List.take_length] at OR
      go_wp2
      go_ret
      exact ⟨_, rfl, by rw [LT.out]; exact OR.out, BR.out⟩
end Go.Proofs.YtkpldjiloinaoaaDoor
