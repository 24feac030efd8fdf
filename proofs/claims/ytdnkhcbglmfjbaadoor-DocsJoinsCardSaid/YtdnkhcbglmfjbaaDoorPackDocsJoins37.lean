/- The statement DocsJoins, proved for every input that its row reads: part 37 of 54. -/
import Derived.Test.YtdnkhcbglmfjbaaDoorPackDocsJoins30
/- docs.Apply of any state and any event. -/
namespace Go.Proofs.YtdnkhcbglmfjbaaDoor
open Go Go.RowKit
set_option linter.unusedVariables false
set_option maxRecDepth 1000000

set_option maxHeartbeats 8000000 in
theorem apply_is (F : Nat → Int) (p : Option Addr) (c : Nat) (L : List Wr) (x : EvP) (w : World) (h : WrsAt w p L) (ho : ∀ a, p = some a → ∃ b o, a = ⟨b, o, none⟩) (hn : L.length ≤ 9000) (hx : x.Ok w) (hT : Shapes w) (hg : x.e.gone.length ≤ 1000) :
    Calls Tryd.prog 14 #[.agg (scs F (.slice p L.length c)), .agg x.cells.toArray] w (StR w (apSeen F x.e) (apLive F L x.e) (chk x.e)) := by
  have HW := Lib.hid h; have HP := Lib.hid ho; have HX := Lib.hid hx; have HT := Lib.hid hT
  clear h ho hx hT
  have SZ := Lib.hid (sizeEv x)
  obtain ⟨FS, hFS⟩ : ∃ X, apSeen F x.e = X := ⟨_, rfl⟩
  obtain ⟨LL, hLL⟩ : ∃ X, apLive F L x.e = X := ⟨_, rfl⟩
  obtain ⟨X, hX⟩ : ∃ X, chk x.e = X := ⟨_, rfl⟩
  have CK := Lib.hid (fun (V : World) (hV : Below w.heap.size w V) => check_is x V ⟨HX.out.1.below hV, HX.out.2⟩ (HT.out.below hV))
  rw [hX] at CK
  rw [hFS, hLL, hX]
  have HFS := Lib.hid hFS; have HLL := Lib.hid hLL; have HCX := Lib.hid hX
  clear hFS hLL hX
  go_enter Tryd.func14, Tryd.ntmps14
  go_wp2_with (refine wpList_gbox rfl _ rfl (scs F (.slice p L.length c)) rfl ?_)
  intro g2 w1 l2 h2 hb1
  have S1 : Hid (Sx w1 g2 F (.slice p L.length c)) := Lib.hid h2
  have B1 := Lib.hid hb1
  clear h2 hb1
  go_wp2_with (refine wpList_gbox rfl _ rfl x.cells.toArray rfl ?_)
  intro g3 w2 l3 h3 hb2
  have S2 := Lib.hid (S1.out.later hb2); have B2 := Lib.hid (thenBelow B1.out hb2); have X2 := Lib.hid h3
  have n23 : g2 < g3 := Nat.lt_of_lt_of_le S1.out.lt l3
  clear h3 hb2 S1
  go_wp2_with (refine wpList_galloc _ zeroSt rfl rfl ?_)
  intro g4 w3 l4 h4 hb3
  have S3 := Lib.hid (S2.out.later hb3); have B3 := Lib.hid (thenBelow B2.out hb3)
  have X3 := Lib.hid ((hb3.block g3 (Array.getElem?_eq_some_iff.1 X2.out).1).trans X2.out)
  have Z3 : Hid (Sx w3 g4 (fun _ => 0) (.slice none 0 0)) := Lib.hid h4
  have n34 : g3 < g4 := Nat.lt_of_lt_of_le (Array.getElem?_eq_some_iff.1 X2.out).1 l4
  have lw4 : w.heap.size ≤ g4 := Nat.le_trans B2.out.size l4
  clear h4 hb3 S2 X2
  have RX : Hid (∀ V : World, Below w3.heap.size w3 V → V.rangeAt g3 0 x.cells) := Lib.hid fun V hV => range_below (by simpa using range_of_block X3.out) hV
  go_wp2_with (refine wpList_gload rfl _ rfl g3 0 rfl _ (RX.out w3 (Below.refl _ _)) _ Tryd.underlying38 rfl SZ.out ?_)
  refine (CK.out w3 B3.out).mono ?_
  rintro e w4 ⟨rfl, hb4⟩
  have S4 := Lib.hid (S3.out.later hb4); have B4 := Lib.hid (thenBelow B3.out hb4); have Z4 := Lib.hid (Z3.out.later hb4); have BX4 := Lib.hid hb4
  have X4 := Lib.hid ((hb4.block g3 (Array.getElem?_eq_some_iff.1 X3.out).1).trans X3.out)
  clear hb4 CK
  by_cases hX0 : X = 0
  · subst hX0
    have HS := Lib.hid (fun V : World => has_is F x.e.rep x.e.n V)
    have HFR : Hid (x.e = x.e) := Lib.hid rfl
    clear HFR
    obtain ⟨hb, hhb⟩ : ∃ hb, hasB F x.e.rep x.e.n = hb := ⟨_, rfl⟩
    rw [hhb] at HS
    have HHB := Lib.hid hhb
    clear hhb
    have SK : Hid (apSkip F x.e = hb) := Lib.hid (by unfold apSkip; rw [HHB.out, HCX.out]; simp)
    cases hb with
    | true =>
      have HFE : Hid (FS = F) := Lib.hid (by rw [← HFS.out]; unfold apSeen; rw [SK.out]; rfl)
      have HLE : Hid (LL = L) := Lib.hid (by rw [← HLL.out]; unfold apLive; rw [SK.out]; rfl)
      obtain ⟨k0, k1, k2, k3, k4, k5, k6, k7⟩ := ev_cells (RX.out w4 BX4.out)
      simp only [Nat.zero_add] at k0 k1 k2 k3 k4 k5 k6 k7
      clear HFS HLL HCX HHB SK RX SZ
      obtain ⟨⟨r, n, t, kd, d, fl, tx, gn⟩, gp, gc⟩ := x
      simp only at HS k0 k1 k2 k3 k4 k5 k6 k7
      have SV := Lib.hid (S4.out.vec)
      go_wp2_with (refine wpList_gloadG (by rfl) _ rfl g2 0 rfl _ SV.out _ Tryd.underlying23 rfl (sizeVcl F) ?_)
      refine (HS.out w4).mono ?_
      rintro e w5 ⟨rfl, hb5⟩
      have S5 := Lib.hid (S4.out.later hb5); have B5 := Lib.hid (thenBelow B4.out hb5); have Z5 := Lib.hid (Z4.out.later hb5)
      clear hb5 k0 k1 k2 k3 k4 k5 k6 k7 SV HS
      go_wp2_with fail
      rename_i K3 hK3
      have m0 : Sx w5.drew g2 F (.slice p L.length c) := S5.out
      refine rg_calm (by kernel_rfl) rfl (S := fun U => Sx U g2 F (.slice p L.length c)) ?_
      refine rgd_pure 0 (some 19) rfl rfl (.pointer (some ⟨g2, 0, none⟩)) (by kernel_rfl) (by kernel_rfl) (by kernel_rfl) (fun _ _ _ _ h => h) (by kernel_rfl) (fun w => by kernel_rfl) m0 ?_
      refine rgd_pureS 1 (some 20) rfl rfl (.agg (vf F)) (by kernel_rfl) (by kernel_rfl) (by kernel_rfl) (fun _ _ _ _ h => h) (by kernel_rfl) (fun U hU => exec_gload 23 _ rfl g2 0 (by kernel_rfl) _ (Sx.vec hU) Tryd.underlying23 rfl (sizeVcl F)) m0 ?_
      refine rgd_pure 2 (some 21) rfl rfl (.pointer (some ⟨g2, 64, none⟩)) (by kernel_rfl) (by kernel_rfl) (by kernel_rfl) (fun _ _ _ _ h => h) (by kernel_rfl) (fun w => by kernel_rfl) m0 ?_
      refine rgd_pureS 3 (some 22) rfl rfl (.slice p L.length c) (by kernel_rfl) (by kernel_rfl) (by kernel_rfl) (fun _ _ _ _ h => h) (by kernel_rfl) (fun U hU => exec_load1 _ _ rfl Tryd.underlying24 rfl ⟨g2, 64, none⟩ _ (by kernel_rfl) (Sx.slot hU)) m0 ?_
      refine rgd_pure 6 (some 25) rfl rfl (.int .i64 0) (by kernel_rfl) (by kernel_rfl) (by kernel_rfl) (fun _ _ _ _ h => h) (by kernel_rfl) (fun w => by kernel_rfl) m0 ?_
      refine rgd_call 4 (some 23) (by kernel_rfl) rfl rfl (by kernel_rfl) 31 (#[.slice p L.length c]) (by kernel_rfl) (cloneW_is p c L _ (HW.out.below (thenBelow B5.out (to_drew (Below.refl _ _)))) HP.out (by omega)) ?_
      rintro e U1 ⟨v1, rfl, o1, b1⟩
      obtain ⟨p1, c1, hv1, _⟩ := own_wat o1
      subst hv1
      have z1 : Sx U1 g4 (fun _ => 0) (.slice none 0 0) := Sx.later (w := w5.drew) Z5.out b1
      have m1 : Sx U1 g2 F (.slice p L.length c) := Sx.later (w := w5.drew) S5.out b1
      refine ⟨_, rfl, m1, ?_⟩
      have BU1 := Lib.hid (thenBelow B5.out (fromD b1))
      refine rgd_pure 5 (some 24) rfl rfl (.agg (scs F (.slice p1 L.length c1))) (by kernel_rfl) (by kernel_rfl) (by kernel_rfl) (fun _ _ _ _ h => h) (by kernel_rfl) (fun w => exec_build _ _ rfl _ (by simp only [List.map_toArray, List.map_cons, List.map_nil]; exact builtSt F p1 L.length c1 w)) m1 ?_
      have z2 := set_whole z1 (cs := scs F (.slice p1 L.length c1)) (by rw [scs_size, scs_size])
      have gz := grown_setCells g4 (scs F (.slice p1 L.length c1)).toList U1 0
      have m2 := m1.kept gz (by simp; omega)
      have o2 := own_keepT o1 z1 (by decide) gz
      have b2 := BU1.out.trans (grown_below gz BU1.out.size lw4)
      refine rgd_do 7 none (by kernel_rfl) rfl rfl (by kernel_rfl) _ (exec_wstore 26 _ _ rfl g4 (by kernel_rfl) (scs F (.slice p1 L.length c1)) (by kernel_rfl) (sizeSt _ _) (scs_one F rfl) z1 (by rw [scs_size, scs_size])) m2 ?_
      refine rgd_pure 8 (some 5) rfl rfl (.int .i64 0) (by kernel_rfl) (by kernel_rfl) (by kernel_rfl) (fun _ _ _ _ h => h) (by kernel_rfl) (fun w => by kernel_rfl) m2 ?_
      generalize U1.setCells g4 0 (scs F (.slice p1 L.length c1)).toList = U2 at z2 m2 o2 b2 ⊢
      have KE : K3 { tmps := #[.agg (scs F (.slice p L.length c)), .agg (EvP.cells ⟨⟨r, n, t, kd, d, fl, tx, gn⟩, gp, gc⟩).toArray, .pointer (some ⟨g2, 0, none⟩), .pointer (some ⟨g3, 0, none⟩), .pointer (some ⟨g4, 0, none⟩), .int .i64 0, .int .i64 0, undef, .agg (EvP.cells ⟨⟨r, n, t, kd, d, fl, tx, gn⟩, gp, gc⟩).toArray, .int .i64 0, .int .i64 0, .bool false, .bool false, .pointer (some ⟨g2, 0, none⟩), .agg (vf F), .pointer (some ⟨g3, 0, none⟩), .agg #[.int .i64 r, .int .i64 n], .bool true, .bool true, .pointer (some ⟨g2, 0, none⟩), .agg (vf F), .pointer (some ⟨g2, 64, none⟩), .slice p L.length c, .slice p1 L.length c1, .agg (scs F (.slice p1 L.length c1)), .int .i64 0, undef, undef, undef, undef, undef, undef, undef, undef, undef, undef, undef, undef, undef, undef, undef, undef, undef, undef, undef, undef, undef, undef, undef, undef, undef, undef, undef], defers := [] } U2 := by
        refine hK3 _ _ ?_
        have FO := Lib.hid (own_base o2 (show w.heap.size ≤ w5.drew.heap.size from B5.out.size)); have FB := Lib.hid b2; have FZ := Lib.hid z2
        clear hK3 m0 m1 m2 z1 z2 gz o1 o2 b1 b2
        go_wp2
        exact bodyPost_ret (v := .tuple #[.agg (scs F (.slice p1 L.length c1)), .int .i64 0]) (results_cell_two (p := 4) (q := 5) rfl _ U2 g4 _ _ (0, 0) _ rfl FZ.out Tryd.underlying26 rfl (sizeSt _ _) (.int .i64 0) rfl) rfl ⟨_, by rw [HFE.out], by rw [HLE.out]; exact FO.out, FB.out⟩
      exact wpAnyH_done (by kernel_rfl) (Eq.mp (by kernel_rfl) KE) _
    | false =>
      have HFE : Hid (FS = withF F x.e.rep x.e.n) := Lib.hid (by rw [← HFS.out]; unfold apSeen; rw [SK.out]; rfl)
      have HLE : Hid (LL = if x.e.kind = 1 then insW (leftOf L x.e) (wrote x.e) else leftOf L x.e) := Lib.hid (by rw [← HLL.out]; unfold apLive; rw [SK.out]; rfl)
      have WI := Lib.hid (fun V : World => with_is F x.e.rep x.e.n V)
      obtain ⟨k0, k1, k2, k3, k4, k5, k6, k7⟩ := ev_cells (RX.out w4 BX4.out)
      simp only [Nat.zero_add] at k0 k1 k2 k3 k4 k5 k6 k7
      clear HFS HLL HCX HHB SK SZ
      have SV := Lib.hid (S4.out.vec)
      have WO : Hid (∀ V : World, Below w4.heap.size w4 V → Calls Tryd.prog 32 #[.slice p L.length c, .func (.func 33) #[] #[.pointer (some ⟨g3, 0, none⟩)]] V (LeftW V (leftOf L x.e))) := Lib.hid fun V hV =>
        withoutW_is 33 #[.pointer (some ⟨g3, 0, none⟩)] (goneW x) (fun U => Below V.heap.size V U) p c L V (apply_tells g3 x V.heap.size V hg ⟨RX.out V (thenBelow BX4.out hV), ⟨HX.out.1.below (thenBelow B4.out hV), HX.out.2⟩⟩ rfl) (Below.refl _ _) (HW.out.below (thenBelow B4.out hV)) HP.out (by omega)
      have EVC : Hid (∀ V : World, Below w4.heap.size w4 V → V.rangeAt g3 0 x.cells) := Lib.hid fun V hV => RX.out V (thenBelow BX4.out hV)
      have nLO : (leftOf L x.e).length ≤ 9000 := by
        unfold leftOf
        have := List.length_filter_le (fun y : Wr => !decide (y.dot ∈ x.e.gone)) L
        omega
      obtain ⟨LO, hLO⟩ : ∃ X, leftOf L x.e = X := ⟨_, rfl⟩
      rw [hLO] at HLE WO nLO
      clear hLO RX hg HT HX
      obtain ⟨⟨r, n, t, kd, d, fl, tx, gn⟩, gp, gc⟩ := x
      simp only at HS k0 k1 k2 k3 k4 k5 k6 k7 HFE HLE WI
      go_wp2_with (refine wpList_gloadG (by rfl) _ rfl g2 0 rfl _ SV.out _ Tryd.underlying23 rfl (sizeVcl F) ?_)
      refine (HS.out w4).mono ?_
      rintro e w5 ⟨rfl, hb5⟩
      have S5 := Lib.hid (S4.out.later hb5); have B5 := Lib.hid (thenBelow B4.out hb5); have Z5 := Lib.hid (Z4.out.later hb5); have BH5 := Lib.hid hb5
      clear hb5 k0 k1 k2 k3 k4 k5 k6 k7 SV HS
      have s5 := S5.out.slot
      go_wp2_with fail
      refine (WO.out w5 BH5.out).mono ?_
      rintro e w6 ⟨v6, rfl, o6, b6⟩
      obtain ⟨p6, c6, hv6, _⟩ := own_wat o6
      subst hv6
      have S6 := Lib.hid (S5.out.later b6); have B6 := Lib.hid (thenBelow B5.out b6); have Z6 := Lib.hid (Z5.out.later b6); have BH6 := Lib.hid (thenBelow BH5.out b6)
      have O6 := Lib.hid o6; have BB6 := Lib.hid b6
      clear o6 b6 s5 WO
      obtain ⟨k0, k1, k2, k3, k4, k5, k6, k7⟩ := ev_cells (EVC.out w6 BH6.out)
      simp only [Nat.zero_add] at k0 k1 k2 k3 k4 k5 k6 k7
      have SV6 := Lib.hid (S6.out.vec)
      by_cases hk : kd = 1
      · subst hk
        have HLE' : Hid (LL = insW LO (wrote ⟨r, n, t, 1, d, fl, tx, gn⟩)) := Lib.hid (by rw [HLE.out, if_pos rfl])
        have IN := Lib.hid (docInsert_is w5.heap.size p6 c6 LO (wrote ⟨r, n, t, 1, d, fl, tx, gn⟩) w6 O6.out BB6.out.size (by omega))
        have BW : ∀ V : World, (Instr.build 34 #[(0, .agg #[.int .i64 r, .int .i64 n]), (1, .int .i64 t), (2, .string d), (3, .int .i64 fl), (4, .string tx)]).run Tryd.prog V = .ok (.agg (wrote ⟨r, n, t, 1, d, fl, tx, gn⟩).cells.toArray) V := fun V => run_build V _ _ _ (by kernel_rfl)
        go_wp2_with (refine wpList_pbuild (by rfl) _ rfl (wrote ⟨r, n, t, 1, d, fl, tx, gn⟩).cells.toArray (by simp only [List.map_toArray, List.map_cons, List.map_nil]; exact BW _) ?_)
        refine IN.out.mono ?_
        rintro e w7 ⟨v7, rfl, o7, b7⟩
        obtain ⟨p7, c7, hv7, _⟩ := own_wat o7
        subst hv7
        have z5 := BB6.out.size
        have S7 := Lib.hid (show Sx w7 g2 F (.slice p L.length c) from (b7.block g2 S5.out.lt).trans S6.out); have Z7 := Lib.hid (show Sx w7 g4 (fun _ => 0) (.slice none 0 0) from (b7.block g4 Z5.out.lt).trans Z6.out)
        have BW7 : Hid (Below w5.heap.size w5 w7) := Lib.hid (BB6.out.trans b7)
        have O7 := Lib.hid o7
        clear o7 b7 IN BW k0 k1 k2 k3 k4 k5 k6 k7 SV6 O6 S6 Z6
        obtain ⟨k0, k1, k2, k3, k4, k5, k6, k7⟩ := ev_cells (EVC.out w7 (thenBelow BH5.out BW7.out))
        simp only [Nat.zero_add] at k0 k1 k2 k3 k4 k5 k6 k7
        have SV7 := Lib.hid (S7.out.vec)
        go_wp2_with (refine wpList_gload rfl _ rfl g2 0 rfl _ SV7.out _ Tryd.underlying23 rfl (sizeVcl F) ?_)
        refine (WI.out w7).mono ?_
        rintro e w8 ⟨rfl, b8⟩
        have S8 := Lib.hid (S7.out.later b8); have Z8 := Lib.hid (Z7.out.later b8)
        have BW8 := Lib.hid (thenBelow BW7.out b8)
        have O8 := Lib.hid (own_later O7.out b8)
        obtain ⟨G, hG⟩ : ∃ G, withF F r n = G := ⟨_, rfl⟩
        rw [hG] at HFE ⊢
        clear hG
        clear b8 WI k0 k1 k2 k3 k4 k5 k6 k7 SV7
        go_wp2_with (first | refine wpList_pbuild (by rfl) _ rfl (scs G (.slice p7 (insW LO (wrote ⟨r, n, t, 1, d, fl, tx, gn⟩)).length c7)) (by simp only [List.map_toArray, List.map_cons, List.map_nil]; exact builtSt G _ _ _ _) ?_ | refine wpList_gstore rfl _ _ rfl g4 rfl (scs G (.slice p7 (insW LO (wrote ⟨r, n, t, 1, d, fl, tx, gn⟩)).length c7)) rfl _ _ Z8.out (sizeSt _ _) (by rw [scs_size, scs_size]) (scs_one G rfl) ?_)
        intro w9 h9 g9
        have H9 := Lib.hid h9
        have O9 := Lib.hid (own_base (own_keepT O8.out Z8.out (by decide) g9) (show w.heap.size ≤ w5.heap.size from B5.out.size))
        have B9 := Lib.hid ((B5.out.trans (BW8.out.mono B5.out.size)).trans (grown_below g9 (Nat.le_trans B5.out.size BW8.out.size) lw4))
        clear h9 g9
        go_wp2
        exact bodyPost_ret (v := .tuple #[.agg (scs G (.slice p7 (insW LO (wrote ⟨r, n, t, 1, d, fl, tx, gn⟩)).length c7)), .int .i64 0]) (results_cell_two (p := 4) (q := 5) rfl _ w9 g4 _ _ (0, 0) _ rfl H9.out Tryd.underlying26 rfl (sizeSt _ _) (.int .i64 0) rfl) rfl ⟨_, by rw [HFE.out], by rw [HLE'.out]; exact O9.out, B9.out⟩
      · have hk' : (kd == 1) = false := by simp [hk]
        have HLE' : Hid (LL = LO) := Lib.hid (by rw [HLE.out, if_neg hk])
        clear hk
        have S7 := S6; have Z7 := Z6
        have BW7 : Hid (Below w5.heap.size w5 w6) := BB6
        have O7 := O6
        obtain ⟨k0, k1, k2, k3, k4, k5, k6, k7⟩ := ev_cells (EVC.out w6 (thenBelow BH5.out BW7.out))
        simp only [Nat.zero_add] at k0 k1 k2 k3 k4 k5 k6 k7
        have SV7 := Lib.hid (S7.out.vec)
        go_wp2_with (refine wpList_gload rfl _ rfl g2 0 rfl _ SV7.out _ Tryd.underlying23 rfl (sizeVcl F) ?_)
        refine (WI.out w6).mono ?_
        rintro e w8 ⟨rfl, b8⟩
        have S8 := Lib.hid (S7.out.later b8); have Z8 := Lib.hid (Z7.out.later b8)
        have BW8 := Lib.hid (thenBelow BW7.out b8)
        have O8 := Lib.hid (own_later O7.out b8)
        obtain ⟨G, hG⟩ : ∃ G, withF F r n = G := ⟨_, rfl⟩
        rw [hG] at HFE ⊢
        clear hG
        clear b8 WI k0 k1 k2 k3 k4 k5 k6 k7 SV7
        go_wp2_with (first | refine wpList_pbuild (by rfl) _ rfl (scs G (.slice p6 LO.length c6)) (by simp only [List.map_toArray, List.map_cons, List.map_nil]; exact builtSt G _ _ _ _) ?_ | refine wpList_gstore rfl _ _ rfl g4 rfl (scs G (.slice p6 LO.length c6)) rfl _ _ Z8.out (sizeSt _ _) (by rw [scs_size, scs_size]) (scs_one G rfl) ?_)
        intro w9 h9 g9
        have H9 := Lib.hid h9
        have O9 := Lib.hid (own_base (own_keepT O8.out Z8.out (by decide) g9) (show w.heap.size ≤ w5.heap.size from B5.out.size))
        have B9 := Lib.hid ((B5.out.trans (BW8.out.mono B5.out.size)).trans (grown_below g9 (Nat.le_trans B5.out.size BW8.out.size) lw4))
        clear h9 g9
        go_wp2
        exact bodyPost_ret (v := .tuple #[.agg (scs G (.slice p6 LO.length c6)), .int .i64 0]) (results_cell_two (p := 4) (q := 5) rfl _ w9 g4 _ _ (0, 0) _ rfl H9.out Tryd.underlying26 rfl (sizeSt _ _) (.int .i64 0) rfl) rfl ⟨_, by rw [HFE.out], by rw [HLE'.out]; exact O9.out, B9.out⟩
  · have hXn : (X != 0) = true := by simpa using hX0
    have SK : Hid (apSkip F x.e = true) := Lib.hid (by unfold apSkip; rw [HCX.out]; simp [hX0])
    have HFE : Hid (FS = F) := Lib.hid (by rw [← HFS.out]; unfold apSeen; rw [SK.out]; rfl)
    have HLE : Hid (LL = L) := Lib.hid (by rw [← HLL.out]; unfold apLive; rw [SK.out]; rfl)
    clear HFS HLL HCX SK RX SZ hX0
    go_wp2_with fail
    rename_i K3 hK3
    have m0 : Sx w4.drew g2 F (.slice p L.length c) := S4.out
    refine rg_calm (by kernel_rfl) rfl (S := fun U => Sx U g2 F (.slice p L.length c)) ?_
    refine rgd_pure 0 (some 19) rfl rfl (.pointer (some ⟨g2, 0, none⟩)) (by kernel_rfl) (by kernel_rfl) (by kernel_rfl) (fun _ _ _ _ h => h) (by kernel_rfl) (fun w => by kernel_rfl) m0 ?_
    refine rgd_pureS 1 (some 20) rfl rfl (.agg (vf F)) (by kernel_rfl) (by kernel_rfl) (by kernel_rfl) (fun _ _ _ _ h => h) (by kernel_rfl) (fun U hU => exec_gload 23 _ rfl g2 0 (by kernel_rfl) _ (Sx.vec hU) Tryd.underlying23 rfl (sizeVcl F)) m0 ?_
    refine rgd_pure 2 (some 21) rfl rfl (.pointer (some ⟨g2, 64, none⟩)) (by kernel_rfl) (by kernel_rfl) (by kernel_rfl) (fun _ _ _ _ h => h) (by kernel_rfl) (fun w => by kernel_rfl) m0 ?_
    refine rgd_pureS 3 (some 22) rfl rfl (.slice p L.length c) (by kernel_rfl) (by kernel_rfl) (by kernel_rfl) (fun _ _ _ _ h => h) (by kernel_rfl) (fun U hU => exec_load1 _ _ rfl Tryd.underlying24 rfl ⟨g2, 64, none⟩ _ (by kernel_rfl) (Sx.slot hU)) m0 ?_
    refine rgd_pure 6 (some 25) rfl rfl (.int .i64 X) (by kernel_rfl) (by kernel_rfl) (by kernel_rfl) (fun _ _ _ _ h => h) (by kernel_rfl) (fun w => by kernel_rfl) m0 ?_
    refine rgd_call 4 (some 23) (by kernel_rfl) rfl rfl (by kernel_rfl) 31 (#[.slice p L.length c]) (by kernel_rfl) (cloneW_is p c L _ (HW.out.below (thenBelow B4.out (to_drew (Below.refl _ _)))) HP.out (by omega)) ?_
    rintro e U1 ⟨v1, rfl, o1, b1⟩
    obtain ⟨p1, c1, hv1, _⟩ := own_wat o1
    subst hv1
    have z1 : Sx U1 g4 (fun _ => 0) (.slice none 0 0) := Sx.later (w := w4.drew) Z4.out b1
    have m1 : Sx U1 g2 F (.slice p L.length c) := Sx.later (w := w4.drew) S4.out b1
    refine ⟨_, rfl, m1, ?_⟩
    have BU1 := Lib.hid (thenBelow B4.out (fromD b1))
    refine rgd_pure 5 (some 24) rfl rfl (.agg (scs F (.slice p1 L.length c1))) (by kernel_rfl) (by kernel_rfl) (by kernel_rfl) (fun _ _ _ _ h => h) (by kernel_rfl) (fun w => exec_build _ _ rfl _ (by simp only [List.map_toArray, List.map_cons, List.map_nil]; exact builtSt F p1 L.length c1 w)) m1 ?_
    have z2 := set_whole z1 (cs := scs F (.slice p1 L.length c1)) (by rw [scs_size, scs_size])
    have gz := grown_setCells g4 (scs F (.slice p1 L.length c1)).toList U1 0
    have m2 := m1.kept gz (by simp; omega)
    have o2 := own_keepT o1 z1 (by decide) gz
    have b2 := BU1.out.trans (grown_below gz BU1.out.size lw4)
    refine rgd_do 7 none (by kernel_rfl) rfl rfl (by kernel_rfl) _ (exec_wstore 26 _ _ rfl g4 (by kernel_rfl) (scs F (.slice p1 L.length c1)) (by kernel_rfl) (sizeSt _ _) (scs_one F rfl) z1 (by rw [scs_size, scs_size])) m2 ?_
    refine rgd_pure 8 (some 5) rfl rfl (.int .i64 X) (by kernel_rfl) (by kernel_rfl) (by kernel_rfl) (fun _ _ _ _ h => h) (by kernel_rfl) (fun w => by kernel_rfl) m2 ?_
    generalize U1.setCells g4 0 (scs F (.slice p1 L.length c1)).toList = U2 at z2 m2 o2 b2 ⊢
    have KE : K3 { tmps := #[.agg (scs F (.slice p L.length c)), .agg x.cells.toArray, .pointer (some ⟨g2, 0, none⟩), .pointer (some ⟨g3, 0, none⟩), .pointer (some ⟨g4, 0, none⟩), .int .i64 X, .int .i64 X, undef, .agg x.cells.toArray, .int .i64 X, .int .i64 X, .bool true, .bool true, undef, undef, undef, undef, undef, .bool true, .pointer (some ⟨g2, 0, none⟩), .agg (vf F), .pointer (some ⟨g2, 64, none⟩), .slice p L.length c, .slice p1 L.length c1, .agg (scs F (.slice p1 L.length c1)), .int .i64 X, undef, undef, undef, undef, undef, undef, undef, undef, undef, undef, undef, undef, undef, undef, undef, undef, undef, undef, undef, undef, undef, undef, undef, undef, undef, undef, undef], defers := [] } U2 := by
      refine hK3 _ _ ?_
      have FO := Lib.hid (own_base o2 (show w.heap.size ≤ w4.drew.heap.size from B4.out.size)); have FB := Lib.hid b2; have FZ := Lib.hid z2
      clear hK3 m0 m1 m2 z1 z2 gz o1 o2 b1 b2
      go_wp2
      exact bodyPost_ret (v := .tuple #[.agg (scs F (.slice p1 L.length c1)), .int .i64 X]) (results_cell_two (p := 4) (q := 5) rfl _ U2 g4 _ _ (0, 0) _ rfl FZ.out Tryd.underlying26 rfl (sizeSt _ _) (.int .i64 X) rfl) rfl ⟨_, by rw [HFE.out], by rw [HLE.out]; exact FO.out, FB.out⟩
    exact wpAnyH_done (by kernel_rfl) (Eq.mp (by kernel_rfl) KE) _
end Go.Proofs.YtdnkhcbglmfjbaaDoor
