/- the document's SameEvents of any. -/
import Derived.Test.YtimfcedkmdbnfaaPastSameB
namespace Go.Proofs.Ytimfcedkmdbnfaa
open Go Go.RowKit
set_option linter.unusedVariables false

theorem neJ (x y : Int) (h : ¬ x = y) : (x != y) = true := by simp [h]
set_option maxHeartbeats 40000000 in
set_option maxRecDepth 1000000 in
theorem refSameX_is (p : Option Addr) (c : Nat) (L : List EvP) (q : Option Addr) (c' : Nat) (M : List EvP) (w : World) (h : EvsAt w p L) (h2 : EvsAt w q M) (hn : L.length ≤ 1000) (hn2 : M.length ≤ 1000) (hg : ∀ x ∈ L, x.e.gone.length ≤ 1000) (hg2 : ∀ x ∈ M, x.e.gone.length ≤ 1000) :
    Calls Try.prog 8 #[.slice p L.length c, .slice q M.length c'] w (Tells w (evs L = evs M)) := by
  have E1 := Lib.hid h; have E2 := Lib.hid h2; have HG := Lib.hid hg; have HG2 := Lib.hid hg2
  clear h h2 hg hg2
  by_cases hl : M.length = L.length
  · have HL := Lib.hid hl
    rw [hl]
    go_enter Try.func8, Try.ntmps8
    go_wp2
    go_loopw [17] (fun i wr => ∃ j : Nat, j ≤ L.length ∧ i = .int .i64 j ∧ (∀ t, t < j → (evs L)[t]? = (evs M)[t]?) ∧ Below w.heap.size w wr) (fun i _ => L.length - (intOf i).toNat)
    case atStart => exact ⟨0, Nat.zero_le _, rfl, fun t h => by omega, Below.refl _ _⟩
    case round =>
      obtain ⟨j, hj, rfl, hall, hb⟩ := hrel
      have BB := Lib.hid hb; have HA := Lib.hid hall
      clear hall
      by_cases hjl : j < L.length
      · have hjl' : (j : Int) < L.length := by omega
        have hjm : j < M.length := by omega
        obtain ⟨b, o, rfl, hlt, hr⟩ := (E1.out.below hb).at hjl
        obtain ⟨b', o', rfl, hlt', hr'⟩ := (E2.out.below hb).at hjm
        obtain ⟨c0, c1, c2, c3, c4, c5, c6, c7⟩ := ev_cells hr
        obtain ⟨e0, e1, e2, e3, e4, e5, e6, e7⟩ := ev_cells (range_below hr' (below_alloc wr (.cells L[j].cells.toArray 35)))
        have GL := Lib.hid (evs_get L j hjl); have GM := Lib.hid (evs_get M j hjm)
        have K1 := Lib.hid ((E1.out.ok L[j] (List.getElem_mem hjl)).below hb)
        have K2 := Lib.hid ((E2.out.ok M[j] (List.getElem_mem hjm)).below hb)
        have hgl := HG.out L[j] (List.getElem_mem hjl)
        have hgm := HG2.out M[j] (List.getElem_mem hjm)
        have BN := Lib.hid (thenBelow BB.out (thenBelow (below_alloc wr (.cells L[j].cells.toArray 35)) (below_alloc (wr.alloc (.cells L[j].cells.toArray 35)) (.cells M[j].cells.toArray 35))))
        clear hb hr hr' hlt hlt'
        obtain ⟨x, hx⟩ : ∃ x, L[j] = x := ⟨_, rfl⟩
        obtain ⟨y, hy⟩ : ∃ y, M[j] = y := ⟨_, rfl⟩
        rw [hx] at c0 c1 c2 c3 c4 c5 c6 c7 e0 e1 e2 e3 e4 e5 e6 e7 K1 hgl GL BN
        rw [hy] at e0 e1 e2 e3 e4 e5 e6 e7 K2 hgm GM BN
        clear hx hy
        obtain ⟨⟨r, n, t, kd, d, fl, tx, gn⟩, xp, xc⟩ := x
        obtain ⟨⟨r', n', t', kd', d', fl', tx', gn'⟩, yp, yc⟩ := y
        simp only [EvP.cells] at c0 c1 c2 c3 c4 c5 c6 c7 e0 e1 e2 e3 e4 e5 e6 e7 hgl hgm GL GM BN
        have hq1 : ∀ w : World, (Op.equalIn 10000 32 (.agg #[.int .i64 r, .int .i64 n]) (.agg #[.int .i64 r', .int .i64 n'])).run Try.prog w = .ok (eqDt (r, n) (r', n')) w := fun w => runEqDt (r, n) (r', n') w
        have hq2 : ∀ w : World, (binOp .neq 32 (.agg #[.int .i64 r, .int .i64 n]) (.agg #[.int .i64 r', .int .i64 n'])).run Try.prog w = .ok (.bool (!eqDt (r, n) (r', n'))) w := fun w => neqDt (r, n) (r', n') w
        by_cases h0 : ((r, n) : Dt) = (r', n')
        · rw [(eqDt_iff _ _).2 h0] at hq1 hq2
          injection h0 with ha hb
          subst ha; subst hb
          by_cases ht : t = t'
          · subst ht
            by_cases hkd : kd = kd'
            · subst hkd
              by_cases hd : d = d'
              · subst hd
                by_cases hfl : fl = fl'
                · subst hfl
                  by_cases htx : tx = tx'
                  · subst htx
                    by_cases hlen : gn'.length = gn.length
                    · rw [hlen] at e7
                      have hn6 := heap_alloc_new wr (.cells #[.int .i64 r, .int .i64 n, .int .i64 t, .int .i64 kd, .string d, .int .i64 fl, .string tx, .slice xp gn.length xc] 35)
                      have hb6 := below_alloc wr (.cells #[.int .i64 r, .int .i64 n, .int .i64 t, .int .i64 kd, .string d, .int .i64 fl, .string tx, .slice xp gn.length xc] 35)
                      have hn7 := heap_alloc_new (wr.alloc (.cells #[.int .i64 r, .int .i64 n, .int .i64 t, .int .i64 kd, .string d, .int .i64 fl, .string tx, .slice xp gn.length xc] 35)) (.cells #[.int .i64 r, .int .i64 n, .int .i64 t, .int .i64 kd, .string d, .int .i64 fl, .string tx, .slice yp gn.length yc] 35)
                      have hb7 := below_alloc (wr.alloc (.cells #[.int .i64 r, .int .i64 n, .int .i64 t, .int .i64 kd, .string d, .int .i64 fl, .string tx, .slice xp gn.length xc] 35)) (.cells #[.int .i64 r, .int .i64 n, .int .i64 t, .int .i64 kd, .string d, .int .i64 fl, .string tx, .slice yp gn.length yc] 35)
                      have B7 := Lib.hid (thenBelow hb6 hb7)
                      have N6 := Lib.hid ((hb7.block _ (Array.getElem?_eq_some_iff.1 hn6).1).trans hn6)
                      have hn7' : ((wr.alloc (.cells #[.int .i64 r, .int .i64 n, .int .i64 t, .int .i64 kd, .string d, .int .i64 fl, .string tx, .slice xp gn.length xc] 35)).alloc (.cells #[.int .i64 r, .int .i64 n, .int .i64 t, .int .i64 kd, .string d, .int .i64 fl, .string tx, .slice yp gn.length yc] 35)).heap[wr.heap.size + 1]? = some (.cells #[.int .i64 r, .int .i64 n, .int .i64 t, .int .i64 kd, .string d, .int .i64 fl, .string tx, .slice yp gn.length yc] 35 (0, 0)) := by simpa using hn7
                      have N7 := Lib.hid hn7'
                      have D17 := Lib.hid (K1.out.1.below B7.out); have D27 := Lib.hid (K2.out.1.below B7.out)
                      simp only at D17 D27
                      clear hn6 hn7 hn7' hb6 hb7 K1 K2 BN
                      go_wp2
                      clear hq1 hq2 c0 c1 c2 c3 c4 c5 c6 c7 e0 e1 e2 e3 e4 e5 e6 e7
                      generalize (wr.alloc (.cells #[.int .i64 r, .int .i64 n, .int .i64 t, .int .i64 kd, .string d, .int .i64 fl, .string tx, .slice xp gn.length xc] 35)).alloc (.cells #[.int .i64 r, .int .i64 n, .int .i64 t, .int .i64 kd, .string d, .int .i64 fl, .string tx, .slice yp gn.length yc] 35) = w7 at *
                      have BW7 := Lib.hid (thenBelow BB.out B7.out)
                      obtain ⟨G6, hG6⟩ : ∃ G6, wr.heap.size = G6 := ⟨_, rfl⟩
                      rw [hG6] at N6 N7 ⊢
                      clear hG6 B7
                      have hz7 : G6 + 1 < w7.heap.size := (Array.getElem?_eq_some_iff.1 N7.out).1
                      go_loopw [78] (fun i wi => ∃ k : Nat, k ≤ gn.length ∧ i = .int .i64 k ∧ (∀ t, t < k → gn[t]? = gn'[t]?) ∧ Below w7.heap.size w7 wi) (fun i _ => gn.length - (intOf i).toNat)
                      case atStart => exact ⟨0, Nat.zero_le _, rfl, fun t h => by omega, Below.refl _ _⟩
                      case round =>
                        obtain ⟨k, hk, rfl, hall, hb⟩ := hrel
                        have BI := Lib.hid hb; have HI := Lib.hid hall
                        clear hall
                        by_cases hkl : k < gn.length
                        · have hkl' : (k : Int) < gn.length := by omega
                          have hk2 : k < gn'.length := by omega
                          obtain ⟨b1, o1, rfl, q1⟩ := drow_at (D17.out.below hb) hkl
                          obtain ⟨b2, o2, rfl, q2⟩ := drow_at (D27.out.below hb) hk2
                          obtain ⟨⟨z1, z2⟩, hz⟩ : ∃ z, gn[k] = z := ⟨_, rfl⟩
                          obtain ⟨⟨y1, y2⟩, hy⟩ : ∃ z, gn'[k] = z := ⟨_, rfl⟩
                          have HZ := Lib.hid hz; have HY2 := Lib.hid hy
                          rw [hz] at q1
                          rw [hy] at q2
                          simp only at q1 q2
                          have r1 := q1 0 _ rfl; have r2 := q1 1 _ rfl
                          rw [Nat.add_zero] at r1
                          have b8 := below_alloc wr (.cells #[.int .i64 z1, .int .i64 z2] 32)
                          have n8 := heap_alloc_new wr (.cells #[.int .i64 z1, .int .i64 z2] 32)
                          have B8 := Lib.hid (thenBelow hb b8)
                          have T7 : Hid (∀ U, Below w7.heap.size w7 U → U.cell? ⟨G6 + 1, 7, none⟩ = some (.slice (some ⟨b2, o2, none⟩) gn.length yc)) := Lib.hid fun U hU =>
                            (cell_of_row U (G6 + 1) 7 _ _ _ ((hU.block _ hz7).trans N7.out)).trans rfl
                          have hY : Hid ((wr.alloc (.cells #[.int .i64 z1, .int .i64 z2] 32)).rangeAt b2 (o2 + k * 2) [.int .i64 y1, .int .i64 y2]) := Lib.hid (range_below q2 b8)
                          have hX : Hid ((wr.alloc (.cells #[.int .i64 z1, .int .i64 z2] 32)).rangeAt wr.heap.size 0 [.int .i64 z1, .int .i64 z2]) := Lib.hid (by simpa using range_of_block n8)
                          obtain ⟨ne, hne⟩ : ∃ ne, (!eqDt (y1, y2) (z1, z2)) = ne := ⟨_, rfl⟩
                          have NE := Lib.hid hne
                          clear q1 q2 hb b8 n8 hz hy hne
                          go_wp2_with fail
                          rename_i K2 hK2
                          have KE : K2 { tmps := #[.slice (some ⟨b, o, none⟩) L.length c, .slice (some ⟨b', o', none⟩) L.length c', undef, undef, u4, .int .i64 (j : Int), .pointer (some ⟨G6, 0, none⟩), .pointer (some ⟨G6 + 1, 0, none⟩), .int .i64 (k : Int), .pointer (some ⟨wr.heap.size, 0, none⟩), .slice (some ⟨b, o, none⟩) L.length c, .int .i64 (L.length : Int), .slice (some ⟨b', o', none⟩) L.length c', .int .i64 (L.length : Int), .bool false, .slice (some ⟨b, o, none⟩) L.length c, .int .i64 (L.length : Int), .int .i64 (j : Int), .bool true, .int .i64 (j : Int), .pointer (some ⟨b, o + j * 8, none⟩), .agg #[.int .i64 r, .int .i64 n, .int .i64 t, .int .i64 kd, .string d, .int .i64 fl, .string tx, .slice (some ⟨b1, o1, none⟩) gn.length xc], .slice (some ⟨b', o', none⟩) L.length c', .int .i64 (j : Int), .pointer (some ⟨b', o' + j * 8, none⟩), .agg #[.int .i64 r, .int .i64 n, .int .i64 t, .int .i64 kd, .string d, .int .i64 fl, .string tx, .slice (some ⟨b2, o2, none⟩) gn.length yc], .pointer (some ⟨G6, 0, none⟩), .agg #[.int .i64 r, .int .i64 n], .pointer (some ⟨G6 + 1, 0, none⟩), .agg #[.int .i64 r, .int .i64 n], .bool false, .bool false, .pointer (some ⟨G6, 2, none⟩), .int .i64 t, .pointer (some ⟨G6 + 1, 2, none⟩), .int .i64 t, .bool false, .bool false, .bool false, .pointer (some ⟨G6, 3, none⟩), .int .i64 kd, .pointer (some ⟨G6 + 1, 3, none⟩), .int .i64 kd, .bool false, .bool false, .bool false, .pointer (some ⟨G6, 4, none⟩), .string d, .pointer (some ⟨G6 + 1, 4, none⟩), .string d, .bool false, .bool false, .bool false, .pointer (some ⟨G6, 5, none⟩), .int .i64 fl, .pointer (some ⟨G6 + 1, 5, none⟩), .int .i64 fl, .bool false, .bool false, .bool false, .pointer (some ⟨G6, 6, none⟩), .string tx, .pointer (some ⟨G6 + 1, 6, none⟩), .string tx, .bool false, .bool false, .bool false, .pointer (some ⟨G6, 7, none⟩), .slice (some ⟨b1, o1, none⟩) gn.length xc, .int .i64 (gn.length : Int), .pointer (some ⟨G6 + 1, 7, none⟩), .slice (some ⟨b2, o2, none⟩) gn.length yc, .int .i64 (gn.length : Int), .bool false, .bool false, .pointer (some ⟨G6, 7, none⟩), .slice (some ⟨b1, o1, none⟩) gn.length xc, .int .i64 (gn.length : Int), .int .i64 (k : Int), .bool true, .int .i64 (k : Int), .pointer (some ⟨b1, o1 + k * 2, none⟩), .agg #[.int .i64 z1, .int .i64 z2], .pointer (some ⟨G6 + 1, 7, none⟩), .slice (some ⟨b2, o2, none⟩) gn.length yc, .int .i64 (k : Int), .pointer (some ⟨b2, o2 + k * 2, none⟩), .agg #[.int .i64 y1, .int .i64 y2], .agg #[.int .i64 z1, .int .i64 z2], .bool ne, u90, u91], defers := [] } (wr.alloc (.cells #[.int .i64 z1, .int .i64 z2] 32)).drew := by
                            refine hK2 _ _ ?_
                            clear hK2 T7 hY hX r1 r2
                            have B9 := Lib.hid (to_drew B8.out)
                            clear B8
                            generalize (wr.alloc (.cells #[.int .i64 z1, .int .i64 z2] 32)).drew = w9 at B9 ⊢
                            cases ne with
                            | false =>
                              have hxy : gn[k] = gn'[k] := by
                                rw [HZ.out, HY2.out]
                                have h1 := NE.out
                                simp only [Bool.not_eq_false'] at h1
                                exact ((eqDt_iff _ _).1 h1).symm
                              have HXY := Lib.hid hxy
                              clear hxy
                              go_wp2
                              go_roundw
                              case rel => exact ⟨k + 1, by omega, by go_num, fun t ht => by
                                rcases Nat.lt_or_ge t k with h | h
                                · exact HI.out t h
                                · obtain rfl : t = k := by omega
                                  rw [List.getElem?_eq_getElem hkl, List.getElem?_eq_getElem hk2, HXY.out], by simpa using B9.out⟩
                              case measure => simp [intOf]; omega
                            | true =>
                              have no : ¬ evs L = evs M := fun h => by
                                have h1 := GL.out
                                rw [h, GM.out] at h1
                                have h2 := Option.some.inj h1
                                injection h2 with _ _ _ _ _ _ _ h3
                                have h4 : gn'[k] = gn[k] := by simp only [h3]
                                rw [HZ.out, HY2.out] at h4
                                have h5 := NE.out
                                rw [(eqDt_iff _ _).2 h4] at h5
                                cases h5
                              have BE := Lib.hid (thenBelow BW7.out B9.out)
                              go_wp2
                              go_ret
                              exact ⟨false, rfl, by first | exact ⟨fun h => (by cases h), fun h => absurd h no⟩ | simp [no], BE.out⟩
                          have SZ : ∀ z1 z2 : Int, (Try.prog.info? 32).map (·.size) = some [Value.int .i64 z1, .int .i64 z2].length := fun z1 z2 => by kernel_rfl
                          have m0 : (wr.alloc (.cells #[.int .i64 z1, .int .i64 z2] 32)).drew.cell? ⟨G6 + 1, 7, none⟩ = some (.slice (some ⟨b2, o2, none⟩) gn.length yc) ∧ (wr.alloc (.cells #[.int .i64 z1, .int .i64 z2] 32)).drew.rangeAt b2 (o2 + k * 2) [.int .i64 y1, .int .i64 y2] ∧ (wr.alloc (.cells #[.int .i64 z1, .int .i64 z2] 32)).drew.rangeAt wr.heap.size 0 [.int .i64 z1, .int .i64 z2] := ⟨T7.out _ (to_drew B8.out), hY.out, hX.out⟩
                          refine rg_calm (by kernel_rfl) rfl (S := fun U => U.cell? ⟨G6 + 1, 7, none⟩ = some (.slice (some ⟨b2, o2, none⟩) gn.length yc) ∧ U.rangeAt b2 (o2 + k * 2) [.int .i64 y1, .int .i64 y2] ∧ U.rangeAt wr.heap.size 0 [.int .i64 z1, .int .i64 z2]) ?_
                          refine rgd_pure 0 (some 83) rfl rfl (.pointer (some ⟨G6 + 1, 7, none⟩)) (by kernel_rfl) (by kernel_rfl) (by kernel_rfl) (fun _ _ _ _ h => h) (by kernel_rfl) (fun w => by kernel_rfl) m0 ?_
                          refine rgd_load 1 (some 84) rfl rfl (by kernel_rfl) (by kernel_rfl) (by kernel_rfl) (fun _ _ _ _ h => h) (by kernel_rfl) _ _ rfl Try.underlying33 rfl ⟨G6 + 1, 7, none⟩ (.slice (some ⟨b2, o2, none⟩) gn.length yc) (by kernel_rfl) (fun U hU => hU.1) m0 ?_
                          refine rgd_pure 2 (some 85) rfl rfl (.int .i64 (k : Int)) (by kernel_rfl) (by kernel_rfl) (by kernel_rfl) (fun _ _ _ _ h => h) (by kernel_rfl) (fun w => by kernel_rfl) m0 ?_
                          refine rgd_pure 3 (some 86) rfl rfl (.pointer (some ⟨b2, o2 + k * 2, none⟩)) (by kernel_rfl) (by kernel_rfl) (by kernel_rfl) (fun _ _ _ _ h => h) (by kernel_rfl) (exec_idxD _ _ rfl b2 o2 gn.length yc k (by kernel_rfl) (by kernel_rfl) hkl) m0 ?_
                          refine rgd_pureS 4 (some 87) rfl rfl (.agg #[.int .i64 y1, .int .i64 y2]) (by kernel_rfl) (by kernel_rfl) (by kernel_rfl) (fun _ _ _ _ h => h) (by kernel_rfl) (fun U hU => exec_gload 32 _ rfl b2 (o2 + k * 2) (by kernel_rfl) _ hU.2.1 Try.underlying32 rfl (SZ y1 y2)) m0 ?_
                          refine rgd_pureS 5 (some 88) rfl rfl (.agg #[.int .i64 z1, .int .i64 z2]) (by kernel_rfl) (by kernel_rfl) (by kernel_rfl) (fun _ _ _ _ h => h) (by kernel_rfl) (fun U hU => exec_gload 32 _ rfl wr.heap.size 0 (by kernel_rfl) _ hU.2.2 Try.underlying32 rfl (SZ z1 z2)) m0 ?_
                          refine rgd_pure 6 (some 89) rfl rfl (.bool ne) (by kernel_rfl) (by kernel_rfl) (by kernel_rfl) (fun _ _ _ _ h => h) (by kernel_rfl) (exec_neqE _ _ _ rfl (y1, y2) (z1, z2) ne NE.out (by kernel_rfl) (by kernel_rfl)) m0 ?_
                          exact wpAnyH_done (by kernel_rfl) (Eq.mp (by kernel_rfl) KE) _
                        · obtain rfl : k = gn.length := by omega
                          have hkl' : ¬ ((gn.length : Nat) : Int) < gn.length := by omega
                          have BE := Lib.hid (thenBelow BW7.out BI.out)
                          have hgg : gn = gn' := by
                            refine List.ext_getElem? fun t => ?_
                            rcases Nat.lt_or_ge t gn.length with h | h
                            · exact HI.out t h
                            · rw [List.getElem?_eq_none h, List.getElem?_eq_none (by omega)]
                          have HGG := Lib.hid hgg
                          clear hgg
                          go_wp2
                          go_roundw
                          case rel => exact ⟨j + 1, by omega, by go_num, fun t ht => by
                            rcases Nat.lt_or_ge t j with h | h
                            · exact HA.out t h
                            · obtain rfl : t = j := by omega
                              rw [GL.out, GM.out, HGG.out], BE.out⟩
                          case measure => simp [intOf]; omega
                    · have hne : ((gn.length : Int) != (gn'.length : Int)) = true := by simp; omega
                      have no : ¬ evs L = evs M := fun h => by
                        have h1 := GL.out
                        rw [h, GM.out] at h1
                        have h2 := Option.some.inj h1
                        injection h2
                        subst_vars; exact hlen rfl
                      go_wp2
                      go_ret
                      exact ⟨false, rfl, by first | exact ⟨fun h => (by cases h), fun h => absurd h no⟩ | simp [no], BN.out⟩
                  · have hf := neB tx tx' htx
                    have no : ¬ evs L = evs M := fun h => by
                      have h1 := GL.out
                      rw [h, GM.out] at h1
                      have h2 := Option.some.inj h1
                      injection h2
                      exact htx (Eq.symm (by assumption))
                    go_wp2
                    go_ret
                    exact ⟨false, rfl, by first | exact ⟨fun h => (by cases h), fun h => absurd h no⟩ | simp [no], BN.out⟩
                · have hf := neJ fl fl' hfl
                  have no : ¬ evs L = evs M := fun h => by
                    have h1 := GL.out
                    rw [h, GM.out] at h1
                    have h2 := Option.some.inj h1
                    injection h2
                    exact hfl (Eq.symm (by assumption))
                  go_wp2
                  go_ret
                  exact ⟨false, rfl, by first | exact ⟨fun h => (by cases h), fun h => absurd h no⟩ | simp [no], BN.out⟩
              · have hf := neB d d' hd
                have no : ¬ evs L = evs M := fun h => by
                  have h1 := GL.out
                  rw [h, GM.out] at h1
                  have h2 := Option.some.inj h1
                  injection h2
                  exact hd (Eq.symm (by assumption))
                go_wp2
                go_ret
                exact ⟨false, rfl, by first | exact ⟨fun h => (by cases h), fun h => absurd h no⟩ | simp [no], BN.out⟩
            · have hf := neJ kd kd' hkd
              have no : ¬ evs L = evs M := fun h => by
                have h1 := GL.out
                rw [h, GM.out] at h1
                have h2 := Option.some.inj h1
                injection h2
                exact hkd (Eq.symm (by assumption))
              go_wp2
              go_ret
              exact ⟨false, rfl, by first | exact ⟨fun h => (by cases h), fun h => absurd h no⟩ | simp [no], BN.out⟩
          · have hf := neJ t t' ht
            have no : ¬ evs L = evs M := fun h => by
              have h1 := GL.out
              rw [h, GM.out] at h1
              have h2 := Option.some.inj h1
              injection h2
              exact ht (Eq.symm (by assumption))
            go_wp2
            go_ret
            exact ⟨false, rfl, by first | exact ⟨fun h => (by cases h), fun h => absurd h no⟩ | simp [no], BN.out⟩
        · rw [eqDt_no h0] at hq1 hq2
          have no : ¬ evs L = evs M := fun h => by
            have h1 := GL.out
            rw [h, GM.out] at h1
            have h2 := Option.some.inj h1
            injection h2 with ha hb
            exact h0 (by rw [ha, hb])
          go_wp2
          go_ret
          exact ⟨false, rfl, by first | exact ⟨fun h => (by cases h), fun h => absurd h no⟩ | simp [no], BN.out⟩
      · obtain rfl : j = L.length := by omega
        have hjl' : ¬ ((L.length : Nat) : Int) < L.length := by omega
        have yes : evs L = evs M := by
          refine List.ext_getElem? fun t => ?_
          rcases Nat.lt_or_ge t L.length with h | h
          · exact HA.out t h
          · rw [List.getElem?_eq_none (by simp [evs]; omega), List.getElem?_eq_none (by simp [evs]; omega)]
        go_wp2
        go_ret
        exact ⟨true, rfl, by first | exact ⟨fun _ => yes, fun _ => rfl⟩ | simp [yes], BB.out⟩
  · have no : ¬ evs L = evs M := fun h => hl (by have := congrArg List.length h; simpa [evs] using this.symm)
    have hne : ((L.length : Int) != (M.length : Int)) = true := by simp; omega
    go_enter Try.func8, Try.ntmps8
    go_wp2
    go_ret
    exact ⟨false, rfl, by first | exact ⟨fun h => (by cases h), fun h => absurd h no⟩ | simp [no], Below.refl _ _⟩
end Go.Proofs.Ytimfcedkmdbnfaa
