/- the document's past: Same, of the same pasts. -/
import Derived.Test.YtimfcedkmdbnfaaPastRef
namespace Go.Proofs.Ytimfcedkmdbnfaa
open Go Go.RowKit
set_option linter.unusedVariables false

theorem exec_idxD {o : Oper} {a : Act} (x y : Operand) (ho : o.op = .indexAddr 33 x y) (b f len cap k : Nat) (hx : a.eval x = .slice (some ⟨b, f, none⟩) len cap) (hy : a.eval y = .int .i64 (k : Int)) (hk : k < len) (w : World) :
    (execOp a.eval o).run Try.prog w = .ok (.value (.pointer (some ⟨b, f + k * 2, none⟩))) w := by
  have hs : ∀ w : World, (sizeOf (Try.prog.elem 33)).run Try.prog w = .ok 2 w := fun w => by kernel_rfl
  unfold execOp
  simp only [ho, hx, hy]
  refine run_value_of ?_
  rw [run_indexAt_slice (h := Try.underlying33), if_pos (by omega), hs]
  simp only [Result.andThen_ok, Int.toNat_natCast]
  cases k <;> simp [Addr.add]
theorem exec_neqD {o : Oper} {a : Act} (t : TypeId) (x y : Operand) (ho : o.op = .binOp .neq 32 x y t) (X : Dt) (hx : a.eval x = .agg #[.int .i64 X.1, .int .i64 X.2]) (hy : a.eval y = .agg #[.int .i64 X.1, .int .i64 X.2]) (w : World) :
    (execOp a.eval o).run Try.prog w = .ok (.value (.bool false)) w := by
  have h := neqDt X X w
  rw [(eqDt_iff X X).2 rfl] at h
  simp only [Bool.not_true] at h
  unfold execOp
  simp only [ho, hx, hy]
  refine run_value_of ?_
  rw [Sem.run_bind]
  have hg : (eqGuard .neq 32 x y (.agg #[.int .i64 X.1, .int .i64 X.2]) (.agg #[.int .i64 X.1, .int .i64 X.2])).run Try.prog w = .ok () w := by
    unfold eqGuard
    go_simp
  rw [hg]
  exact h
set_option maxHeartbeats 20000000 in
set_option maxRecDepth 1000000 in
theorem refSameE_is (p : Option Addr) (c : Nat) (L : List EvP) (q : Option Addr) (c' : Nat) (M : List EvP) (w : World) (h : EvsAt w p L) (h2 : EvsAt w q M) (he : evs L = evs M) (hn : L.length ≤ 1000) (hg : ∀ x ∈ L, x.e.gone.length ≤ 1000) :
    Calls Try.prog 8 #[.slice p L.length c, .slice q M.length c'] w (RetBool w true) := by
  have E1 := Lib.hid h; have E2 := Lib.hid h2; have HE := Lib.hid he; have HG := Lib.hid hg
  have hl : M.length = L.length := by have := congrArg List.length he; simpa [evs] using this.symm
  rw [hl]
  clear h h2 he hg
  go_enter Try.func8, Try.ntmps8
  go_wp2
  go_loopw [17] (fun i wr => ∃ j : Nat, j ≤ L.length ∧ i = .int .i64 j ∧ Below w.heap.size w wr) (fun i _ => L.length - (intOf i).toNat)
  case atStart => exact ⟨0, Nat.zero_le _, rfl, Below.refl _ _⟩
  case round =>
    obtain ⟨j, hj, rfl, hb⟩ := hrel
    have BB := Lib.hid hb
    by_cases hjl : j < L.length
    · have hjl' : (j : Int) < L.length := by omega
      have hjm : j < M.length := by omega
      obtain ⟨b, o, rfl, hlt, hr⟩ := (E1.out.below hb).at hjl
      obtain ⟨b', o', rfl, hlt', hr'⟩ := (E2.out.below hb).at hjm
      obtain ⟨c0, c1, c2, c3, c4, c5, c6, c7⟩ := ev_cells hr
      obtain ⟨e0, e1, e2, e3, e4, e5, e6, e7⟩ := ev_cells (range_below hr' (below_alloc wr (.cells L[j].cells.toArray 35)))
      have hee : L[j].e = M[j].e := by
        have := congrArg (·[j]?) HE.out
        simpa [evs, hjl, hjm] using this
      have K1 := Lib.hid ((E1.out.ok L[j] (List.getElem_mem hjl)).below hb)
      have K2 := Lib.hid ((E2.out.ok M[j] (List.getElem_mem hjm)).below hb)
      have hgl := HG.out L[j] (List.getElem_mem hjl)
      clear hb hr hr' hlt hlt'
      obtain ⟨x, hx⟩ : ∃ x, L[j] = x := ⟨_, rfl⟩
      obtain ⟨y, hy⟩ : ∃ y, M[j] = y := ⟨_, rfl⟩
      rw [hx] at c0 c1 c2 c3 c4 c5 c6 c7 e0 e1 e2 e3 e4 e5 e6 e7 hee K1 hgl
      rw [hy] at e0 e1 e2 e3 e4 e5 e6 e7 hee K2
      clear hx hy
      obtain ⟨ex, xp, xc⟩ := x
      obtain ⟨ey, yp, yc⟩ := y
      simp only at hee
      subst hee
      obtain ⟨r, n, t, kd, d, fl, tx, gn⟩ := ex
      simp only [EvP.cells] at c0 c1 c2 c3 c4 c5 c6 c7 e0 e1 e2 e3 e4 e5 e6 e7 hgl
      obtain ⟨D1, N1⟩ := K1.out
      obtain ⟨D2, N2⟩ := K2.out
      simp only at D1 N1 D2 N2
      have n6 := heap_alloc_new wr (.cells #[.int .i64 r, .int .i64 n, .int .i64 t, .int .i64 kd, .string d, .int .i64 fl, .string tx, .slice xp gn.length xc] 35)
      have b6 := below_alloc wr (.cells #[.int .i64 r, .int .i64 n, .int .i64 t, .int .i64 kd, .string d, .int .i64 fl, .string tx, .slice xp gn.length xc] 35)
      have n7 := heap_alloc_new (wr.alloc (.cells #[.int .i64 r, .int .i64 n, .int .i64 t, .int .i64 kd, .string d, .int .i64 fl, .string tx, .slice xp gn.length xc] 35)) (.cells #[.int .i64 r, .int .i64 n, .int .i64 t, .int .i64 kd, .string d, .int .i64 fl, .string tx, .slice yp gn.length yc] 35)
      have b7 := below_alloc (wr.alloc (.cells #[.int .i64 r, .int .i64 n, .int .i64 t, .int .i64 kd, .string d, .int .i64 fl, .string tx, .slice xp gn.length xc] 35)) (.cells #[.int .i64 r, .int .i64 n, .int .i64 t, .int .i64 kd, .string d, .int .i64 fl, .string tx, .slice yp gn.length yc] 35)
      have B7 := Lib.hid (thenBelow b6 b7)
      have N6 := Lib.hid ((b7.block _ (Array.getElem?_eq_some_iff.1 n6).1).trans n6)
      have n7' : ((wr.alloc (.cells #[.int .i64 r, .int .i64 n, .int .i64 t, .int .i64 kd, .string d, .int .i64 fl, .string tx, .slice xp gn.length xc] 35)).alloc (.cells #[.int .i64 r, .int .i64 n, .int .i64 t, .int .i64 kd, .string d, .int .i64 fl, .string tx, .slice yp gn.length yc] 35)).heap[wr.heap.size + 1]? = some (.cells #[.int .i64 r, .int .i64 n, .int .i64 t, .int .i64 kd, .string d, .int .i64 fl, .string tx, .slice yp gn.length yc] 35 (0, 0)) := by simpa [World.size_alloc] using n7
      have N7 := Lib.hid n7'
      have D17 := Lib.hid (D1.below B7.out); have D27 := Lib.hid (D2.below B7.out)
      have N1' := Lib.hid N1; have N2' := Lib.hid N2
      have hq1 : ∀ w : World, (Op.equalIn 10000 32 (.agg #[.int .i64 r, .int .i64 n]) (.agg #[.int .i64 r, .int .i64 n])).run Try.prog w = .ok true w := fun w => by
        have h := runEqDt (r, n) (r, n) w
        rw [(eqDt_iff (r, n) (r, n)).2 rfl] at h; exact h
      have hq2 : ∀ w : World, (binOp .neq 32 (.agg #[.int .i64 r, .int .i64 n]) (.agg #[.int .i64 r, .int .i64 n])).run Try.prog w = .ok (.bool false) w := fun w => by
        have h := neqDt (r, n) (r, n) w
        rw [(eqDt_iff (r, n) (r, n)).2 rfl] at h; exact h
      clear n6 n7 n7' b6 b7 D1 N1 D2 N2 K1 K2
      go_wp2
      clear hq1 hq2 c0 c1 c2 c3 c4 c5 c6 c7 e0 e1 e2 e3 e4 e5 e6 e7
      generalize (wr.alloc (.cells #[.int .i64 r, .int .i64 n, .int .i64 t, .int .i64 kd, .string d, .int .i64 fl, .string tx, .slice xp gn.length xc] 35)).alloc (.cells #[.int .i64 r, .int .i64 n, .int .i64 t, .int .i64 kd, .string d, .int .i64 fl, .string tx, .slice yp gn.length yc] 35) = w7 at B7 N6 N7 D17 D27 ⊢
      have BW7 := Lib.hid (thenBelow BB.out B7.out)
      obtain ⟨G6, hG6⟩ : ∃ G6, wr.heap.size = G6 := ⟨_, rfl⟩
      rw [hG6] at N6 N7 ⊢
      clear hG6 B7
      have hz7 : G6 + 1 < w7.heap.size := (Array.getElem?_eq_some_iff.1 N7.out).1
      go_loopw [78] (fun i wi => ∃ k : Nat, k ≤ gn.length ∧ i = .int .i64 k ∧ Below w7.heap.size w7 wi) (fun i _ => gn.length - (intOf i).toNat)
      case atStart => exact ⟨0, Nat.zero_le _, rfl, Below.refl _ _⟩
      case round =>
        obtain ⟨k, hk, rfl, hb⟩ := hrel
        have BI := Lib.hid hb
        by_cases hkl : k < gn.length
        · have hkl' : (k : Int) < gn.length := by omega
          have hne : gn ≠ [] := by intro e; subst e; simp at hkl
          obtain ⟨b1, o1, rfl, hr1⟩ := D17.out hne
          obtain ⟨b2, o2, rfl, hr2⟩ := D27.out hne
          obtain ⟨d1, d2⟩ := dcl_get gn k hkl
          have r1 := range_below hr1 hb _ _ d1; have r2 := range_below hr1 hb _ _ d2
          have s1 := range_below hr2 hb _ _ d1; have s2 := range_below hr2 hb _ _ d2
          obtain ⟨⟨z1, z2⟩, hz⟩ : ∃ z, gn[k] = z := ⟨_, rfl⟩
          rw [hz] at r1 r2 s1 s2
          simp only at r1 r2 s1 s2
          rw [← Nat.add_assoc] at r2
          have b8 := below_alloc wr (.cells #[.int .i64 z1, .int .i64 z2] 32)
          have n8 := heap_alloc_new wr (.cells #[.int .i64 z1, .int .i64 z2] 32)
          have B8 := Lib.hid (thenBelow hb b8)
          have T7 : Hid (∀ U, Below w7.heap.size w7 U → U.cell? ⟨G6 + 1, 7, none⟩ = some (.slice (some ⟨b2, o2, none⟩) gn.length yc)) := Lib.hid fun U hU =>
            (cell_of_row U (G6 + 1) 7 _ _ _ ((hU.block _ hz7).trans N7.out)).trans rfl
          have hY : Hid ((wr.alloc (.cells #[.int .i64 z1, .int .i64 z2] 32)).rangeAt b2 (o2 + k * 2) [.int .i64 z1, .int .i64 z2]) := Lib.hid (range_below (w := wr) (fun j u hu => by
            match j, hu with
            | 0, hu => simp at hu; subst hu; simpa using s1
            | 1, hu => simp at hu; subst hu; rw [Nat.add_assoc]; exact s2
            | j + 2, hu => simp at hu) b8)
          have hX : Hid ((wr.alloc (.cells #[.int .i64 z1, .int .i64 z2] 32)).rangeAt wr.heap.size 0 [.int .i64 z1, .int .i64 z2]) := Lib.hid (by simpa using range_of_block n8)
          clear hr1 hr2 d1 d2 s1 s2 hb b8 n8 hz hne
          go_wp2_with fail
          rename_i K2 hK2
          have KE : K2 { tmps := #[.slice (some ⟨b, o, none⟩) L.length c, .slice (some ⟨b', o', none⟩) L.length c', undef, undef, u4, .int .i64 (j : Int), .pointer (some ⟨G6, 0, none⟩), .pointer (some ⟨G6 + 1, 0, none⟩), .int .i64 (k : Int), .pointer (some ⟨wr.heap.size, 0, none⟩), .slice (some ⟨b, o, none⟩) L.length c, .int .i64 (L.length : Int), .slice (some ⟨b', o', none⟩) L.length c', .int .i64 (L.length : Int), .bool false, .slice (some ⟨b, o, none⟩) L.length c, .int .i64 (L.length : Int), .int .i64 (j : Int), .bool true, .int .i64 (j : Int), .pointer (some ⟨b, o + j * 8, none⟩), .agg #[.int .i64 r, .int .i64 n, .int .i64 t, .int .i64 kd, .string d, .int .i64 fl, .string tx, .slice (some ⟨b1, o1, none⟩) gn.length xc], .slice (some ⟨b', o', none⟩) L.length c', .int .i64 (j : Int), .pointer (some ⟨b', o' + j * 8, none⟩), .agg #[.int .i64 r, .int .i64 n, .int .i64 t, .int .i64 kd, .string d, .int .i64 fl, .string tx, .slice (some ⟨b2, o2, none⟩) gn.length yc], .pointer (some ⟨G6, 0, none⟩), .agg #[.int .i64 r, .int .i64 n], .pointer (some ⟨G6 + 1, 0, none⟩), .agg #[.int .i64 r, .int .i64 n], .bool false, .bool false, .pointer (some ⟨G6, 2, none⟩), .int .i64 t, .pointer (some ⟨G6 + 1, 2, none⟩), .int .i64 t, .bool false, .bool false, .bool false, .pointer (some ⟨G6, 3, none⟩), .int .i64 kd, .pointer (some ⟨G6 + 1, 3, none⟩), .int .i64 kd, .bool false, .bool false, .bool false, .pointer (some ⟨G6, 4, none⟩), .string d, .pointer (some ⟨G6 + 1, 4, none⟩), .string d, .bool false, .bool false, .bool false, .pointer (some ⟨G6, 5, none⟩), .int .i64 fl, .pointer (some ⟨G6 + 1, 5, none⟩), .int .i64 fl, .bool false, .bool false, .bool false, .pointer (some ⟨G6, 6, none⟩), .string tx, .pointer (some ⟨G6 + 1, 6, none⟩), .string tx, .bool false, .bool false, .bool false, .pointer (some ⟨G6, 7, none⟩), .slice (some ⟨b1, o1, none⟩) gn.length xc, .int .i64 (gn.length : Int), .pointer (some ⟨G6 + 1, 7, none⟩), .slice (some ⟨b2, o2, none⟩) gn.length yc, .int .i64 (gn.length : Int), .bool false, .bool false, .pointer (some ⟨G6, 7, none⟩), .slice (some ⟨b1, o1, none⟩) gn.length xc, .int .i64 (gn.length : Int), .int .i64 (k : Int), .bool true, .int .i64 (k : Int), .pointer (some ⟨b1, o1 + k * 2, none⟩), .agg #[.int .i64 z1, .int .i64 z2], .pointer (some ⟨G6 + 1, 7, none⟩), .slice (some ⟨b2, o2, none⟩) gn.length yc, .int .i64 (k : Int), .pointer (some ⟨b2, o2 + k * 2, none⟩), .agg #[.int .i64 z1, .int .i64 z2], .agg #[.int .i64 z1, .int .i64 z2], .bool false, u90, u91], defers := [] } (wr.alloc (.cells #[.int .i64 z1, .int .i64 z2] 32)).drew := by
            refine hK2 _ _ ?_
            clear hK2 T7 hY hX r1 r2
            have B9 := Lib.hid (to_drew B8.out)
            clear B8
            generalize (wr.alloc (.cells #[.int .i64 z1, .int .i64 z2] 32)).drew = w9 at B9 ⊢
            go_wp2
            go_roundw
            case rel => exact ⟨k + 1, by omega, by go_num, by simpa using B9.out⟩
            case measure => simp [intOf]; omega
          have SZ : (Try.prog.info? 32).map (·.size) = some [Value.int .i64 z1, .int .i64 z2].length := by kernel_rfl
          have m0 : (wr.alloc (.cells #[.int .i64 z1, .int .i64 z2] 32)).drew.cell? ⟨G6 + 1, 7, none⟩ = some (.slice (some ⟨b2, o2, none⟩) gn.length yc) ∧ (wr.alloc (.cells #[.int .i64 z1, .int .i64 z2] 32)).drew.rangeAt b2 (o2 + k * 2) [.int .i64 z1, .int .i64 z2] ∧ (wr.alloc (.cells #[.int .i64 z1, .int .i64 z2] 32)).drew.rangeAt wr.heap.size 0 [.int .i64 z1, .int .i64 z2] := ⟨T7.out _ (to_drew B8.out), hY.out, hX.out⟩
          refine rg_calm (by kernel_rfl) rfl (S := fun U => U.cell? ⟨G6 + 1, 7, none⟩ = some (.slice (some ⟨b2, o2, none⟩) gn.length yc) ∧ U.rangeAt b2 (o2 + k * 2) [.int .i64 z1, .int .i64 z2] ∧ U.rangeAt wr.heap.size 0 [.int .i64 z1, .int .i64 z2]) ?_
          refine rgd_pure 0 (some 83) rfl rfl (.pointer (some ⟨G6 + 1, 7, none⟩)) (by kernel_rfl) (by kernel_rfl) (by kernel_rfl) (fun _ _ _ _ h => h) (by kernel_rfl) (fun w => by kernel_rfl) m0 ?_
          refine rgd_load 1 (some 84) rfl rfl (by kernel_rfl) (by kernel_rfl) (by kernel_rfl) (fun _ _ _ _ h => h) (by kernel_rfl) _ _ rfl Try.underlying33 rfl ⟨G6 + 1, 7, none⟩ (.slice (some ⟨b2, o2, none⟩) gn.length yc) (by kernel_rfl) (fun U hU => hU.1) m0 ?_
          refine rgd_pure 2 (some 85) rfl rfl (.int .i64 (k : Int)) (by kernel_rfl) (by kernel_rfl) (by kernel_rfl) (fun _ _ _ _ h => h) (by kernel_rfl) (fun w => by kernel_rfl) m0 ?_
          refine rgd_pure 3 (some 86) rfl rfl (.pointer (some ⟨b2, o2 + k * 2, none⟩)) (by kernel_rfl) (by kernel_rfl) (by kernel_rfl) (fun _ _ _ _ h => h) (by kernel_rfl) (exec_idxD _ _ rfl b2 o2 gn.length yc k (by kernel_rfl) (by kernel_rfl) hkl) m0 ?_
          refine rgd_pureS 4 (some 87) rfl rfl (.agg #[.int .i64 z1, .int .i64 z2]) (by kernel_rfl) (by kernel_rfl) (by kernel_rfl) (fun _ _ _ _ h => h) (by kernel_rfl) (fun U hU => exec_gload 32 _ rfl b2 (o2 + k * 2) (by kernel_rfl) _ hU.2.1 Try.underlying32 rfl SZ) m0 ?_
          refine rgd_pureS 5 (some 88) rfl rfl (.agg #[.int .i64 z1, .int .i64 z2]) (by kernel_rfl) (by kernel_rfl) (by kernel_rfl) (fun _ _ _ _ h => h) (by kernel_rfl) (fun U hU => exec_gload 32 _ rfl wr.heap.size 0 (by kernel_rfl) _ hU.2.2 Try.underlying32 rfl SZ) m0 ?_
          refine rgd_pure 6 (some 89) rfl rfl (.bool false) (by kernel_rfl) (by kernel_rfl) (by kernel_rfl) (fun _ _ _ _ h => h) (by kernel_rfl) (exec_neqD _ _ _ rfl (z1, z2) (by kernel_rfl) (by kernel_rfl)) m0 ?_
          exact wpAnyH_done (by kernel_rfl) (Eq.mp (by kernel_rfl) KE) _
        · obtain rfl : k = gn.length := by omega
          have hkl' : ¬ ((gn.length : Nat) : Int) < gn.length := by omega
          have BE := Lib.hid (thenBelow BW7.out BI.out)
          go_wp2
          go_roundw
          case rel => exact ⟨j + 1, by omega, by go_num, BE.out⟩
          case measure => simp [intOf]; omega
    · obtain rfl : j = L.length := by omega
      have hjl' : ¬ ((L.length : Nat) : Int) < L.length := by omega
      go_wp2
      go_ret
      exact ⟨rfl, BB.out⟩
end Go.Proofs.Ytimfcedkmdbnfaa
