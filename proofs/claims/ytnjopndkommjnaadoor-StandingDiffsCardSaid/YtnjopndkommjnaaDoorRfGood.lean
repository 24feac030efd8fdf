/- The document's Good. -/
import Derived.Test.YtnjopndkommjnaaDoorRfFind
import Derived.Test.YtnjopndkommjnaaDoorStdGood
namespace Go.Proofs.YtnjopndkommjnaaDoor
open Go Go.RowKit
set_option linter.unusedVariables false
set_option maxRecDepth 1000000

theorem hits_take {w : World} {p : Option Addr} {L : List Ht} (h : HtsAt w p L) (k : Nat) : HtsAt w p (L.take k) :=
  ⟨(fun hn => by
    have : L ≠ [] := fun e => hn (by rw [e]; simp)
    obtain ⟨b, o, rfl, hr⟩ := h.row this
    refine ⟨b, o, rfl, fun j u hu => hr j u ?_⟩
    rw [hcl_take] at hu
    by_cases h5 : j < k * 2
    · rwa [List.getElem?_take_of_lt h5] at hu
    · rw [List.getElem?_eq_none (by rw [List.length_take]; omega)] at hu
      cases hu), fun e => by rw [h.none e]; simp⟩
theorem ids_nodup {L : List Ht} : (L.map Ht.id).Nodup ↔ ∀ k (h : k < L.length), scoresOf (L.take k) L[k].id = [] := by
  unfold List.Nodup
  rw [List.pairwise_map, List.pairwise_iff_getElem]
  constructor
  · intro h k hk
    rw [scoresOf_nil]
    intro x hx e
    obtain ⟨i, hi, rfl⟩ := List.getElem_of_mem hx
    rw [List.length_take] at hi
    rw [List.getElem_take] at e
    exact h i k (by omega) hk (by omega) e
  · intro h i k hi hk hik e
    have h1 := scoresOf_nil.1 (h k hk) L[i] (by
      rw [List.mem_take_iff_getElem]
      exact ⟨i, by omega, rfl⟩)
    exact h1 e
theorem exec_cutH {o : Oper} {a : Act} (x y : Operand) (ho : o.op = .slice 22 x none (some y) none) (G f n cap k : Nat) (hx : a.eval x = .slice (some ⟨G, f, none⟩) n cap) (hy : a.eval y = .int .i64 (k : Int)) (hk : k ≤ cap) (w : World) :
    (execOp a.eval o).run Tryd.prog w = .ok (.value (.slice (some ⟨G, f, none⟩) k cap)) w := by
  have hk' : (k : Int) ≤ (cap : Int) := by omega
  unfold execOp
  simp only [ho, hx, hy, Option.map_some, Option.map_none]
  go_simp
theorem exec_storeRowG {P : Program} {o : Oper} {a : Act} {w : World} (t : TypeId) (x y : Operand) (ho : o.op = .store t x y) (b f : Nat) (cs : Array Value) (hx : a.eval x = .pointer (some ⟨b, f, none⟩)) (hy : a.eval y = .agg cs) (ht : w.there b f cs.size) (hi : (P.info? t).map (·.size) = some cs.size) (h1 : cs.all (·.oneCell') = true) :
    (execOp a.eval o).run P w = .ok .skip (w.setCells b f cs.toList) := by
  have h := run_storeAt_mid (P := P) w b f t cs ht hi h1
  unfold execOp
  simp only [ho, hx, hy]
  simp only [Sem.run_bind, h]
  rfl
theorem exec_allocH {o : Oper} {a : Act} (ho : o.op = .alloc 28) (w : World) : (execOp a.eval o).run Tryd.prog w = .ok (.value (.pointer (some ⟨w.heap.size, 0, none⟩))) (w.alloc (.cells #[.string ByteArray.empty, .int .i64 0] 28)) := by
  unfold execOp
  simp only [ho, Instr.alloc, Sem.run_bind, zeroHt, Result.andThen_ok]
  rfl
theorem there_two {U : World} {g : Nat} {u v : Value} {t : TypeId} (h : U.heap[g]? = some (.cells #[u, v] t (0, 0))) : U.there g 0 2 := fun j hj => by
  match j, hj with
  | 0, _ => exact ⟨by rw [cell_of_row U g 0 _ _ _ h]; rfl, frozen_of_row U g 0 _ _ h⟩
  | 1, _ => exact ⟨by rw [cell_of_row U g 1 _ _ _ h]; rfl, frozen_of_row U g 1 _ _ h⟩
theorem one2 (xi : ByteArray) (xs : Int) : (#[Value.string xi, Value.int .i64 xs].all fun x => x.oneCell') = true := by simp [Value.oneCell']
theorem stored_new {W U : World} {g : Nat} {vs : List Value} (h : Below W.heap.size W U) (hg : W.heap.size ≤ g) : Below W.heap.size W (U.setCells g 0 vs) := h.grown (grown_setCells g vs U 0) h.size (fun k hk => by cases hk; exact hg)
set_option maxHeartbeats 4000000 in
theorem refGood_is (p : Option Addr) (c : Nat) (L : List Ht) (w : World) (h : HtsAt w p L) (hn : L.length ≤ 10000) (hc : L.length ≤ c) :
    Calls Tryd.prog 13 #[.slice p L.length c] w (RetBool w (goodB L)) := by
  have HM := Lib.hid h
  clear h
  obtain ⟨R, hR⟩ : ∃ R, goodB L = R := ⟨_, rfl⟩
  rw [hR]
  have HR := Lib.hid hR
  clear hR
  go_enter Tryd.func13, Tryd.ntmps13
  go_wp2_with fail
  go_loopw [9] (fun i wr => ∃ j : Nat, j ≤ L.length ∧ i = .int .i64 j ∧ Hid (∀ k (h : k + 1 < L.length), k + 1 < j → ltH (L[k]'(by omega)) L[k + 1] = true) ∧ Hid (∀ k (h : k < L.length), k < j → scoresOf (L.take k) L[k].id = []) ∧ Hid (Below w.heap.size w wr)) (fun i _ => L.length - (intOf i).toNat)
  case atStart => exact ⟨0, Nat.zero_le _, rfl, Lib.hid (fun k h h2 => by omega), Lib.hid (fun k h h2 => by omega), Lib.hid (Below.refl _ _)⟩
  case round =>
    obtain ⟨j, hj, rfl, HA, HI, BB⟩ := hrel
    by_cases hjl : j < L.length
    · have hjl' : (j : Int) < L.length := by omega
      obtain ⟨b, o, rfl, hlt, hr⟩ := (HM.out.below BB.out).at hjl
      obtain ⟨k0, k1⟩ := ht_cells hr
      have hjk : j + 1 ≤ L.length := hjl
      obtain ⟨y, hy⟩ : ∃ y, L[j] = y := ⟨_, rfl⟩
      rw [hy] at k0 k1
      have EX := Lib.hid hy
      clear hr hlt hy
      obtain ⟨yi, ys⟩ := y
      simp only at k0 k1
      have b7 := below_alloc wr (.cells #[.string yi, .int .i64 ys] 28)
      have B7 := Lib.hid (thenBelow BB.out b7)
      have K7 := Lib.hid b7
      have R7 : Hid ((wr.alloc (.cells #[.string yi, .int .i64 ys] 28)).rangeAt wr.heap.size 0 [.string yi, .int .i64 ys]) := Lib.hid (range_of_block (heap_alloc_new wr (.cells #[.string yi, .int .i64 ys] 28)))
      clear b7
      go_wp2_with fail
      obtain ⟨G, hG⟩ : ∃ G, wr.heap.size = G := ⟨_, rfl⟩
      rw [hG] at R7 ⊢
      generalize wr.alloc (.cells #[.string yi, .int .i64 ys] 28) = w7 at B7 K7 R7 ⊢
      have LT : (L.take j).length = j := by rw [List.length_take]; omega
      have FI : Hid (∀ V : World, Below w.heap.size w V → Calls Tryd.prog 24 #[.slice (some ⟨b, o, none⟩) j c, .string yi] V (FindR V (scoresOf (L.take j) yi))) := Lib.hid fun V hV => by
        have h9 := refFind_is (some ⟨b, o, none⟩) c (L.take j) yi V (hits_take (HM.out.below hV) j) (by omega)
        rwa [LT] at h9
      obtain ⟨th, hth⟩ : ∃ th, (!(scoresOf (L.take j) yi).isEmpty) = th := ⟨_, rfl⟩
      have HT := Lib.hid hth
      generalize hQ : Exit.then _ _ = QX
      have KE : ∀ (g5 : Nat) (xi : ByteArray) (xs : Int) (U : World), Below w7.drew.heap.size w7.drew U → QX .normal { tmps := #[.slice (some ⟨b, o, none⟩) L.length c, undef, u2, .int .i64 (j : Int), .pointer (some ⟨G, 0, none⟩), .pointer (some ⟨g5, 0, none⟩), .bool th, .slice (some ⟨b, o, none⟩) L.length c, .int .i64 (L.length : Int), .int .i64 (j : Int), .bool true, .int .i64 (j : Int), .pointer (some ⟨b, o + j * 2, none⟩), .agg #[.string yi, .int .i64 ys], .tuple #[.agg #[.string xi, .int .i64 xs], .bool th], .slice (some ⟨b, o, none⟩) L.length c, .int .i64 (j : Int), .slice (some ⟨b, o, none⟩) j c, .pointer (some ⟨G, 0, none⟩), .string yi, .tuple #[.agg #[.string xi, .int .i64 xs], .bool th], .agg #[.string xi, .int .i64 xs], .bool th, u23, u24, u25, u26, u27, u28, u29, u30, u31, u32, u33, u34, u35, u36, u37, u38], defers := [] } U := by
        intro g5 xi xs U hU
        rw [← hQ]
        clear hQ
        simp only [Exit.then]
        have B8 := Lib.hid (thenBelow B7.out (from_drewG hU)); have R8 := Lib.hid (range_below R7.out (from_drewG hU))
        clear hU hth FI LT
        cases th with
        | true =>
          go_wp2_with fail
          generalize hQ : Exit.then _ _ = QY
          have c0 := Below.refl U.drew.heap.size U.drew
          have KF : ∀ V : World, Below U.drew.heap.size U.drew V → QY .normal { tmps := #[.slice (some ⟨b, o, none⟩) L.length c, undef, u2, .int .i64 (j : Int), .pointer (some ⟨G, 0, none⟩), .pointer (some ⟨g5, 0, none⟩), .bool true, .slice (some ⟨b, o, none⟩) L.length c, .int .i64 (L.length : Int), .int .i64 (j : Int), .bool true, .int .i64 (j : Int), .pointer (some ⟨b, o + j * 2, none⟩), .agg #[.string yi, .int .i64 ys], .tuple #[.agg #[.string xi, .int .i64 xs], .bool true], .slice (some ⟨b, o, none⟩) L.length c, .int .i64 (j : Int), .slice (some ⟨b, o, none⟩) j c, .pointer (some ⟨G, 0, none⟩), .string yi, .tuple #[.agg #[.string xi, .int .i64 xs], .bool true], .agg #[.string xi, .int .i64 xs], .bool true, .bool true, .bool true, undef, undef, undef, undef, undef, undef, undef, undef, undef, undef, undef, undef, .bool true, u38], defers := [] } V := by
            intro V hV
            rw [← hQ]
            clear hQ
            simp only [Exit.then]
            have B9 := Lib.hid (thenBelow B8.out (from_drewG hV))
            clear hV c0
            have hf : R = false := by
              rw [← HR.out, Bool.eq_false_iff]
              intro e
              have h1 := ids_nodup.1 (goodB_true.1 e).ids j hjl
              rw [EX.out] at h1
              have h2 := HT.out
              rw [h1] at h2
              cases h2
            subst hf
            go_wp2
            go_ret
            exact ⟨rfl, B9.out⟩
          refine rg_last (by kernel_rfl) rfl (S := fun V => Below U.drew.heap.size U.drew V) ?_
          refine rgd_pure 0 (some 23) rfl rfl (.bool true) (by kernel_rfl) (by kernel_rfl) (by kernel_rfl) (fun _ _ _ _ h => h) (by kernel_rfl) (fun w => by kernel_rfl) c0 ?_
          refine rgd_pure 1 (some 24) rfl rfl (.bool true) (by kernel_rfl) (by kernel_rfl) (by kernel_rfl) (fun _ _ _ _ h => h) (by kernel_rfl) (fun w => by kernel_rfl) c0 ?_
          refine rgd_skip 2 (some 25) rfl rfl (by kernel_rfl) (by kernel_rfl) (by kernel_rfl) (fun _ _ _ _ h => h) (by kernel_rfl) c0 ?_
          refine rgd_skip 3 (some 26) rfl rfl (by kernel_rfl) (by kernel_rfl) (by kernel_rfl) (fun _ _ _ _ h => h) (by kernel_rfl) c0 ?_
          refine rgd_skip 4 (some 27) rfl rfl (by kernel_rfl) (by kernel_rfl) (by kernel_rfl) (fun _ _ _ _ h => h) (by kernel_rfl) c0 ?_
          refine rgd_skip 5 (some 28) rfl rfl (by kernel_rfl) (by kernel_rfl) (by kernel_rfl) (fun _ _ _ _ h => h) (by kernel_rfl) c0 ?_
          refine rgd_skip 6 (some 29) rfl rfl (by kernel_rfl) (by kernel_rfl) (by kernel_rfl) (fun _ _ _ _ h => h) (by kernel_rfl) c0 ?_
          refine rgd_skip 7 (some 30) rfl rfl (by kernel_rfl) (by kernel_rfl) (by kernel_rfl) (fun _ _ _ _ h => h) (by kernel_rfl) c0 ?_
          refine rgd_skip 8 (some 31) rfl rfl (by kernel_rfl) (by kernel_rfl) (by kernel_rfl) (fun _ _ _ _ h => h) (by kernel_rfl) c0 ?_
          refine rgd_skip 9 (some 32) rfl rfl (by kernel_rfl) (by kernel_rfl) (by kernel_rfl) (fun _ _ _ _ h => h) (by kernel_rfl) c0 ?_
          refine rgd_skip 10 (some 33) rfl rfl (by kernel_rfl) (by kernel_rfl) (by kernel_rfl) (fun _ _ _ _ h => h) (by kernel_rfl) c0 ?_
          refine rgd_skip 11 (some 34) rfl rfl (by kernel_rfl) (by kernel_rfl) (by kernel_rfl) (fun _ _ _ _ h => h) (by kernel_rfl) c0 ?_
          refine rgd_skip 12 (some 35) rfl rfl (by kernel_rfl) (by kernel_rfl) (by kernel_rfl) (fun _ _ _ _ h => h) (by kernel_rfl) c0 ?_
          refine rgd_skip 13 (some 36) rfl rfl (by kernel_rfl) (by kernel_rfl) (by kernel_rfl) (fun _ _ _ _ h => h) (by kernel_rfl) c0 ?_
          refine rgd_pure 14 (some 37) rfl rfl (.bool true) (by kernel_rfl) (by kernel_rfl) (by kernel_rfl) (fun _ _ _ _ h => h) (by kernel_rfl) (fun w => by kernel_rfl) c0 ?_
          exact wpAnyH_done (by kernel_rfl) (Eq.mp (by kernel_rfl) (KF _ c0)) _
        | false =>
          have NI : Hid (∀ k (h : k < L.length), k < j + 1 → scoresOf (L.take k) L[k].id = []) := Lib.hid (fun k h h2 => by
            rcases Nat.lt_or_ge k j with h3 | h3
            · exact HI.out k h h3
            · obtain rfl : k = j := by omega
              rw [EX.out]
              have h4 := HT.out
              simpa using h4)
          by_cases h0 : j = 0
          · have HZ := Lib.hid h0
            have NA : Hid (∀ k (h : k + 1 < L.length), k + 1 < j + 1 → ltH (L[k]'(by omega)) L[k + 1] = true) := Lib.hid (fun k h h2 => by omega)
            clear h0
            go_wp2_with fail
            have h0 := HZ.out
            generalize hQ : Exit.then _ _ = QY
            have c0 := Below.refl U.drew.heap.size U.drew
            have KF : ∀ V : World, Below U.drew.heap.size U.drew V → QY .normal { tmps := #[.slice (some ⟨b, o, none⟩) L.length c, undef, u2, .int .i64 (j : Int), .pointer (some ⟨G, 0, none⟩), .pointer (some ⟨g5, 0, none⟩), .bool false, .slice (some ⟨b, o, none⟩) L.length c, .int .i64 (L.length : Int), .int .i64 (j : Int), .bool true, .int .i64 (j : Int), .pointer (some ⟨b, o + j * 2, none⟩), .agg #[.string yi, .int .i64 ys], .tuple #[.agg #[.string xi, .int .i64 xs], .bool false], .slice (some ⟨b, o, none⟩) L.length c, .int .i64 (j : Int), .slice (some ⟨b, o, none⟩) j c, .pointer (some ⟨G, 0, none⟩), .string yi, .tuple #[.agg #[.string xi, .int .i64 xs], .bool false], .agg #[.string xi, .int .i64 xs], .bool false, .bool false, .bool false, .int .i64 (j : Int), .bool false, .bool false, undef, undef, undef, undef, undef, undef, undef, undef, .bool false, .bool false, u38], defers := [] } V := by
              intro V hV
              rw [← hQ]
              clear hQ
              simp only [Exit.then]
              have B9 := Lib.hid (thenBelow B8.out (from_drewG hV))
              clear hV c0
              clear h0
              go_wp2
              go_roundw
              case rel => exact ⟨j + 1, by omega, by go_num, NA, NI, B9⟩
              case measure => simp [intOf]; omega
            refine rg_last (by kernel_rfl) rfl (S := fun V => Below U.drew.heap.size U.drew V) ?_
            refine rgd_pure 0 (some 23) rfl rfl (.bool false) (by kernel_rfl) (by kernel_rfl) (by kernel_rfl) (fun _ _ _ _ h => h) (by kernel_rfl) (fun w => by kernel_rfl) c0 ?_
            refine rgd_pure 1 (some 24) rfl rfl (.bool false) (by kernel_rfl) (by kernel_rfl) (by kernel_rfl) (fun _ _ _ _ h => h) (by kernel_rfl) (fun w => by kernel_rfl) c0 ?_
            refine rgd_pure 2 (some 25) rfl rfl (.int .i64 (j : Int)) (by kernel_rfl) (by kernel_rfl) (by kernel_rfl) (fun _ _ _ _ h => h) (by kernel_rfl) (fun w => by kernel_rfl) c0 ?_
            refine rgd_pure 3 (some 26) rfl rfl (.bool false) (by kernel_rfl) (by kernel_rfl) (by kernel_rfl) (fun _ _ _ _ h => h) (by kernel_rfl) (fun w => exec_gtrI _ _ _ _ rfl (j : Int) 0 _ (decide_eq_false (by omega)) (by kernel_rfl) (by kernel_rfl) w) c0 ?_
            refine rgd_pure 4 (some 27) rfl rfl (.bool false) (by kernel_rfl) (by kernel_rfl) (by kernel_rfl) (fun _ _ _ _ h => h) (by kernel_rfl) (fun w => by kernel_rfl) c0 ?_
            refine rgd_skip 5 (some 28) rfl rfl (by kernel_rfl) (by kernel_rfl) (by kernel_rfl) (fun _ _ _ _ h => h) (by kernel_rfl) c0 ?_
            refine rgd_skip 6 (some 29) rfl rfl (by kernel_rfl) (by kernel_rfl) (by kernel_rfl) (fun _ _ _ _ h => h) (by kernel_rfl) c0 ?_
            refine rgd_skip 7 (some 30) rfl rfl (by kernel_rfl) (by kernel_rfl) (by kernel_rfl) (fun _ _ _ _ h => h) (by kernel_rfl) c0 ?_
            refine rgd_skip 8 (some 31) rfl rfl (by kernel_rfl) (by kernel_rfl) (by kernel_rfl) (fun _ _ _ _ h => h) (by kernel_rfl) c0 ?_
            refine rgd_skip 9 (some 32) rfl rfl (by kernel_rfl) (by kernel_rfl) (by kernel_rfl) (fun _ _ _ _ h => h) (by kernel_rfl) c0 ?_
            refine rgd_skip 10 (some 33) rfl rfl (by kernel_rfl) (by kernel_rfl) (by kernel_rfl) (fun _ _ _ _ h => h) (by kernel_rfl) c0 ?_
            refine rgd_skip 11 (some 34) rfl rfl (by kernel_rfl) (by kernel_rfl) (by kernel_rfl) (fun _ _ _ _ h => h) (by kernel_rfl) c0 ?_
            refine rgd_skip 12 (some 35) rfl rfl (by kernel_rfl) (by kernel_rfl) (by kernel_rfl) (fun _ _ _ _ h => h) (by kernel_rfl) c0 ?_
            refine rgd_pure 13 (some 36) rfl rfl (.bool false) (by kernel_rfl) (by kernel_rfl) (by kernel_rfl) (fun _ _ _ _ h => h) (by kernel_rfl) (fun w => by kernel_rfl) c0 ?_
            refine rgd_pure 14 (some 37) rfl rfl (.bool false) (by kernel_rfl) (by kernel_rfl) (by kernel_rfl) (fun _ _ _ _ h => h) (by kernel_rfl) (fun w => by kernel_rfl) c0 ?_
            exact wpAnyH_done (by kernel_rfl) (Eq.mp (by kernel_rfl) (KF _ c0)) _
          · obtain ⟨i, hi⟩ : ∃ i, i + 1 = j := ⟨j - 1, by omega⟩
            have HJ := Lib.hid hi
            have hil : i < L.length := by omega
            obtain ⟨b', o', hp, hlt2, hr2⟩ := (HM.out.below B8.out).at hil
            cases hp
            obtain ⟨x, hx⟩ : ∃ x, L[i]'hil = x := ⟨_, rfl⟩
            rw [hx] at hr2
            have X8 := Lib.hid hr2
            have EY := Lib.hid hx
            obtain ⟨bz, hbz⟩ : ∃ q, ltH x ⟨yi, ys⟩ = q := ⟨_, rfl⟩
            have LS := Lib.hid (refLess_is x ⟨yi, ys⟩)
            rw [hbz] at LS
            have HB := Lib.hid hbz
            have LS : Hid (∀ V : World, Calls Tryd.prog 27 #[.agg x.cells.toArray, .agg #[.string yi, .int .i64 ys]] V (RetBool V bz)) := LS
            clear hbz hi hr2 hlt2 hx
            go_wp2_with fail
            have hi := HJ.out
            cases bz with
            | true =>
              have NA : Hid (∀ k (h : k + 1 < L.length), k + 1 < j + 1 → ltH (L[k]'(by omega)) L[k + 1] = true) := Lib.hid (fun k h h2 => by
                rcases Nat.lt_or_ge k i with h3 | h3
                · exact HA.out k h (by omega)
                · obtain rfl : k = i := by omega
                  subst hi
                  rw [EY.out, EX.out]; exact HB.out)
              generalize hQ : Exit.then _ _ = QY
              have c0 := Below.refl U.drew.heap.size U.drew
              have KF : ∀ V : World, Below U.drew.heap.size U.drew V → QY .normal { tmps := #[.slice (some ⟨b, o, none⟩) L.length c, undef, u2, .int .i64 (j : Int), .pointer (some ⟨G, 0, none⟩), .pointer (some ⟨g5, 0, none⟩), .bool false, .slice (some ⟨b, o, none⟩) L.length c, .int .i64 (L.length : Int), .int .i64 (j : Int), .bool true, .int .i64 (j : Int), .pointer (some ⟨b, o + j * 2, none⟩), .agg #[.string yi, .int .i64 ys], .tuple #[.agg #[.string xi, .int .i64 xs], .bool false], .slice (some ⟨b, o, none⟩) L.length c, .int .i64 (j : Int), .slice (some ⟨b, o, none⟩) j c, .pointer (some ⟨G, 0, none⟩), .string yi, .tuple #[.agg #[.string xi, .int .i64 xs], .bool false], .agg #[.string xi, .int .i64 xs], .bool false, .bool false, .bool false, .int .i64 (j : Int), .bool true, .bool true, .slice (some ⟨b, o, none⟩) L.length c, .int .i64 (j : Int), .int .i64 ((i : Nat) : Int), .pointer (some ⟨b, o + i * 2, none⟩), .agg x.cells.toArray, .agg #[.string yi, .int .i64 ys], .bool true, .bool false, .bool false, .bool false, u38], defers := [] } V := by
                intro V hV
                rw [← hQ]
                clear hQ
                simp only [Exit.then]
                have B9 := Lib.hid (thenBelow B8.out (from_drewG hV))
                clear hV c0
                clear hi
                go_wp2
                go_roundw
                case rel => exact ⟨j + 1, by omega, by go_num, NA, NI, B9⟩
                case measure => simp [intOf]; omega
              refine rg_last (by kernel_rfl) rfl (S := fun V => Below U.drew.heap.size U.drew V) ?_
              refine rgd_pure 0 (some 23) rfl rfl (.bool false) (by kernel_rfl) (by kernel_rfl) (by kernel_rfl) (fun _ _ _ _ h => h) (by kernel_rfl) (fun w => by kernel_rfl) c0 ?_
              refine rgd_pure 1 (some 24) rfl rfl (.bool false) (by kernel_rfl) (by kernel_rfl) (by kernel_rfl) (fun _ _ _ _ h => h) (by kernel_rfl) (fun w => by kernel_rfl) c0 ?_
              refine rgd_pure 2 (some 25) rfl rfl (.int .i64 (j : Int)) (by kernel_rfl) (by kernel_rfl) (by kernel_rfl) (fun _ _ _ _ h => h) (by kernel_rfl) (fun w => by kernel_rfl) c0 ?_
              refine rgd_pure 3 (some 26) rfl rfl (.bool true) (by kernel_rfl) (by kernel_rfl) (by kernel_rfl) (fun _ _ _ _ h => h) (by kernel_rfl) (fun w => exec_gtrI _ _ _ _ rfl (j : Int) 0 _ (decide_eq_true (by omega)) (by kernel_rfl) (by kernel_rfl) w) c0 ?_
              refine rgd_pure 4 (some 27) rfl rfl (.bool true) (by kernel_rfl) (by kernel_rfl) (by kernel_rfl) (fun _ _ _ _ h => h) (by kernel_rfl) (fun w => by kernel_rfl) c0 ?_
              refine rgd_pure 5 (some 28) rfl rfl (.slice (some ⟨b, o, none⟩) L.length c) (by kernel_rfl) (by kernel_rfl) (by kernel_rfl) (fun _ _ _ _ h => h) (by kernel_rfl) (fun w => by kernel_rfl) c0 ?_
              refine rgd_pure 6 (some 29) rfl rfl (.int .i64 (j : Int)) (by kernel_rfl) (by kernel_rfl) (by kernel_rfl) (fun _ _ _ _ h => h) (by kernel_rfl) (fun w => by kernel_rfl) c0 ?_
              refine rgd_pure 7 (some 30) rfl rfl (.int .i64 ((i : Nat) : Int)) (by kernel_rfl) (by kernel_rfl) (by kernel_rfl) (fun _ _ _ _ h => h) (by kernel_rfl) (fun w => exec_subI _ _ _ _ rfl (j : Int) 1 ((i : Nat) : Int) (by rw [IntKind.wrap_i64] <;> omega) (by kernel_rfl) (by kernel_rfl) w) c0 ?_
              refine rgd_pure 8 (some 31) rfl rfl (.pointer (some ⟨b, o + i * 2, none⟩)) (by kernel_rfl) (by kernel_rfl) (by kernel_rfl) (fun _ _ _ _ h => h) (by kernel_rfl) (exec_idxH _ _ rfl b o L.length c i (by kernel_rfl) (by kernel_rfl) (by omega)) c0 ?_
              refine rgd_pureS 9 (some 32) rfl rfl (.agg x.cells.toArray) (by kernel_rfl) (by kernel_rfl) (by kernel_rfl) (fun _ _ _ _ h => h) (by kernel_rfl) (fun U hU => exec_gload 28 _ rfl b (o + i * 2) (by kernel_rfl) _ (range_below X8.out (from_drewG hU)) Tryd.underlying28 rfl (sizeHt x)) c0 ?_
              refine rgd_pureS 10 (some 33) rfl rfl (.agg #[.string yi, .int .i64 ys]) (by kernel_rfl) (by kernel_rfl) (by kernel_rfl) (fun _ _ _ _ h => h) (by kernel_rfl) (fun U hU => exec_gload 28 _ rfl G 0 (by kernel_rfl) _ (range_below R8.out (from_drewG hU)) Tryd.underlying28 rfl (sizeHt ⟨yi, ys⟩)) c0 ?_
              refine rgd_call 11 (some 34) (by kernel_rfl) rfl rfl (by kernel_rfl) 27 (#[.agg x.cells.toArray, .agg #[.string yi, .int .i64 ys]]) (by kernel_rfl) (LS.out _) ?_
              rintro _ U2 ⟨rfl, c1⟩
              refine ⟨_, rfl, c1, ?_⟩
              refine rgd_pure 12 (some 35) rfl rfl (.bool false) (by kernel_rfl) (by kernel_rfl) (by kernel_rfl) (fun _ _ _ _ h => h) (by kernel_rfl) (fun w => by kernel_rfl) c1 ?_
              refine rgd_pure 13 (some 36) rfl rfl (.bool false) (by kernel_rfl) (by kernel_rfl) (by kernel_rfl) (fun _ _ _ _ h => h) (by kernel_rfl) (fun w => by kernel_rfl) c1 ?_
              refine rgd_pure 14 (some 37) rfl rfl (.bool false) (by kernel_rfl) (by kernel_rfl) (by kernel_rfl) (fun _ _ _ _ h => h) (by kernel_rfl) (fun w => by kernel_rfl) c1 ?_
              exact wpAnyH_done (by kernel_rfl) (Eq.mp (by kernel_rfl) (KF _ c1)) _
            | false =>
              generalize hQ : Exit.then _ _ = QY
              have c0 := Below.refl U.drew.heap.size U.drew
              have KF : ∀ V : World, Below U.drew.heap.size U.drew V → QY .normal { tmps := #[.slice (some ⟨b, o, none⟩) L.length c, undef, u2, .int .i64 (j : Int), .pointer (some ⟨G, 0, none⟩), .pointer (some ⟨g5, 0, none⟩), .bool false, .slice (some ⟨b, o, none⟩) L.length c, .int .i64 (L.length : Int), .int .i64 (j : Int), .bool true, .int .i64 (j : Int), .pointer (some ⟨b, o + j * 2, none⟩), .agg #[.string yi, .int .i64 ys], .tuple #[.agg #[.string xi, .int .i64 xs], .bool false], .slice (some ⟨b, o, none⟩) L.length c, .int .i64 (j : Int), .slice (some ⟨b, o, none⟩) j c, .pointer (some ⟨G, 0, none⟩), .string yi, .tuple #[.agg #[.string xi, .int .i64 xs], .bool false], .agg #[.string xi, .int .i64 xs], .bool false, .bool false, .bool false, .int .i64 (j : Int), .bool true, .bool true, .slice (some ⟨b, o, none⟩) L.length c, .int .i64 (j : Int), .int .i64 ((i : Nat) : Int), .pointer (some ⟨b, o + i * 2, none⟩), .agg x.cells.toArray, .agg #[.string yi, .int .i64 ys], .bool false, .bool true, .bool true, .bool true, u38], defers := [] } V := by
                intro V hV
                rw [← hQ]
                clear hQ
                simp only [Exit.then]
                have B9 := Lib.hid (thenBelow B8.out (from_drewG hV))
                clear hV c0
                clear hi
                have hf : R = false := by
                  rw [← HR.out, Bool.eq_false_iff]
                  intro e
                  have hi := HJ.out
                  subst hi
                  have h1 := (goodB_true.1 e).adj i hjl
                  rw [EY.out, EX.out, HB.out] at h1
                  cases h1
                subst hf
                go_wp2
                go_ret
                exact ⟨rfl, B9.out⟩
              refine rg_last (by kernel_rfl) rfl (S := fun V => Below U.drew.heap.size U.drew V) ?_
              refine rgd_pure 0 (some 23) rfl rfl (.bool false) (by kernel_rfl) (by kernel_rfl) (by kernel_rfl) (fun _ _ _ _ h => h) (by kernel_rfl) (fun w => by kernel_rfl) c0 ?_
              refine rgd_pure 1 (some 24) rfl rfl (.bool false) (by kernel_rfl) (by kernel_rfl) (by kernel_rfl) (fun _ _ _ _ h => h) (by kernel_rfl) (fun w => by kernel_rfl) c0 ?_
              refine rgd_pure 2 (some 25) rfl rfl (.int .i64 (j : Int)) (by kernel_rfl) (by kernel_rfl) (by kernel_rfl) (fun _ _ _ _ h => h) (by kernel_rfl) (fun w => by kernel_rfl) c0 ?_
              refine rgd_pure 3 (some 26) rfl rfl (.bool true) (by kernel_rfl) (by kernel_rfl) (by kernel_rfl) (fun _ _ _ _ h => h) (by kernel_rfl) (fun w => exec_gtrI _ _ _ _ rfl (j : Int) 0 _ (decide_eq_true (by omega)) (by kernel_rfl) (by kernel_rfl) w) c0 ?_
              refine rgd_pure 4 (some 27) rfl rfl (.bool true) (by kernel_rfl) (by kernel_rfl) (by kernel_rfl) (fun _ _ _ _ h => h) (by kernel_rfl) (fun w => by kernel_rfl) c0 ?_
              refine rgd_pure 5 (some 28) rfl rfl (.slice (some ⟨b, o, none⟩) L.length c) (by kernel_rfl) (by kernel_rfl) (by kernel_rfl) (fun _ _ _ _ h => h) (by kernel_rfl) (fun w => by kernel_rfl) c0 ?_
              refine rgd_pure 6 (some 29) rfl rfl (.int .i64 (j : Int)) (by kernel_rfl) (by kernel_rfl) (by kernel_rfl) (fun _ _ _ _ h => h) (by kernel_rfl) (fun w => by kernel_rfl) c0 ?_
              refine rgd_pure 7 (some 30) rfl rfl (.int .i64 ((i : Nat) : Int)) (by kernel_rfl) (by kernel_rfl) (by kernel_rfl) (fun _ _ _ _ h => h) (by kernel_rfl) (fun w => exec_subI _ _ _ _ rfl (j : Int) 1 ((i : Nat) : Int) (by rw [IntKind.wrap_i64] <;> omega) (by kernel_rfl) (by kernel_rfl) w) c0 ?_
              refine rgd_pure 8 (some 31) rfl rfl (.pointer (some ⟨b, o + i * 2, none⟩)) (by kernel_rfl) (by kernel_rfl) (by kernel_rfl) (fun _ _ _ _ h => h) (by kernel_rfl) (exec_idxH _ _ rfl b o L.length c i (by kernel_rfl) (by kernel_rfl) (by omega)) c0 ?_
              refine rgd_pureS 9 (some 32) rfl rfl (.agg x.cells.toArray) (by kernel_rfl) (by kernel_rfl) (by kernel_rfl) (fun _ _ _ _ h => h) (by kernel_rfl) (fun U hU => exec_gload 28 _ rfl b (o + i * 2) (by kernel_rfl) _ (range_below X8.out (from_drewG hU)) Tryd.underlying28 rfl (sizeHt x)) c0 ?_
              refine rgd_pureS 10 (some 33) rfl rfl (.agg #[.string yi, .int .i64 ys]) (by kernel_rfl) (by kernel_rfl) (by kernel_rfl) (fun _ _ _ _ h => h) (by kernel_rfl) (fun U hU => exec_gload 28 _ rfl G 0 (by kernel_rfl) _ (range_below R8.out (from_drewG hU)) Tryd.underlying28 rfl (sizeHt ⟨yi, ys⟩)) c0 ?_
              refine rgd_call 11 (some 34) (by kernel_rfl) rfl rfl (by kernel_rfl) 27 (#[.agg x.cells.toArray, .agg #[.string yi, .int .i64 ys]]) (by kernel_rfl) (LS.out _) ?_
              rintro _ U2 ⟨rfl, c1⟩
              refine ⟨_, rfl, c1, ?_⟩
              refine rgd_pure 12 (some 35) rfl rfl (.bool true) (by kernel_rfl) (by kernel_rfl) (by kernel_rfl) (fun _ _ _ _ h => h) (by kernel_rfl) (fun w => by kernel_rfl) c1 ?_
              refine rgd_pure 13 (some 36) rfl rfl (.bool true) (by kernel_rfl) (by kernel_rfl) (by kernel_rfl) (fun _ _ _ _ h => h) (by kernel_rfl) (fun w => by kernel_rfl) c1 ?_
              refine rgd_pure 14 (some 37) rfl rfl (.bool true) (by kernel_rfl) (by kernel_rfl) (by kernel_rfl) (fun _ _ _ _ h => h) (by kernel_rfl) (fun w => by kernel_rfl) c1 ?_
              exact wpAnyH_done (by kernel_rfl) (Eq.mp (by kernel_rfl) (KF _ c1)) _
      have b0 := Below.refl w7.drew.heap.size w7.drew
      have m0 : w7.drew.cell? ⟨G, 0, none⟩ = some (.string yi) := by have := R7.out 0 _ rfl; simpa using this
      refine rg_last (by kernel_rfl) rfl (S := fun U => Below w7.drew.heap.size w7.drew U) ?_
      refine rgd_pure 0 (some 15) rfl rfl (.slice (some ⟨b, o, none⟩) L.length c) (by kernel_rfl) (by kernel_rfl) (by kernel_rfl) (fun _ _ _ _ h => h) (by kernel_rfl) (fun w => by kernel_rfl) b0 ?_
      refine rgd_pure 1 (some 16) rfl rfl (.int .i64 (j : Int)) (by kernel_rfl) (by kernel_rfl) (by kernel_rfl) (fun _ _ _ _ h => h) (by kernel_rfl) (fun w => by kernel_rfl) b0 ?_
      refine rgd_pure 2 (some 17) rfl rfl (.slice (some ⟨b, o, none⟩) j c) (by kernel_rfl) (by kernel_rfl) (by kernel_rfl) (fun _ _ _ _ h => h) (by kernel_rfl) (exec_cutH _ _ rfl b o L.length c j (by kernel_rfl) (by kernel_rfl) (by omega)) b0 ?_
      refine rgd_pure 3 (some 18) rfl rfl (.pointer (some ⟨G, 0, none⟩)) (by kernel_rfl) (by kernel_rfl) (by kernel_rfl) (fun _ _ _ _ h => h) (by kernel_rfl) (fun w => by kernel_rfl) b0 ?_
      refine rgd_pureS 4 (some 19) rfl rfl (.string yi) (by kernel_rfl) (by kernel_rfl) (by kernel_rfl) (fun _ _ _ _ h => h) (by kernel_rfl) (fun U hU => exec_load1 _ _ rfl Tryd.underlying9 rfl ⟨G, 0, none⟩ _ (by kernel_rfl) (cell_hold2 m0 hU)) b0 ?_
      refine rgd_two2 5 9 (some 20) (some 5) (by kernel_rfl) rfl rfl (by kernel_rfl) 24 #[.slice (some ⟨b, o, none⟩) j c, .string yi] (by kernel_rfl) (FI.out _ (thenBelow B7.out (from_drewG b0))) rfl rfl (by kernel_rfl) (.pointer (some ⟨w7.drew.heap.size, 0, none⟩)) (w7.drew.alloc (.cells #[.string ByteArray.empty, .int .i64 0] 28)) (exec_allocH rfl _) (below_alloc _ _) ?_ ?_
      · rintro e U1 ⟨xi, xs, rfl, -, b1⟩
        rw [hth]
        refine ⟨_, rfl, b1, ?_⟩
        refine rgd_pure 6 (some 14) rfl rfl (.tuple #[.agg #[.string xi, .int .i64 xs], .bool th]) (by kernel_rfl) (by kernel_rfl) (by kernel_rfl) (fun _ _ _ _ h => h) (by kernel_rfl) (fun w => by kernel_rfl) b1 ?_
        refine rgd_pure 7 (some 21) rfl rfl (.agg #[.string xi, .int .i64 xs]) (by kernel_rfl) (by kernel_rfl) (by kernel_rfl) (fun _ _ _ _ h => h) (by kernel_rfl) (fun w => by kernel_rfl) b1 ?_
        refine rgd_pure 8 (some 22) rfl rfl (.bool th) (by kernel_rfl) (by kernel_rfl) (by kernel_rfl) (fun _ _ _ _ h => h) (by kernel_rfl) (fun w => by kernel_rfl) b1 ?_
        refine rgd_run 9 (some 5) (by kernel_rfl) rfl rfl (by kernel_rfl) (.pointer (some ⟨U1.heap.size, 0, none⟩)) (U1.alloc (.cells #[.string ByteArray.empty, .int .i64 0] 28)) (exec_allocH rfl _) (thenBelow b1 (below_alloc _ _)) ?_
        refine rgd_do 10 none (by kernel_rfl) rfl rfl (by kernel_rfl) ((U1.alloc (.cells #[.string ByteArray.empty, .int .i64 0] 28)).setCells U1.heap.size 0 [.string xi, .int .i64 xs]) (exec_storeRowG _ _ _ rfl U1.heap.size 0 #[.string xi, .int .i64 xs] (by kernel_rfl) (by kernel_rfl) (there_two (heap_alloc_new _ _)) (sizeHt ⟨xi, xs⟩) (one2 xi xs)) (stored_new (thenBelow b1 (below_alloc _ _)) b1.size) ?_
        refine rgd_pure 11 (some 6) rfl rfl (.bool th) (by kernel_rfl) (by kernel_rfl) (by kernel_rfl) (fun _ _ _ _ h => h) (by kernel_rfl) (fun w => by kernel_rfl) (stored_new (thenBelow b1 (below_alloc _ _)) b1.size) ?_
        exact wpAnyH_done (by kernel_rfl) (Eq.mp (by kernel_rfl) (KE U1.heap.size xi xs ((U1.alloc (.cells #[.string ByteArray.empty, .int .i64 0] 28)).setCells U1.heap.size 0 [.string xi, .int .i64 xs]) (stored_new (thenBelow b1 (below_alloc _ _)) b1.size))) _
      · have b1 := b0
        have hB := heap_alloc_new w7.drew (.cells #[.string ByteArray.empty, .int .i64 0] 28)
        have bB := below_alloc w7.drew (.cells #[.string ByteArray.empty, .int .i64 0] 28)
        refine rgd_call 5 (some 20) (by kernel_rfl) rfl rfl (by kernel_rfl) 24 #[.slice (some ⟨b, o, none⟩) j c, .string yi] (by kernel_rfl) (FI.out _ (thenBelow B7.out (from_drewG bB))) ?_
        rintro e U1 ⟨xi, xs, rfl, -, b1⟩
        rw [hth]
        have b2 := thenBelow bB b1
        refine ⟨_, rfl, b2, ?_⟩
        refine rgd_pure 6 (some 14) rfl rfl (.tuple #[.agg #[.string xi, .int .i64 xs], .bool th]) (by kernel_rfl) (by kernel_rfl) (by kernel_rfl) (fun _ _ _ _ h => h) (by kernel_rfl) (fun w => by kernel_rfl) b2 ?_
        refine rgd_pure 7 (some 21) rfl rfl (.agg #[.string xi, .int .i64 xs]) (by kernel_rfl) (by kernel_rfl) (by kernel_rfl) (fun _ _ _ _ h => h) (by kernel_rfl) (fun w => by kernel_rfl) b2 ?_
        refine rgd_pure 8 (some 22) rfl rfl (.bool th) (by kernel_rfl) (by kernel_rfl) (by kernel_rfl) (fun _ _ _ _ h => h) (by kernel_rfl) (fun w => by kernel_rfl) b2 ?_
        have hB2 := (b1.block _ (Array.getElem?_eq_some_iff.1 hB).1).trans hB
        refine rgd_do 10 none (by kernel_rfl) rfl rfl (by kernel_rfl) (U1.setCells w7.drew.heap.size 0 [.string xi, .int .i64 xs]) (exec_storeRowG _ _ _ rfl w7.drew.heap.size 0 #[.string xi, .int .i64 xs] (by kernel_rfl) (by kernel_rfl) (there_two hB2) (sizeHt ⟨xi, xs⟩) (one2 xi xs)) (stored_new b2 (Nat.le_refl _)) ?_
        refine rgd_pure 11 (some 6) rfl rfl (.bool th) (by kernel_rfl) (by kernel_rfl) (by kernel_rfl) (fun _ _ _ _ h => h) (by kernel_rfl) (fun w => by kernel_rfl) (stored_new b2 (Nat.le_refl _)) ?_
        exact wpAnyH_done (by kernel_rfl) (Eq.mp (by kernel_rfl) (KE w7.drew.heap.size xi xs (U1.setCells w7.drew.heap.size 0 [.string xi, .int .i64 xs]) (stored_new b2 (Nat.le_refl _)))) _
    · obtain rfl : j = L.length := by omega
      have hjl' : ¬ ((L.length : Nat) : Int) < L.length := by omega
      have hf : R = true := by
        rw [← HR.out]
        exact goodB_true.2 ⟨fun k h => HA.out k h (by omega), ids_nodup.2 fun k h => HI.out k h h⟩
      subst hf
      go_wp2
      go_ret
      exact ⟨rfl, BB.out⟩
end Go.Proofs.YtnjopndkommjnaaDoor
