/- standing.Good: may hits be an answer? -/
import Derived.Test.YtnjopndkommjnaaDoorStdNamed
import Derived.Test.YtnjopndkommjnaaDoorStdLess
namespace Go.Proofs.YtnjopndkommjnaaDoor
open Go Go.RowKit
set_option linter.unusedVariables false
set_option maxRecDepth 1000000

noncomputable def goodB (L : List Ht) : Bool := @decide (GoodH L) (Classical.propDecidable _)
theorem goodB_true {L : List Ht} : goodB L = true ↔ GoodH L := by unfold goodB; simp
theorem goodB_of {L : List Ht} {b : Bool} (h : b = true ↔ GoodH L) : goodB L = b := by
  cases b with
  | true => exact goodB_true.2 (h.1 rfl)
  | false =>
    rw [Bool.eq_false_iff]
    intro e
    have := h.2 (goodB_true.1 e)
    cases this
theorem NmT.count {w : World} {r c : Nat} {es : List (ByteArray × Value × Nat)} {L : List Ht} (h : NmT w r c es (scoresOf L)) : es.length = L.length ↔ (L.map Ht.id).Nodup := by
  have := keys_count (es.map (·.1)) (L.map Ht.id) h.ids (fun a => by
    rw [h.keys a, Ne, scoresOf_nil]
    constructor
    · intro q
      refine Classical.byContradiction fun q2 => q fun x hx e => q2 (List.mem_map.2 ⟨x, hx, e⟩)
    · intro q q2
      obtain ⟨x, hx, e⟩ := List.mem_map.1 q
      exact q2 x hx e)
  simpa using this
theorem exec_gtrI {P : Program} {o : Oper} {a : Act} (t yt : TypeId) (x y : Operand) (ho : o.op = .binOp .gtr t x y yt) (X Y : Int) (b : Bool) (hb : decide (Y < X) = b) (hx : a.eval x = .int .i64 X) (hy : a.eval y = .int .i64 Y) (w : World) :
    (execOp a.eval o).run P w = .ok (.value (.bool b)) w := by
  subst hb
  unfold execOp
  simp only [ho, hx, hy]
  rfl
theorem len_map {w : World} {r c : Nat} {es : List (ByteArray × Value × Nat)} (hb : w.heap[r]? = some (.map (sents es).toArray c)) : (Builtin.len_ #[43] 3 #[.map (some r)]).run Tryd.prog w = .ok (.int .i64 (es.length : Int)) w := by
  have hg := MapKept.run_getObj_map (P := Tryd.prog) hb
  unfold Builtin.len_
  simp only [Sem.run_bind, run_underlying Tryd.underlying43, Result.andThen_ok, hg, List.getElem?_toArray, List.getElem?_cons_zero]
  simp [sents]
  rfl
theorem from_drewG {w w' : World} (h : Below w.drew.heap.size w.drew w') : Below w.heap.size w w' := ⟨h.os, h.tape, h.output, h.size, h.block⟩
set_option maxHeartbeats 4000000 in
theorem good_is (p : Option Addr) (c : Nat) (L : List Ht) (w : World) (h : HtsAt w p L) (hn : L.length ≤ 10000) :
    Calls Tryd.prog 12 #[.slice p L.length c] w (RetBool w (goodB L)) := by
  have HM := Lib.hid h
  clear h
  obtain ⟨R, hR⟩ : ∃ R, goodB L = R := ⟨_, rfl⟩
  rw [hR]
  have HR := Lib.hid hR
  clear hR
  go_enter Tryd.func12, Tryd.ntmps12
  go_wp2_with fail
  go_loopw [6] (fun i wr => ∃ j : Nat, j ≤ L.length ∧ i = .int .i64 j ∧ Hid (∀ k (h : k + 1 < L.length), k + 1 < j → ltH (L[k]'(by omega)) L[k + 1] = true) ∧ Hid (Below w.heap.size w wr)) (fun i _ => L.length - (intOf i).toNat)
  case atStart => exact ⟨0, Nat.zero_le _, rfl, Lib.hid (fun k h h2 => by omega), Lib.hid (Below.refl _ _)⟩
  case round =>
    obtain ⟨j, hj, rfl, HA, BB⟩ := hrel
    by_cases hjl : j < L.length
    · have hjl' : (j : Int) < L.length := by omega
      obtain ⟨b, o, rfl, hlt, hr⟩ := (HM.out.below BB.out).at hjl
      obtain ⟨x, hx⟩ : ∃ x, L[j] = x := ⟨_, rfl⟩
      rw [hx] at hr
      have X1 := Lib.hid hr
      have EX := Lib.hid hx
      clear hr hx
      by_cases h0 : j = 0
      · have h0' : ¬ ((0 : Int) < (j : Int)) := by omega
        go_wp2_with fail
        generalize hQ : Exit.then _ _ = QX
        have b0 := Below.refl wr.drew.heap.size wr.drew
        have KE : ∀ U : World, Below wr.drew.heap.size wr.drew U → QX .normal { tmps := #[.slice (some ⟨b, o, none⟩) L.length c, undef, u2, .int .i64 0, .slice (some ⟨b, o, none⟩) L.length c, .int .i64 (L.length : Int), .int .i64 0, .bool true, .int .i64 0, .int .i64 0, .bool false, .bool false, undef, undef, undef, undef, undef, undef, undef, undef, undef, undef, undef, .bool false, u24, undef, undef, undef, undef, undef, undef], defers := [] } U := by
          intro U hU
          rw [← hQ]
          clear hQ
          simp only [Exit.then]
          have B8 := Lib.hid (thenBelow BB.out (from_drewG hU))
          clear hU b0
          go_wp2
          go_roundw
          case rel => exact ⟨1, by omega, rfl, Lib.hid (fun k h h2 => by omega), B8⟩
          case measure => simp [intOf]; omega
        refine rg_last (by kernel_rfl) rfl (S := fun U => Below wr.drew.heap.size wr.drew U) ?_
        refine rgd_pure 0 (some 9) rfl rfl (.int .i64 0) (by kernel_rfl) (by kernel_rfl) (by kernel_rfl) (fun _ _ _ _ h => h) (by kernel_rfl) (fun w => by kernel_rfl) b0 ?_
        refine rgd_pure 1 (some 10) rfl rfl (.bool false) (by kernel_rfl) (by kernel_rfl) (by kernel_rfl) (fun _ _ _ _ h => h) (by kernel_rfl) (fun w => exec_gtrI _ _ _ _ rfl 0 0 _ (by decide) (by kernel_rfl) (by kernel_rfl) w) b0 ?_
        refine rgd_pure 2 (some 11) rfl rfl (.bool false) (by kernel_rfl) (by kernel_rfl) (by kernel_rfl) (fun _ _ _ _ h => h) (by kernel_rfl) (fun w => by kernel_rfl) b0 ?_
        refine rgd_skip 3 (some 12) rfl rfl (by kernel_rfl) (by kernel_rfl) (by kernel_rfl) (fun _ _ _ _ h => h) (by kernel_rfl) b0 ?_
        refine rgd_skip 4 (some 13) rfl rfl (by kernel_rfl) (by kernel_rfl) (by kernel_rfl) (fun _ _ _ _ h => h) (by kernel_rfl) b0 ?_
        refine rgd_skip 5 (some 14) rfl rfl (by kernel_rfl) (by kernel_rfl) (by kernel_rfl) (fun _ _ _ _ h => h) (by kernel_rfl) b0 ?_
        refine rgd_skip 6 (some 15) rfl rfl (by kernel_rfl) (by kernel_rfl) (by kernel_rfl) (fun _ _ _ _ h => h) (by kernel_rfl) b0 ?_
        refine rgd_skip 7 (some 16) rfl rfl (by kernel_rfl) (by kernel_rfl) (by kernel_rfl) (fun _ _ _ _ h => h) (by kernel_rfl) b0 ?_
        refine rgd_skip 8 (some 17) rfl rfl (by kernel_rfl) (by kernel_rfl) (by kernel_rfl) (fun _ _ _ _ h => h) (by kernel_rfl) b0 ?_
        refine rgd_skip 9 (some 18) rfl rfl (by kernel_rfl) (by kernel_rfl) (by kernel_rfl) (fun _ _ _ _ h => h) (by kernel_rfl) b0 ?_
        refine rgd_skip 10 (some 19) rfl rfl (by kernel_rfl) (by kernel_rfl) (by kernel_rfl) (fun _ _ _ _ h => h) (by kernel_rfl) b0 ?_
        refine rgd_skip 11 (some 20) rfl rfl (by kernel_rfl) (by kernel_rfl) (by kernel_rfl) (fun _ _ _ _ h => h) (by kernel_rfl) b0 ?_
        refine rgd_skip 12 (some 21) rfl rfl (by kernel_rfl) (by kernel_rfl) (by kernel_rfl) (fun _ _ _ _ h => h) (by kernel_rfl) b0 ?_
        refine rgd_skip 13 (some 22) rfl rfl (by kernel_rfl) (by kernel_rfl) (by kernel_rfl) (fun _ _ _ _ h => h) (by kernel_rfl) b0 ?_
        refine rgd_pure 14 (some 23) rfl rfl (.bool false) (by kernel_rfl) (by kernel_rfl) (by kernel_rfl) (fun _ _ _ _ h => h) (by kernel_rfl) (fun w => by kernel_rfl) b0 ?_
        exact wpAnyH_done (by kernel_rfl) (Eq.mp (by kernel_rfl) (KE _ b0)) _
      · have h0' : (0 : Int) < (j : Int) := by omega
        obtain ⟨i, hi⟩ : ∃ i, i + 1 = j := ⟨j - 1, by omega⟩
        have HI := Lib.hid hi
        have hil : i < L.length := by omega
        obtain ⟨b', o', hp, hlt2, hr2⟩ := (HM.out.below BB.out).at hil
        cases hp
        obtain ⟨y, hy⟩ : ∃ y, L[i]'hil = y := ⟨_, rfl⟩
        rw [hy] at hr2
        have Y1 := Lib.hid hr2
        have EY := Lib.hid hy
        clear hr2 hy
        obtain ⟨bz, hbz⟩ : ∃ q, ltH y x = q := ⟨_, rfl⟩
        have LS := Lib.hid (less_is y x)
        rw [hbz] at LS
        have HB := Lib.hid hbz
        clear hbz hi
        go_wp2_with fail
        cases bz with
        | true =>
          have hi := HI.out
          generalize hQ : Exit.then _ _ = QX
          have b0 := Below.refl wr.drew.heap.size wr.drew
          have KE : ∀ U : World, Below wr.drew.heap.size wr.drew U → QX .normal { tmps := #[.slice (some ⟨b, o, none⟩) L.length c, undef, u2, .int .i64 (j : Int), .slice (some ⟨b, o, none⟩) L.length c, .int .i64 (L.length : Int), .int .i64 (j : Int), .bool true, .int .i64 (j : Int), .int .i64 (j : Int), .bool true, .bool true, .slice (some ⟨b, o, none⟩) L.length c, .int .i64 (j : Int), .int .i64 ((i : Nat) : Int), .pointer (some ⟨b, o + i * 2, none⟩), .agg y.cells.toArray, .slice (some ⟨b, o, none⟩) L.length c, .int .i64 (j : Int), .pointer (some ⟨b, o + j * 2, none⟩), .agg x.cells.toArray, .bool true, .bool false, .bool false, u24, undef, undef, undef, undef, undef, undef], defers := [] } U := by
            intro U hU
            rw [← hQ]
            clear hQ
            simp only [Exit.then]
            have B8 := Lib.hid (thenBelow BB.out (from_drewG hU))
            clear hU b0 LS hi
            go_wp2
            go_roundw
            case rel => exact ⟨j + 1, by omega, by go_num, Lib.hid (fun k h h2 => by
              rcases Nat.lt_or_ge k i with h3 | h3
              · exact HA.out k h (by have := HI.out; omega)
              · obtain rfl : k = i := by have := HI.out; omega
                have hj := HI.out
                subst hj
                rw [EY.out, EX.out]; exact HB.out), B8⟩
            case measure => simp [intOf]; omega
          refine rg_last (by kernel_rfl) rfl (S := fun U => Below wr.drew.heap.size wr.drew U) ?_
          refine rgd_pure 0 (some 9) rfl rfl (.int .i64 (j : Int)) (by kernel_rfl) (by kernel_rfl) (by kernel_rfl) (fun _ _ _ _ h => h) (by kernel_rfl) (fun w => by kernel_rfl) b0 ?_
          refine rgd_pure 1 (some 10) rfl rfl (.bool true) (by kernel_rfl) (by kernel_rfl) (by kernel_rfl) (fun _ _ _ _ h => h) (by kernel_rfl) (fun w => exec_gtrI _ _ _ _ rfl (j : Int) 0 _ (decide_eq_true (by omega)) (by kernel_rfl) (by kernel_rfl) w) b0 ?_
          refine rgd_pure 2 (some 11) rfl rfl (.bool true) (by kernel_rfl) (by kernel_rfl) (by kernel_rfl) (fun _ _ _ _ h => h) (by kernel_rfl) (fun w => by kernel_rfl) b0 ?_
          refine rgd_pure 3 (some 12) rfl rfl (.slice (some ⟨b, o, none⟩) L.length c) (by kernel_rfl) (by kernel_rfl) (by kernel_rfl) (fun _ _ _ _ h => h) (by kernel_rfl) (fun w => by kernel_rfl) b0 ?_
          refine rgd_pure 4 (some 13) rfl rfl (.int .i64 (j : Int)) (by kernel_rfl) (by kernel_rfl) (by kernel_rfl) (fun _ _ _ _ h => h) (by kernel_rfl) (fun w => by kernel_rfl) b0 ?_
          refine rgd_pure 5 (some 14) rfl rfl (.int .i64 ((i : Nat) : Int)) (by kernel_rfl) (by kernel_rfl) (by kernel_rfl) (fun _ _ _ _ h => h) (by kernel_rfl) (fun w => exec_subI _ _ _ _ rfl (j : Int) 1 ((i : Nat) : Int) (by rw [IntKind.wrap_i64] <;> omega) (by kernel_rfl) (by kernel_rfl) w) b0 ?_
          refine rgd_pure 6 (some 15) rfl rfl (.pointer (some ⟨b, o + i * 2, none⟩)) (by kernel_rfl) (by kernel_rfl) (by kernel_rfl) (fun _ _ _ _ h => h) (by kernel_rfl) (exec_idxH _ _ rfl b o L.length c i (by kernel_rfl) (by kernel_rfl) (by omega)) b0 ?_
          refine rgd_pureS 7 (some 16) rfl rfl (.agg y.cells.toArray) (by kernel_rfl) (by kernel_rfl) (by kernel_rfl) (fun _ _ _ _ h => h) (by kernel_rfl) (fun U hU => exec_gload 28 _ rfl b (o + i * 2) (by kernel_rfl) _ (range_below Y1.out (from_drewG hU)) Tryd.underlying28 rfl (sizeHt y)) b0 ?_
          refine rgd_pure 8 (some 17) rfl rfl (.slice (some ⟨b, o, none⟩) L.length c) (by kernel_rfl) (by kernel_rfl) (by kernel_rfl) (fun _ _ _ _ h => h) (by kernel_rfl) (fun w => by kernel_rfl) b0 ?_
          refine rgd_pure 9 (some 18) rfl rfl (.int .i64 (j : Int)) (by kernel_rfl) (by kernel_rfl) (by kernel_rfl) (fun _ _ _ _ h => h) (by kernel_rfl) (fun w => by kernel_rfl) b0 ?_
          refine rgd_pure 10 (some 19) rfl rfl (.pointer (some ⟨b, o + j * 2, none⟩)) (by kernel_rfl) (by kernel_rfl) (by kernel_rfl) (fun _ _ _ _ h => h) (by kernel_rfl) (exec_idxH _ _ rfl b o L.length c j (by kernel_rfl) (by kernel_rfl) (by omega)) b0 ?_
          refine rgd_pureS 11 (some 20) rfl rfl (.agg x.cells.toArray) (by kernel_rfl) (by kernel_rfl) (by kernel_rfl) (fun _ _ _ _ h => h) (by kernel_rfl) (fun U hU => exec_gload 28 _ rfl b (o + j * 2) (by kernel_rfl) _ (range_below X1.out (from_drewG hU)) Tryd.underlying28 rfl (sizeHt x)) b0 ?_
          refine rgd_call 12 (some 21) (by kernel_rfl) rfl rfl (by kernel_rfl) 26 (#[.agg y.cells.toArray, .agg x.cells.toArray]) (by kernel_rfl) (LS.out _) ?_
          rintro _ U1 ⟨rfl, b1⟩
          refine ⟨_, rfl, b1, ?_⟩
          refine rgd_pure 13 (some 22) rfl rfl (.bool false) (by kernel_rfl) (by kernel_rfl) (by kernel_rfl) (fun _ _ _ _ h => h) (by kernel_rfl) (fun w => by kernel_rfl) b1 ?_
          refine rgd_pure 14 (some 23) rfl rfl (.bool false) (by kernel_rfl) (by kernel_rfl) (by kernel_rfl) (fun _ _ _ _ h => h) (by kernel_rfl) (fun w => by kernel_rfl) b1 ?_
          exact wpAnyH_done (by kernel_rfl) (Eq.mp (by kernel_rfl) (KE _ b1)) _
        | false =>
          have hi := HI.out
          generalize hQ : Exit.then _ _ = QX
          have b0 := Below.refl wr.drew.heap.size wr.drew
          have KE : ∀ U : World, Below wr.drew.heap.size wr.drew U → QX .normal { tmps := #[.slice (some ⟨b, o, none⟩) L.length c, undef, u2, .int .i64 (j : Int), .slice (some ⟨b, o, none⟩) L.length c, .int .i64 (L.length : Int), .int .i64 (j : Int), .bool true, .int .i64 (j : Int), .int .i64 (j : Int), .bool true, .bool true, .slice (some ⟨b, o, none⟩) L.length c, .int .i64 (j : Int), .int .i64 ((i : Nat) : Int), .pointer (some ⟨b, o + i * 2, none⟩), .agg y.cells.toArray, .slice (some ⟨b, o, none⟩) L.length c, .int .i64 (j : Int), .pointer (some ⟨b, o + j * 2, none⟩), .agg x.cells.toArray, .bool false, .bool true, .bool true, u24, undef, undef, undef, undef, undef, undef], defers := [] } U := by
            intro U hU
            rw [← hQ]
            clear hQ
            simp only [Exit.then]
            have B8 := Lib.hid (thenBelow BB.out (from_drewG hU))
            clear hU b0 LS hi
            have hf : R = false := by
              rw [← HR.out, Bool.eq_false_iff]
              intro e
              have hj := HI.out
              subst hj
              have h1 := (goodB_true.1 e).adj i hjl
              rw [EY.out, EX.out, HB.out] at h1
              cases h1
            subst hf
            go_wp2
            go_ret
            exact ⟨rfl, B8.out⟩
          refine rg_last (by kernel_rfl) rfl (S := fun U => Below wr.drew.heap.size wr.drew U) ?_
          refine rgd_pure 0 (some 9) rfl rfl (.int .i64 (j : Int)) (by kernel_rfl) (by kernel_rfl) (by kernel_rfl) (fun _ _ _ _ h => h) (by kernel_rfl) (fun w => by kernel_rfl) b0 ?_
          refine rgd_pure 1 (some 10) rfl rfl (.bool true) (by kernel_rfl) (by kernel_rfl) (by kernel_rfl) (fun _ _ _ _ h => h) (by kernel_rfl) (fun w => exec_gtrI _ _ _ _ rfl (j : Int) 0 _ (decide_eq_true (by omega)) (by kernel_rfl) (by kernel_rfl) w) b0 ?_
          refine rgd_pure 2 (some 11) rfl rfl (.bool true) (by kernel_rfl) (by kernel_rfl) (by kernel_rfl) (fun _ _ _ _ h => h) (by kernel_rfl) (fun w => by kernel_rfl) b0 ?_
          refine rgd_pure 3 (some 12) rfl rfl (.slice (some ⟨b, o, none⟩) L.length c) (by kernel_rfl) (by kernel_rfl) (by kernel_rfl) (fun _ _ _ _ h => h) (by kernel_rfl) (fun w => by kernel_rfl) b0 ?_
          refine rgd_pure 4 (some 13) rfl rfl (.int .i64 (j : Int)) (by kernel_rfl) (by kernel_rfl) (by kernel_rfl) (fun _ _ _ _ h => h) (by kernel_rfl) (fun w => by kernel_rfl) b0 ?_
          refine rgd_pure 5 (some 14) rfl rfl (.int .i64 ((i : Nat) : Int)) (by kernel_rfl) (by kernel_rfl) (by kernel_rfl) (fun _ _ _ _ h => h) (by kernel_rfl) (fun w => exec_subI _ _ _ _ rfl (j : Int) 1 ((i : Nat) : Int) (by rw [IntKind.wrap_i64] <;> omega) (by kernel_rfl) (by kernel_rfl) w) b0 ?_
          refine rgd_pure 6 (some 15) rfl rfl (.pointer (some ⟨b, o + i * 2, none⟩)) (by kernel_rfl) (by kernel_rfl) (by kernel_rfl) (fun _ _ _ _ h => h) (by kernel_rfl) (exec_idxH _ _ rfl b o L.length c i (by kernel_rfl) (by kernel_rfl) (by omega)) b0 ?_
          refine rgd_pureS 7 (some 16) rfl rfl (.agg y.cells.toArray) (by kernel_rfl) (by kernel_rfl) (by kernel_rfl) (fun _ _ _ _ h => h) (by kernel_rfl) (fun U hU => exec_gload 28 _ rfl b (o + i * 2) (by kernel_rfl) _ (range_below Y1.out (from_drewG hU)) Tryd.underlying28 rfl (sizeHt y)) b0 ?_
          refine rgd_pure 8 (some 17) rfl rfl (.slice (some ⟨b, o, none⟩) L.length c) (by kernel_rfl) (by kernel_rfl) (by kernel_rfl) (fun _ _ _ _ h => h) (by kernel_rfl) (fun w => by kernel_rfl) b0 ?_
          refine rgd_pure 9 (some 18) rfl rfl (.int .i64 (j : Int)) (by kernel_rfl) (by kernel_rfl) (by kernel_rfl) (fun _ _ _ _ h => h) (by kernel_rfl) (fun w => by kernel_rfl) b0 ?_
          refine rgd_pure 10 (some 19) rfl rfl (.pointer (some ⟨b, o + j * 2, none⟩)) (by kernel_rfl) (by kernel_rfl) (by kernel_rfl) (fun _ _ _ _ h => h) (by kernel_rfl) (exec_idxH _ _ rfl b o L.length c j (by kernel_rfl) (by kernel_rfl) (by omega)) b0 ?_
          refine rgd_pureS 11 (some 20) rfl rfl (.agg x.cells.toArray) (by kernel_rfl) (by kernel_rfl) (by kernel_rfl) (fun _ _ _ _ h => h) (by kernel_rfl) (fun U hU => exec_gload 28 _ rfl b (o + j * 2) (by kernel_rfl) _ (range_below X1.out (from_drewG hU)) Tryd.underlying28 rfl (sizeHt x)) b0 ?_
          refine rgd_call 12 (some 21) (by kernel_rfl) rfl rfl (by kernel_rfl) 26 (#[.agg y.cells.toArray, .agg x.cells.toArray]) (by kernel_rfl) (LS.out _) ?_
          rintro _ U1 ⟨rfl, b1⟩
          refine ⟨_, rfl, b1, ?_⟩
          refine rgd_pure 13 (some 22) rfl rfl (.bool true) (by kernel_rfl) (by kernel_rfl) (by kernel_rfl) (fun _ _ _ _ h => h) (by kernel_rfl) (fun w => by kernel_rfl) b1 ?_
          refine rgd_pure 14 (some 23) rfl rfl (.bool true) (by kernel_rfl) (by kernel_rfl) (by kernel_rfl) (fun _ _ _ _ h => h) (by kernel_rfl) (fun w => by kernel_rfl) b1 ?_
          exact wpAnyH_done (by kernel_rfl) (Eq.mp (by kernel_rfl) (KE _ b1)) _
    · obtain rfl : j = L.length := by omega
      have hjl' : ¬ ((L.length : Nat) : Int) < L.length := by omega
      have NM := Lib.hid (named_is p c L wr (HM.out.below BB.out) hn)
      go_wp2_with fail
      refine NM.out.mono ?_
      rintro e w9 ⟨r, c9, es, rfl, n9, hr9, b9⟩
      have B9 := Lib.hid (thenBelow BB.out b9)
      have hb := n9.blk
      have RE : Hid (R = (((es.length : Int) == (L.length : Int)))) := Lib.hid <| by
        rw [← HR.out]
        refine goodB_of ?_
        rw [beq_iff_eq]
        constructor
        · intro e
          exact ⟨fun k h => HA.out k h (by omega), n9.count.1 (by omega)⟩
        · intro g
          have := n9.count.2 g.ids
          omega
      have lm : (Builtin.len_ #[43] 3 #[.map (some r)]).run Tryd.prog w9 = .ok (.int .i64 (es.length : Int)) w9 := len_map hb
      clear NM b9
      dsimp only
      go_wp2
      go_ret
      exact ⟨by rw [RE.out]; rfl, B9.out⟩
end Go.Proofs.YtnjopndkommjnaaDoor
