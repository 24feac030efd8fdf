/- The statement DocsReads, proved for every input that its row reads: part 47 of 54. -/
import Derived.Test.YtijmijokgenflaaGreatDoorPackDocsReads42
/- docs.Same of equal states. -/
namespace Go.Proofs.YtijmijokgenflaaGreatDoor
open Go Go.RowKit
set_option linter.unusedVariables false
set_option maxRecDepth 1000000

set_option maxHeartbeats 8000000 in
theorem equalWr_is (p q : Option Addr) (c d : Nat) (L : List Wr) (w : World) (h : WrsAt w p L) (h2 : WrsAt w q L) (hn : L.length ≤ 10000) :
    Calls Tryz.prog 9 #[.slice p L.length c, .slice q L.length d] w (Yes w) := by
  have HP := Lib.hid h; have HQ := Lib.hid h2
  clear h h2
  go_enter Tryz.func9, Tryz.ntmps9
  go_wp2
  go_loopw [13] (fun i wr => ∃ k : Nat, k ≤ L.length ∧ i = .int .i64 k ∧ Below w.heap.size w wr) (fun i _ => L.length - (RowKit.intOf i).toNat)
  case atStart => exact ⟨0, Nat.zero_le _, rfl, Below.refl _ _⟩
  case round =>
    obtain ⟨k, hk, rfl, hb⟩ := hrel
    have BB := Lib.hid hb
    clear hb
    by_cases hkl : k < L.length
    · have hkl' : (k : Int) < L.length := by omega
      obtain ⟨b, o, rfl, hlt, hq⟩ := (HP.out.below BB.out).at hkl
      obtain ⟨b2, o2, rfl, hlt2, hq2⟩ := (HQ.out.below BB.out).at hkl
      obtain ⟨y, hy⟩ : ∃ y, L[k] = y := ⟨_, rfl⟩
      rw [hy] at hq hq2
      clear hy
      have M := Lib.hid (And.intro (show wr.drew.rangeAt b (o + k * 6) y.cells from hq) (And.intro (show wr.drew.rangeAt b2 (o2 + k * 6) y.cells from hq2) (to_drew BB.out)))
      clear hq hq2
      go_wp2_with fail
      rename_i K2 hK2
      have m0 := M.out
      refine rg_calm (by kernel_rfl) rfl (S := fun U => U.rangeAt b (o + k * 6) y.cells ∧ U.rangeAt b2 (o2 + k * 6) y.cells ∧ Below w.heap.size w U) ?_
      refine rgd_pure 0 (some 16) rfl rfl (.slice (some ⟨b, o, none⟩) L.length c) (by kernel_rfl) (by kernel_rfl) (by kernel_rfl) (fun _ _ _ _ h => h) (by kernel_rfl) (fun w => by kernel_rfl) m0 ?_
      refine rgd_pure 1 (some 17) rfl rfl (.int .i64 (k : Int)) (by kernel_rfl) (by kernel_rfl) (by kernel_rfl) (fun _ _ _ _ h => h) (by kernel_rfl) (fun w => by kernel_rfl) m0 ?_
      refine rgd_pure 2 (some 18) rfl rfl (.pointer (some ⟨b, o + k * 6, none⟩)) (by kernel_rfl) (by kernel_rfl) (by kernel_rfl) (fun _ _ _ _ h => h) (by kernel_rfl) (exec_idxW _ _ rfl b o L.length c k (by kernel_rfl) (by kernel_rfl) hkl) m0 ?_
      refine rgd_pureS 3 (some 19) rfl rfl (.agg y.cells.toArray) (by kernel_rfl) (by kernel_rfl) (by kernel_rfl) (fun _ _ _ _ h => h) (by kernel_rfl) (fun U hU => exec_gload 39 _ rfl b (o + k * 6) (by kernel_rfl) _ hU.1 Tryz.underlying39 rfl (sizeWr y)) m0 ?_
      refine rgd_pure 4 (some 20) rfl rfl (.slice (some ⟨b2, o2, none⟩) L.length d) (by kernel_rfl) (by kernel_rfl) (by kernel_rfl) (fun _ _ _ _ h => h) (by kernel_rfl) (fun w => by kernel_rfl) m0 ?_
      refine rgd_pure 5 (some 21) rfl rfl (.int .i64 (k : Int)) (by kernel_rfl) (by kernel_rfl) (by kernel_rfl) (fun _ _ _ _ h => h) (by kernel_rfl) (fun w => by kernel_rfl) m0 ?_
      refine rgd_pure 6 (some 22) rfl rfl (.pointer (some ⟨b2, o2 + k * 6, none⟩)) (by kernel_rfl) (by kernel_rfl) (by kernel_rfl) (fun _ _ _ _ h => h) (by kernel_rfl) (exec_idxW _ _ rfl b2 o2 L.length d k (by kernel_rfl) (by kernel_rfl) hkl) m0 ?_
      refine rgd_pureS 7 (some 23) rfl rfl (.agg y.cells.toArray) (by kernel_rfl) (by kernel_rfl) (by kernel_rfl) (fun _ _ _ _ h => h) (by kernel_rfl) (fun U hU => exec_gload 39 _ rfl b2 (o2 + k * 6) (by kernel_rfl) _ hU.2.1 Tryz.underlying39 rfl (sizeWr y)) m0 ?_
      refine rgd_pure 8 (some 24) rfl rfl (.bool false) (by kernel_rfl) (by kernel_rfl) (by kernel_rfl) (fun _ _ _ _ h => h) (by kernel_rfl) (exec_neqW _ _ _ rfl y (by kernel_rfl) (by kernel_rfl)) m0 ?_
      have KE : K2 { tmps := #[.slice (some ⟨b, o, none⟩) L.length c, .slice (some ⟨b2, o2, none⟩) L.length d, undef, undef, u4, .int .i64 (k : Int), .slice (some ⟨b, o, none⟩) L.length c, .int .i64 (L.length : Int), .slice (some ⟨b2, o2, none⟩) L.length d, .int .i64 (L.length : Int), .bool false, .slice (some ⟨b, o, none⟩) L.length c, .int .i64 (L.length : Int), .int .i64 (k : Int), .bool true, .int .i64 (k : Int), .slice (some ⟨b, o, none⟩) L.length c, .int .i64 (k : Int), .pointer (some ⟨b, o + k * 6, none⟩), .agg y.cells.toArray, .slice (some ⟨b2, o2, none⟩) L.length d, .int .i64 (k : Int), .pointer (some ⟨b2, o2 + k * 6, none⟩), .agg y.cells.toArray, .bool false, u25], defers := [] } wr.drew := by
        refine hK2 _ _ ?_
        have B7 := Lib.hid m0.2.2
        clear hK2 m0
        go_wp2
        go_roundw
        case rel => exact ⟨k + 1, by omega, by go_num, B7.out⟩
        case measure => simp [RowKit.intOf]; omega
      exact wpAnyH_done (by kernel_rfl) (Eq.mp (by kernel_rfl) KE) _
    · obtain rfl : k = L.length := by omega
      have hkl' : ¬ ((L.length : Nat) : Int) < L.length := by omega
      go_wp2
      go_ret
      exact ⟨rfl, BB.out⟩
set_option maxHeartbeats 8000000 in
theorem docSame_is (F G : Nat → Int) (hFG : veq F G = true) (p q : Option Addr) (c d : Nat) (L : List Wr) (w : World) (h : WrsAt w p L) (h2 : WrsAt w q L) (hn : L.length ≤ 10000) :
    Calls Tryz.prog 22 #[.agg (scs F (.slice p L.length c)), .agg (scs G (.slice q L.length d))] w (Yes w) := by
  have HP := Lib.hid h; have HQ := Lib.hid h2
  clear h h2
  go_enter Tryz.func22, Tryz.ntmps22
  go_wp2_with (refine wpList_gbox rfl _ rfl (scs F (.slice p L.length c)) rfl ?_)
  intro g2 w1 l2 h2 hb1
  have S1 : Hid (Sx w1 g2 F (.slice p L.length c)) := Lib.hid h2
  have B1 := Lib.hid hb1
  clear h2 hb1
  go_wp2_with (refine wpList_gbox rfl _ rfl (scs G (.slice q L.length d)) rfl ?_)
  intro g3 w2 l3 h3 hb2
  have S2 := Lib.hid (S1.out.later hb2); have T2 : Hid (Sx w2 g3 G (.slice q L.length d)) := Lib.hid h3
  have B2 := Lib.hid (thenBelow B1.out hb2)
  clear h3 hb2 S1
  have k2 := S2.out.slot; have k3 := T2.out.slot
  have V2 := Lib.hid (S2.out.vec); have V3 := Lib.hid (T2.out.vec)
  have EQ : Hid (∀ V : World, (binOp .eql 23 (.agg (vf F)) (.agg (vf G))).run Tryz.prog V = .ok (.bool true) V) := Lib.hid fun V => by rw [vecI.eql F G V, hFG]
  have EW := Lib.hid (equalWr_is p q c d L w2 (HP.out.below B2.out) (HQ.out.below B2.out) hn)
  have EQ' := EQ.out
  go_wp2_with (first | refine wpList_gload rfl _ rfl g2 0 rfl _ V2.out _ Tryz.underlying23 rfl (sizeVcl F) ?_ | refine wpList_gload rfl _ rfl g3 0 rfl _ V3.out _ Tryz.underlying23 rfl (sizeVcl G) ?_)
  refine EW.out.mono ?_
  rintro e w3 ⟨rfl, hb3⟩
  have B3 := Lib.hid (thenBelow B2.out hb3)
  clear hb3 k2 k3 EQ'
  go_wp2
  go_ret
  exact ⟨rfl, B3.out⟩
end Go.Proofs.YtijmijokgenflaaGreatDoor
/- Two writes held against one another. -/
namespace Go.Proofs.YtijmijokgenflaaGreatDoor
open Go Go.RowKit
set_option linter.unusedVariables false
set_option maxRecDepth 1000000

theorem runEqDt9A (r n r' n' : Int) (w : World) : (Op.equalIn 9999 37 (.agg #[.int .i64 r, .int .i64 n]) (.agg #[.int .i64 r', .int .i64 n'])).run Tryz.prog w = .ok (r == r' && n == n') w := by
  have u3 := Tryz.underlying3
  have a3 := Tryz.isAgg3
  have z3 := Tryz.sizeOf3
  have hS : Tryz.prog.underlying 37 = some (.struct (Tryz.prog.fieldsOf 37)) := by kernel_rfl
  have hp : Tryz.prog.stoodInHeld 37 = false := by kernel_rfl
  rw [show (9999 : Nat) = 9998 + 1 from rfl, run_equalIn_agg w 9998 37 _ _ hS hp]
  simp only [Program.fieldsOf, Tryz.underlying37]
  go_simp
  by_cases h1 : r = r' <;> by_cases h2 : n = n' <;> simp [h1, h2]
/-- are two writes the same? -/
noncomputable def eqW (x y : Wr) : Bool := @decide (x = y) (Classical.propDecidable _)
theorem eqW_yes (x : Wr) : eqW x x = true := by unfold eqW; simp
theorem eqW_no {x y : Wr} (h : x ≠ y) : eqW x y = false := by unfold eqW; simp [h]
theorem eqW_iff {x y : Wr} : eqW x y = true ↔ x = y := by unfold eqW; simp
theorem neB2 (x y : ByteArray) (h : ¬ x = y) : ¬ x.toList = y.toList := fun e => h (ByteArray.ext (Array.toList_inj.1 (by rw [Lib.toList_data, Lib.toList_data] at e; exact e)))
theorem runEqWA (x y : Wr) (w : World) : (Op.equalIn 10000 39 (.agg x.cells.toArray) (.agg y.cells.toArray)).run Tryz.prog w = .ok (eqW x y) w := by
  have u3 := Tryz.underlying3
  have a3 := Tryz.isAgg3
  have z3 := Tryz.sizeOf3
  have u9 := Tryz.underlying9
  have a9 := Tryz.isAgg9
  have z9 := Tryz.sizeOf9
  have ud := Tryz.underlying37
  have ad := Tryz.isAgg37
  have zd := Tryz.sizeOf37
  have hS : Tryz.prog.underlying 39 = some (.struct (Tryz.prog.fieldsOf 39)) := by kernel_rfl
  have hp : Tryz.prog.stoodInHeld 39 = false := by kernel_rfl
  by_cases hxy : x = y
  · subst hxy
    rw [eqW_yes]; exact runEqW x w
  rw [eqW_no hxy]
  obtain ⟨r, n, t, d, f, tx⟩ := x
  obtain ⟨r', n', t', d', f', tx'⟩ := y
  have hd := runEqDt9A r n r' n'
  simp only [Wr.cells]
  rw [show (10000 : Nat) = 9999 + 1 from rfl, run_equalIn_agg w 9999 39 _ _ hS hp]
  simp only [Program.fieldsOf, Tryz.underlying39]
  by_cases h1 : r = r'
  · by_cases h2 : n = n'
    · by_cases h3 : t = t'
      · by_cases h4 : d = d'
        · by_cases h5 : f = f'
          · by_cases h6 : tx = tx'
            · exact absurd (by rw [h1, h2, h3, h4, h5, h6]) hxy
            · have h6 := neB2 _ _ h6
              subst h1; subst h2; subst h3; subst h4; subst h5
              go_simp
          · subst h1; subst h2; subst h3; subst h4
            go_simp
        · have h4 := neB2 _ _ h4
          subst h1; subst h2; subst h3
          go_simp
      · subst h1; subst h2
        go_simp
    · subst h1
      go_simp
  · go_simp
end Go.Proofs.YtijmijokgenflaaGreatDoor
/- docs.Same of any two states. -/
namespace Go.Proofs.YtijmijokgenflaaGreatDoor
open Go Go.RowKit
set_option linter.unusedVariables false
set_option maxRecDepth 1000000

theorem exec_neqWA {o : Oper} {a : Act} (t : TypeId) (x y : Operand) (ho : o.op = .binOp .neq 39 x y t) (X Y : Wr) (b : Bool) (hb : (!eqW X Y) = b) (hx : a.eval x = .agg X.cells.toArray) (hy : a.eval y = .agg Y.cells.toArray) (w : World) :
    (execOp a.eval o).run Tryz.prog w = .ok (.value (.bool b)) w := by
  have h : (binOp .neq 39 (.agg X.cells.toArray) (.agg Y.cells.toArray)).run Tryz.prog w = .ok (.bool b) w := by
    rw [run_neq_struct, runEqWA X Y w, ← hb]; rfl
  unfold execOp
  simp only [ho, hx, hy]
  refine run_value_of ?_
  rw [Sem.run_bind]
  have hg : (eqGuard .neq 39 x y (.agg X.cells.toArray) (.agg Y.cells.toArray)).run Tryz.prog w = .ok () w := by
    unfold eqGuard
    go_simp
  rw [hg]
  exact h
/-- are two lists of writes the same? -/
noncomputable def eqL (L M : List Wr) : Bool := @decide (L = M) (Classical.propDecidable _)
theorem eqL_iff {L M : List Wr} : eqL L M = true ↔ L = M := by unfold eqL; simp
theorem eqL_no {L M : List Wr} (h : L ≠ M) : eqL L M = false := by unfold eqL; simp [h]
theorem eqL_yes (L : List Wr) : eqL L L = true := eqL_iff.2 rfl
set_option maxHeartbeats 8000000 in
theorem equalWrN_is (p q : Option Addr) (c d N : Nat) (L M : List Wr) (w : World) (hL : L.length = N) (hM : M.length = N) (h : WrsAt w p L) (h2 : WrsAt w q M) (hn : N ≤ 1000000) :
    Calls Tryz.prog 9 #[.slice p N c, .slice q N d] w (RetBool w (eqL L M)) := by
  have HP := Lib.hid h; have HQ := Lib.hid h2; have HL := Lib.hid hL; have HM := Lib.hid hM
  obtain ⟨C, hC⟩ : ∃ C, eqL L M = C := ⟨_, rfl⟩
  have HY : Hid (L = M → C = true) := Lib.hid fun e => by rw [← hC, e]; exact eqL_yes M
  have HNo : Hid (L ≠ M → C = false) := Lib.hid fun e => by rw [← hC]; exact eqL_no e
  rw [hC]
  clear h h2 hL hM hC
  go_enter Tryz.func9, Tryz.ntmps9
  go_wp2
  go_loopw [13] (fun i wr => ∃ k : Nat, k ≤ N ∧ i = .int .i64 k ∧ (∀ j, j < k → L[j]? = M[j]?) ∧ Below w.heap.size w wr) (fun i _ => N - (RowKit.intOf i).toNat)
  case atStart => exact ⟨0, Nat.zero_le _, rfl, fun j h => by omega, Below.refl _ _⟩
  case round =>
    obtain ⟨k, hk, rfl, hall, hb⟩ := hrel
    have BB := Lib.hid hb; have HA := Lib.hid hall
    clear hb hall
    by_cases hkl : k < N
    · have hkl' : (k : Int) < N := by omega
      have k1 : k < L.length := by rw [HL.out]; exact hkl
      have k2 : k < M.length := by rw [HM.out]; exact hkl
      obtain ⟨b, o, rfl, hlt, hq⟩ := (HP.out.below BB.out).at k1
      obtain ⟨b2, o2, rfl, hlt2, hq2⟩ := (HQ.out.below BB.out).at k2
      obtain ⟨y, hy⟩ : ∃ y, L[k] = y := ⟨_, rfl⟩
      obtain ⟨z, hz⟩ : ∃ z, M[k] = z := ⟨_, rfl⟩
      rw [hy] at hq
      rw [hz] at hq2
      have Y1 : Hid (L[k]? = some y) := Lib.hid (by rw [← hy]; exact List.getElem?_eq_getElem k1)
      have Z1 : Hid (M[k]? = some z) := Lib.hid (by rw [← hz]; exact List.getElem?_eq_getElem k2)
      clear hy hz k1 k2
      have MM := Lib.hid (And.intro (show wr.drew.rangeAt b (o + k * 6) y.cells from hq) (And.intro (show wr.drew.rangeAt b2 (o2 + k * 6) z.cells from hq2) (to_drew BB.out)))
      clear hq hq2
      cases hyz : eqW y z with
      | true =>
        have HE : Hid ((!eqW y z) = false) := Lib.hid (by rw [hyz]; rfl)
        have e := eqW_iff.1 hyz
        have NA : Hid (∀ j, j < k + 1 → L[j]? = M[j]?) := Lib.hid fun j hj => by
          rcases Nat.lt_or_ge j k with h3 | h3
          · exact HA.out j h3
          · obtain rfl : j = k := by omega
            rw [Y1.out, Z1.out, e]
        clear hyz e
        go_wp2_with fail
        rename_i K2 hK2
        have m0 := MM.out
        refine rg_calm (by kernel_rfl) rfl (S := fun U => U.rangeAt b (o + k * 6) y.cells ∧ U.rangeAt b2 (o2 + k * 6) z.cells ∧ Below w.heap.size w U) ?_
        refine rgd_pure 0 (some 16) rfl rfl (.slice (some ⟨b, o, none⟩) N c) (by kernel_rfl) (by kernel_rfl) (by kernel_rfl) (fun _ _ _ _ h => h) (by kernel_rfl) (fun w => by kernel_rfl) m0 ?_
        refine rgd_pure 1 (some 17) rfl rfl (.int .i64 (k : Int)) (by kernel_rfl) (by kernel_rfl) (by kernel_rfl) (fun _ _ _ _ h => h) (by kernel_rfl) (fun w => by kernel_rfl) m0 ?_
        refine rgd_pure 2 (some 18) rfl rfl (.pointer (some ⟨b, o + k * 6, none⟩)) (by kernel_rfl) (by kernel_rfl) (by kernel_rfl) (fun _ _ _ _ h => h) (by kernel_rfl) (exec_idxW _ _ rfl b o N c k (by kernel_rfl) (by kernel_rfl) hkl) m0 ?_
        refine rgd_pureS 3 (some 19) rfl rfl (.agg y.cells.toArray) (by kernel_rfl) (by kernel_rfl) (by kernel_rfl) (fun _ _ _ _ h => h) (by kernel_rfl) (fun U hU => exec_gload 39 _ rfl b (o + k * 6) (by kernel_rfl) _ hU.1 Tryz.underlying39 rfl (sizeWr y)) m0 ?_
        refine rgd_pure 4 (some 20) rfl rfl (.slice (some ⟨b2, o2, none⟩) N d) (by kernel_rfl) (by kernel_rfl) (by kernel_rfl) (fun _ _ _ _ h => h) (by kernel_rfl) (fun w => by kernel_rfl) m0 ?_
        refine rgd_pure 5 (some 21) rfl rfl (.int .i64 (k : Int)) (by kernel_rfl) (by kernel_rfl) (by kernel_rfl) (fun _ _ _ _ h => h) (by kernel_rfl) (fun w => by kernel_rfl) m0 ?_
        refine rgd_pure 6 (some 22) rfl rfl (.pointer (some ⟨b2, o2 + k * 6, none⟩)) (by kernel_rfl) (by kernel_rfl) (by kernel_rfl) (fun _ _ _ _ h => h) (by kernel_rfl) (exec_idxW _ _ rfl b2 o2 N d k (by kernel_rfl) (by kernel_rfl) hkl) m0 ?_
        refine rgd_pureS 7 (some 23) rfl rfl (.agg z.cells.toArray) (by kernel_rfl) (by kernel_rfl) (by kernel_rfl) (fun _ _ _ _ h => h) (by kernel_rfl) (fun U hU => exec_gload 39 _ rfl b2 (o2 + k * 6) (by kernel_rfl) _ hU.2.1 Tryz.underlying39 rfl (sizeWr z)) m0 ?_
        refine rgd_pure 8 (some 24) rfl rfl (.bool false) (by kernel_rfl) (by kernel_rfl) (by kernel_rfl) (fun _ _ _ _ h => h) (by kernel_rfl) (exec_neqWA _ _ _ rfl y z false HE.out (by kernel_rfl) (by kernel_rfl)) m0 ?_
        have KE : K2 { tmps := #[.slice (some ⟨b, o, none⟩) N c, .slice (some ⟨b2, o2, none⟩) N d, undef, undef, u4, .int .i64 (k : Int), .slice (some ⟨b, o, none⟩) N c, .int .i64 (N : Int), .slice (some ⟨b2, o2, none⟩) N d, .int .i64 (N : Int), .bool false, .slice (some ⟨b, o, none⟩) N c, .int .i64 (N : Int), .int .i64 (k : Int), .bool true, .int .i64 (k : Int), .slice (some ⟨b, o, none⟩) N c, .int .i64 (k : Int), .pointer (some ⟨b, o + k * 6, none⟩), .agg y.cells.toArray, .slice (some ⟨b2, o2, none⟩) N d, .int .i64 (k : Int), .pointer (some ⟨b2, o2 + k * 6, none⟩), .agg z.cells.toArray, .bool false, u25], defers := [] } wr.drew := by
          refine hK2 _ _ ?_
          have B7 := Lib.hid m0.2.2
          clear hK2 m0
          go_wp2
          go_roundw
          case rel => exact ⟨k + 1, by omega, by go_num, NA.out, B7.out⟩
          case measure => simp [RowKit.intOf]; omega
        exact wpAnyH_done (by kernel_rfl) (Eq.mp (by kernel_rfl) KE) _
      | false =>
        have HE : Hid ((!eqW y z) = true) := Lib.hid (by rw [hyz]; rfl)
        have hf : C = false := HNo.out fun e => by
          have h1 := Y1.out
          rw [e, Z1.out] at h1
          have h2 := Option.some.inj h1
          rw [h2, eqW_yes] at hyz
          cases hyz
        subst hf
        clear hyz
        go_wp2_with fail
        rename_i K2 hK2
        have m0 := MM.out
        refine rg_calm (by kernel_rfl) rfl (S := fun U => U.rangeAt b (o + k * 6) y.cells ∧ U.rangeAt b2 (o2 + k * 6) z.cells ∧ Below w.heap.size w U) ?_
        refine rgd_pure 0 (some 16) rfl rfl (.slice (some ⟨b, o, none⟩) N c) (by kernel_rfl) (by kernel_rfl) (by kernel_rfl) (fun _ _ _ _ h => h) (by kernel_rfl) (fun w => by kernel_rfl) m0 ?_
        refine rgd_pure 1 (some 17) rfl rfl (.int .i64 (k : Int)) (by kernel_rfl) (by kernel_rfl) (by kernel_rfl) (fun _ _ _ _ h => h) (by kernel_rfl) (fun w => by kernel_rfl) m0 ?_
        refine rgd_pure 2 (some 18) rfl rfl (.pointer (some ⟨b, o + k * 6, none⟩)) (by kernel_rfl) (by kernel_rfl) (by kernel_rfl) (fun _ _ _ _ h => h) (by kernel_rfl) (exec_idxW _ _ rfl b o N c k (by kernel_rfl) (by kernel_rfl) hkl) m0 ?_
        refine rgd_pureS 3 (some 19) rfl rfl (.agg y.cells.toArray) (by kernel_rfl) (by kernel_rfl) (by kernel_rfl) (fun _ _ _ _ h => h) (by kernel_rfl) (fun U hU => exec_gload 39 _ rfl b (o + k * 6) (by kernel_rfl) _ hU.1 Tryz.underlying39 rfl (sizeWr y)) m0 ?_
        refine rgd_pure 4 (some 20) rfl rfl (.slice (some ⟨b2, o2, none⟩) N d) (by kernel_rfl) (by kernel_rfl) (by kernel_rfl) (fun _ _ _ _ h => h) (by kernel_rfl) (fun w => by kernel_rfl) m0 ?_
        refine rgd_pure 5 (some 21) rfl rfl (.int .i64 (k : Int)) (by kernel_rfl) (by kernel_rfl) (by kernel_rfl) (fun _ _ _ _ h => h) (by kernel_rfl) (fun w => by kernel_rfl) m0 ?_
        refine rgd_pure 6 (some 22) rfl rfl (.pointer (some ⟨b2, o2 + k * 6, none⟩)) (by kernel_rfl) (by kernel_rfl) (by kernel_rfl) (fun _ _ _ _ h => h) (by kernel_rfl) (exec_idxW _ _ rfl b2 o2 N d k (by kernel_rfl) (by kernel_rfl) hkl) m0 ?_
        refine rgd_pureS 7 (some 23) rfl rfl (.agg z.cells.toArray) (by kernel_rfl) (by kernel_rfl) (by kernel_rfl) (fun _ _ _ _ h => h) (by kernel_rfl) (fun U hU => exec_gload 39 _ rfl b2 (o2 + k * 6) (by kernel_rfl) _ hU.2.1 Tryz.underlying39 rfl (sizeWr z)) m0 ?_
        refine rgd_pure 8 (some 24) rfl rfl (.bool true) (by kernel_rfl) (by kernel_rfl) (by kernel_rfl) (fun _ _ _ _ h => h) (by kernel_rfl) (exec_neqWA _ _ _ rfl y z true HE.out (by kernel_rfl) (by kernel_rfl)) m0 ?_
        have KE : K2 { tmps := #[.slice (some ⟨b, o, none⟩) N c, .slice (some ⟨b2, o2, none⟩) N d, undef, undef, u4, .int .i64 (k : Int), .slice (some ⟨b, o, none⟩) N c, .int .i64 (N : Int), .slice (some ⟨b2, o2, none⟩) N d, .int .i64 (N : Int), .bool false, .slice (some ⟨b, o, none⟩) N c, .int .i64 (N : Int), .int .i64 (k : Int), .bool true, .int .i64 (k : Int), .slice (some ⟨b, o, none⟩) N c, .int .i64 (k : Int), .pointer (some ⟨b, o + k * 6, none⟩), .agg y.cells.toArray, .slice (some ⟨b2, o2, none⟩) N d, .int .i64 (k : Int), .pointer (some ⟨b2, o2 + k * 6, none⟩), .agg z.cells.toArray, .bool true, u25], defers := [] } wr.drew := by
          refine hK2 _ _ ?_
          have B7 := Lib.hid m0.2.2
          clear hK2 m0
          go_wp2
          go_ret
          exact ⟨rfl, B7.out⟩
        exact wpAnyH_done (by kernel_rfl) (Eq.mp (by kernel_rfl) KE) _
    · obtain rfl : k = N := by omega
      have hkl' : ¬ ((k : Nat) : Int) < k := by omega
      have ht : C = true := HY.out (List.ext_getElem? fun j => by
        rcases Nat.lt_or_ge j k with h3 | h3
        · exact HA.out j h3
        · rw [List.getElem?_eq_none (by rw [HL.out]; exact h3), List.getElem?_eq_none (by rw [HM.out]; exact h3)])
      subst ht
      go_wp2
      go_ret
      exact ⟨rfl, BB.out⟩
theorem equalWrA_is (p q : Option Addr) (c d : Nat) (L M : List Wr) (w : World) (h : WrsAt w p L) (h2 : WrsAt w q M) (hn : L.length ≤ 1000000) :
    Calls Tryz.prog 9 #[.slice p L.length c, .slice q M.length d] w (RetBool w (eqL L M)) := by
  by_cases e : M.length = L.length
  · rw [e]; exact equalWrN_is p q c d L.length L M w rfl e h h2 hn
  · have hf : eqL L M = false := eqL_no fun h => e (by rw [h])
    rw [hf]
    have hne : ((L.length : Int) != (M.length : Int)) = true := by simp; omega
    clear h h2
    go_enter Tryz.func9, Tryz.ntmps9
    go_wp2
    go_ret
    exact ⟨rfl, Below.refl _ _⟩
/-- are two states the same? -/
noncomputable def sameB (F G : Nat → Int) (L M : List Wr) : Bool := veq F G && eqL L M
set_option maxHeartbeats 8000000 in
theorem docSameA_is (F G : Nat → Int) (p q : Option Addr) (c d : Nat) (L M : List Wr) (w : World) (h : WrsAt w p L) (h2 : WrsAt w q M) (hn : L.length ≤ 1000000) :
    Calls Tryz.prog 22 #[.agg (scs F (.slice p L.length c)), .agg (scs G (.slice q M.length d))] w (RetBool w (sameB F G L M)) := by
  have HP := Lib.hid h; have HQ := Lib.hid h2
  clear h h2
  obtain ⟨V, hV⟩ : ∃ V, veq F G = V := ⟨_, rfl⟩
  have HR : Hid (sameB F G L M = (V && eqL L M)) := Lib.hid (by unfold sameB; rw [hV])
  have EQ : Hid (∀ U : World, (binOp .eql 23 (.agg (vf F)) (.agg (vf G))).run Tryz.prog U = .ok (.bool V) U) := Lib.hid fun U => by rw [vecI.eql F G U, hV]
  clear hV
  go_enter Tryz.func22, Tryz.ntmps22
  go_wp2_with (refine wpList_gbox rfl _ rfl (scs F (.slice p L.length c)) rfl ?_)
  intro g2 w1 l2 h2 hb1
  have S1 : Hid (Sx w1 g2 F (.slice p L.length c)) := Lib.hid h2
  have B1 := Lib.hid hb1
  clear h2 hb1
  go_wp2_with (refine wpList_gbox rfl _ rfl (scs G (.slice q M.length d)) rfl ?_)
  intro g3 w2 l3 h3 hb2
  have S2 := Lib.hid (S1.out.later hb2); have T2 : Hid (Sx w2 g3 G (.slice q M.length d)) := Lib.hid h3
  have B2 := Lib.hid (thenBelow B1.out hb2)
  clear h3 hb2 S1
  have k2 := S2.out.slot; have k3 := T2.out.slot
  have V2 := Lib.hid (S2.out.vec); have V3 := Lib.hid (T2.out.vec)
  have EW := Lib.hid (equalWrA_is p q c d L M w2 (HP.out.below B2.out) (HQ.out.below B2.out) hn)
  obtain ⟨N, hN⟩ : ∃ N, eqL L M = N := ⟨_, rfl⟩
  rw [hN] at HR EW
  clear hN
  have EQ' := EQ.out
  cases V with
  | false =>
    go_wp2_with (first | refine wpList_gload rfl _ rfl g2 0 rfl _ V2.out _ Tryz.underlying23 rfl (sizeVcl F) ?_ | refine wpList_gload rfl _ rfl g3 0 rfl _ V3.out _ Tryz.underlying23 rfl (sizeVcl G) ?_)
    go_ret
    exact ⟨by rw [HR.out]; rfl, B2.out⟩
  | true =>
    go_wp2_with (first | refine wpList_gload rfl _ rfl g2 0 rfl _ V2.out _ Tryz.underlying23 rfl (sizeVcl F) ?_ | refine wpList_gload rfl _ rfl g3 0 rfl _ V3.out _ Tryz.underlying23 rfl (sizeVcl G) ?_)
    refine EW.out.mono ?_
    rintro e w3 ⟨rfl, hb3⟩
    have B3 := Lib.hid (thenBelow B2.out hb3)
    clear hb3 k2 k3 EQ'
    go_wp2
    go_ret
    exact ⟨by rw [HR.out]; cases N <;> rfl, B3.out⟩
end Go.Proofs.YtijmijokgenflaaGreatDoor
/- The document's Same (of states) of any two. -/
namespace Go.Proofs.YtijmijokgenflaaGreatDoor
open Go Go.RowKit
set_option linter.unusedVariables false
set_option maxRecDepth 1000000

set_option maxHeartbeats 8000000 in
theorem sameSN_is (F G : Nat → Int) (hFG : veq F G = true) (p q : Option Addr) (c d N : Nat) (L M : List Wr) (w : World) (hL : L.length = N) (hM : M.length = N) (h : WrsAt w p L) (h2 : WrsAt w q M) (hn : N ≤ 1000000) :
    Calls Tryz.prog 23 #[.agg (scs F (.slice p N c)), .agg (scs G (.slice q N d))] w (RetBool w (eqL L M)) := by
  have HP := Lib.hid h; have HQ := Lib.hid h2; have HL := Lib.hid hL; have HM := Lib.hid hM
  obtain ⟨C, hC⟩ : ∃ C, eqL L M = C := ⟨_, rfl⟩
  have HY : Hid (L = M → C = true) := Lib.hid fun e => by rw [← hC, e]; exact eqL_yes M
  have HNo : Hid (L ≠ M → C = false) := Lib.hid fun e => by rw [← hC]; exact eqL_no e
  rw [hC]
  clear h h2 hL hM hC
  go_enter Tryz.func23, Tryz.ntmps23
  go_wp2_with (refine wpList_gbox rfl _ rfl (scs F (.slice p N c)) rfl ?_)
  intro g2 w1 l2 h2 hb1
  have S1 : Hid (Sx w1 g2 F (.slice p N c)) := Lib.hid h2
  have B1 := Lib.hid hb1
  clear h2 hb1
  go_wp2_with (refine wpList_gbox rfl _ rfl (scs G (.slice q N d)) rfl ?_)
  intro g3 w2 l3 h3 hb2
  have S2 := Lib.hid (S1.out.later hb2); have T2 : Hid (Sx w2 g3 G (.slice q N d)) := Lib.hid h3
  have B2 := Lib.hid (thenBelow B1.out hb2)
  clear h3 hb2 S1
  have k2 := S2.out.slot; have k3 := T2.out.slot
  have V2 := Lib.hid (S2.out.vec); have V3 := Lib.hid (T2.out.vec)
  have NQ : ∀ V : World, (binOp .neq 23 (.agg (vf F)) (.agg (vf G))).run Tryz.prog V = .ok (.bool false) V := fun V => by rw [vecI.neq F G V, hFG]; rfl
  go_wp2_with (first | refine wpList_gload rfl _ rfl g2 0 rfl _ V2.out _ Tryz.underlying23 rfl (sizeVcl F) ?_ | refine wpList_gload rfl _ rfl g3 0 rfl _ V3.out _ Tryz.underlying23 rfl (sizeVcl G) ?_)
  clear k2 V2 V3 NQ
  go_loopw [24] (fun i wr => ∃ k : Nat, k ≤ N ∧ i = .int .i64 k ∧ (∀ j, j < k → L[j]? = M[j]?) ∧ Below w2.heap.size w2 wr) (fun i _ => N - (RowKit.intOf i).toNat)
  case atStart => exact ⟨0, Nat.zero_le _, rfl, fun j h => by omega, Below.refl _ _⟩
  case round =>
    obtain ⟨k, hk, rfl, hall, hb⟩ := hrel
    have BB := Lib.hid hb; have HA := Lib.hid hall
    clear hb hall
    by_cases hkl : k < N
    · have hkl' : (k : Int) < N := by omega
      have BW := Lib.hid (thenBelow B2.out BB.out)
      obtain ⟨b, o, rfl, hlt, hq⟩ := (HP.out.below BW.out).at (by rw [HL.out]; exact hkl)
      obtain ⟨b2, o2, rfl, hlt2, hq2⟩ := (HQ.out.below BW.out).at (by rw [HM.out]; exact hkl)
      have k1 : k < L.length := by rw [HL.out]; exact hkl
      have k2 : k < M.length := by rw [HM.out]; exact hkl
      obtain ⟨y, hy⟩ : ∃ y, L[k]'k1 = y := ⟨_, rfl⟩
      obtain ⟨z, hz⟩ : ∃ z, M[k]'k2 = z := ⟨_, rfl⟩
      rw [hy] at hq
      rw [hz] at hq2
      have Y1 : Hid (L[k]? = some y) := Lib.hid (by rw [← hy]; exact List.getElem?_eq_getElem k1)
      have Z1 : Hid (M[k]? = some z) := Lib.hid (by rw [← hz]; exact List.getElem?_eq_getElem k2)
      clear hy hz k1 k2
      obtain ⟨c0, c1, c2, c3, c4, c5⟩ := wr_cells hq
      clear hq
      have ba := fun cs => below_alloc wr (.cells cs 39)
      have T3 := Lib.hid (fun cs => (T2.out.later (thenBelow BB.out (ba cs)) : Sx (wr.alloc (.cells cs 39)) g3 G (.slice (some ⟨b2, o2, none⟩) N d)))
      have Y3 := Lib.hid (fun cs => range_below hq2 (ba cs))
      have N3 := Lib.hid (fun cs => heap_alloc_new wr (.cells cs 39))
      have B6 := Lib.hid (fun cs => thenBelow BB.out (ba cs))
      clear ba hq2
      cases hyz : eqW z y with
      | true =>
        have HE : Hid ((!eqW z y) = false) := Lib.hid (by rw [hyz]; rfl)
        have e := eqW_iff.1 hyz
        have NA : Hid (∀ j, j < k + 1 → L[j]? = M[j]?) := Lib.hid fun j hj => by
          rcases Nat.lt_or_ge j k with h3 | h3
          · exact HA.out j h3
          · obtain rfl : j = k := by omega
            rw [Y1.out, Z1.out, e]
        clear hyz e Y1
        obtain ⟨yr, yn, yt, yd, yf, ytx⟩ := y
        simp only at c0 c1 c2 c3 c4 c5
        go_wp2_with fail
        rename_i K2 hK2
        have T4 := Lib.hid (T3.out #[.int .i64 yr, .int .i64 yn, .int .i64 yt, .string yd, .int .i64 yf, .string ytx]); have Y4 := Lib.hid (Y3.out #[.int .i64 yr, .int .i64 yn, .int .i64 yt, .string yd, .int .i64 yf, .string ytx]); have B7 := Lib.hid (to_drew (B6.out #[.int .i64 yr, .int .i64 yn, .int .i64 yt, .string yd, .int .i64 yf, .string ytx]))
        have N4 := Lib.hid (show (wr.alloc (.cells #[.int .i64 yr, .int .i64 yn, .int .i64 yt, .string yd, .int .i64 yf, .string ytx] 39)).rangeAt wr.heap.size 0 (Wr.cells ⟨yr, yn, yt, yd, yf, ytx⟩) from range_of_block (N3.out #[.int .i64 yr, .int .i64 yn, .int .i64 yt, .string yd, .int .i64 yf, .string ytx]))
        clear T3 Y3 N3 B6 c0 c1 c2 c3 c4 c5
        generalize hW : wr.alloc (.cells #[.int .i64 yr, .int .i64 yn, .int .i64 yt, .string yd, .int .i64 yf, .string ytx] 39) = W6 at T4 Y4 N4 B7 ⊢
        generalize hG : wr.heap.size = G6 at N4 ⊢
        clear hW hG
        refine rg_calm (by kernel_rfl) rfl (S := fun U => Sx U g3 G (.slice (some ⟨b2, o2, none⟩) N d) ∧ U.rangeAt b2 (o2 + k * 6) z.cells ∧ U.rangeAt G6 0 (Wr.cells ⟨yr, yn, yt, yd, yf, ytx⟩) ∧ Below w2.heap.size w2 U) ?_
        have m0 : Sx W6.drew g3 G (.slice (some ⟨b2, o2, none⟩) N d) ∧ W6.drew.rangeAt b2 (o2 + k * 6) z.cells ∧ W6.drew.rangeAt G6 0 (Wr.cells ⟨yr, yn, yt, yd, yf, ytx⟩) ∧ Below w2.heap.size w2 W6.drew := ⟨T4.out, Y4.out, N4.out, B7.out⟩
        refine rgd_pure 0 (some 29) rfl rfl (.pointer (some ⟨g3, 64, none⟩)) (by kernel_rfl) (by kernel_rfl) (by kernel_rfl) (fun _ _ _ _ h => h) (by kernel_rfl) (fun w => by kernel_rfl) m0 ?_
        refine rgd_pureS 1 (some 30) rfl rfl (.slice (some ⟨b2, o2, none⟩) N d) (by kernel_rfl) (by kernel_rfl) (by kernel_rfl) (fun _ _ _ _ h => h) (by kernel_rfl) (fun U hU => exec_load1 _ _ rfl Tryz.underlying24 rfl ⟨g3, 64, none⟩ _ (by kernel_rfl) hU.1.slot) m0 ?_
        refine rgd_pure 2 (some 31) rfl rfl (.int .i64 (k : Int)) (by kernel_rfl) (by kernel_rfl) (by kernel_rfl) (fun _ _ _ _ h => h) (by kernel_rfl) (fun w => by kernel_rfl) m0 ?_
        refine rgd_pure 3 (some 32) rfl rfl (.pointer (some ⟨b2, o2 + k * 6, none⟩)) (by kernel_rfl) (by kernel_rfl) (by kernel_rfl) (fun _ _ _ _ h => h) (by kernel_rfl) (exec_idxW _ _ rfl b2 o2 N d k (by kernel_rfl) (by kernel_rfl) hkl) m0 ?_
        refine rgd_pureS 4 (some 33) rfl rfl (.agg z.cells.toArray) (by kernel_rfl) (by kernel_rfl) (by kernel_rfl) (fun _ _ _ _ h => h) (by kernel_rfl) (fun U hU => exec_gload 39 _ rfl b2 (o2 + k * 6) (by kernel_rfl) _ hU.2.1 Tryz.underlying39 rfl (sizeWr z)) m0 ?_
        refine rgd_pureS 5 (some 34) rfl rfl (.agg #[.int .i64 yr, .int .i64 yn, .int .i64 yt, .string yd, .int .i64 yf, .string ytx]) (by kernel_rfl) (by kernel_rfl) (by kernel_rfl) (fun _ _ _ _ h => h) (by kernel_rfl) (fun U hU => exec_gload 39 _ rfl G6 0 (by kernel_rfl) _ hU.2.2.1 Tryz.underlying39 rfl (sizeWr ⟨yr, yn, yt, yd, yf, ytx⟩)) m0 ?_
        refine rgd_pure 6 (some 35) rfl rfl (.bool false) (by kernel_rfl) (by kernel_rfl) (by kernel_rfl) (fun _ _ _ _ h => h) (by kernel_rfl) (exec_neqWA _ _ _ rfl z ⟨yr, yn, yt, yd, yf, ytx⟩ false HE.out (by kernel_rfl) (by kernel_rfl)) m0 ?_
        have KE : K2 { tmps := #[.agg (scs F (.slice (some ⟨b, o, none⟩) N c)), .agg (scs G (.slice (some ⟨b2, o2, none⟩) N d)), .pointer (some ⟨g2, 0, none⟩), .pointer (some ⟨g3, 0, none⟩), u4, .int .i64 (k : Int), .pointer (some ⟨G6, 0, none⟩), .pointer (some ⟨g2, 0, none⟩), .agg (vf F), .pointer (some ⟨g3, 0, none⟩), .agg (vf G), .bool false, .bool false, .pointer (some ⟨g2, 64, none⟩), .slice (some ⟨b, o, none⟩) N c, .int .i64 (N : Int), .pointer (some ⟨g3, 64, none⟩), .slice (some ⟨b2, o2, none⟩) N d, .int .i64 (N : Int), .bool false, .bool false, .pointer (some ⟨g2, 64, none⟩), .slice (some ⟨b, o, none⟩) N c, .int .i64 (N : Int), .int .i64 (k : Int), .bool true, .int .i64 (k : Int), .pointer (some ⟨b, o + k * 6, none⟩), .agg #[.int .i64 yr, .int .i64 yn, .int .i64 yt, .string yd, .int .i64 yf, .string ytx], .pointer (some ⟨g3, 64, none⟩), .slice (some ⟨b2, o2, none⟩) N d, .int .i64 (k : Int), .pointer (some ⟨b2, o2 + k * 6, none⟩), .agg z.cells.toArray, .agg #[.int .i64 yr, .int .i64 yn, .int .i64 yt, .string yd, .int .i64 yf, .string ytx], .bool false, u36], defers := [] } W6.drew := by
          refine hK2 _ _ ?_
          clear hK2 m0
          go_wp2
          go_roundw
          case rel => exact ⟨k + 1, by omega, by go_num, NA.out, B7.out⟩
          case measure => simp [RowKit.intOf]; omega
        exact wpAnyH_done (by kernel_rfl) (Eq.mp (by kernel_rfl) KE) _
      | false =>
        have HE : Hid ((!eqW z y) = true) := Lib.hid (by rw [hyz]; rfl)
        have hf : C = false := HNo.out fun e => by
          have h1 := Y1.out
          rw [e, Z1.out] at h1
          have h2 := Option.some.inj h1
          rw [h2, eqW_yes] at hyz
          cases hyz
        subst hf
        clear hyz Y1
        obtain ⟨yr, yn, yt, yd, yf, ytx⟩ := y
        simp only at c0 c1 c2 c3 c4 c5
        go_wp2_with fail
        rename_i K2 hK2
        have T4 := Lib.hid (T3.out #[.int .i64 yr, .int .i64 yn, .int .i64 yt, .string yd, .int .i64 yf, .string ytx]); have Y4 := Lib.hid (Y3.out #[.int .i64 yr, .int .i64 yn, .int .i64 yt, .string yd, .int .i64 yf, .string ytx]); have B7 := Lib.hid (to_drew (B6.out #[.int .i64 yr, .int .i64 yn, .int .i64 yt, .string yd, .int .i64 yf, .string ytx]))
        have N4 := Lib.hid (show (wr.alloc (.cells #[.int .i64 yr, .int .i64 yn, .int .i64 yt, .string yd, .int .i64 yf, .string ytx] 39)).rangeAt wr.heap.size 0 (Wr.cells ⟨yr, yn, yt, yd, yf, ytx⟩) from range_of_block (N3.out #[.int .i64 yr, .int .i64 yn, .int .i64 yt, .string yd, .int .i64 yf, .string ytx]))
        clear T3 Y3 N3 B6 c0 c1 c2 c3 c4 c5
        generalize hW : wr.alloc (.cells #[.int .i64 yr, .int .i64 yn, .int .i64 yt, .string yd, .int .i64 yf, .string ytx] 39) = W6 at T4 Y4 N4 B7 ⊢
        generalize hG : wr.heap.size = G6 at N4 ⊢
        clear hW hG
        refine rg_calm (by kernel_rfl) rfl (S := fun U => Sx U g3 G (.slice (some ⟨b2, o2, none⟩) N d) ∧ U.rangeAt b2 (o2 + k * 6) z.cells ∧ U.rangeAt G6 0 (Wr.cells ⟨yr, yn, yt, yd, yf, ytx⟩) ∧ Below w2.heap.size w2 U) ?_
        have m0 : Sx W6.drew g3 G (.slice (some ⟨b2, o2, none⟩) N d) ∧ W6.drew.rangeAt b2 (o2 + k * 6) z.cells ∧ W6.drew.rangeAt G6 0 (Wr.cells ⟨yr, yn, yt, yd, yf, ytx⟩) ∧ Below w2.heap.size w2 W6.drew := ⟨T4.out, Y4.out, N4.out, B7.out⟩
        refine rgd_pure 0 (some 29) rfl rfl (.pointer (some ⟨g3, 64, none⟩)) (by kernel_rfl) (by kernel_rfl) (by kernel_rfl) (fun _ _ _ _ h => h) (by kernel_rfl) (fun w => by kernel_rfl) m0 ?_
        refine rgd_pureS 1 (some 30) rfl rfl (.slice (some ⟨b2, o2, none⟩) N d) (by kernel_rfl) (by kernel_rfl) (by kernel_rfl) (fun _ _ _ _ h => h) (by kernel_rfl) (fun U hU => exec_load1 _ _ rfl Tryz.underlying24 rfl ⟨g3, 64, none⟩ _ (by kernel_rfl) hU.1.slot) m0 ?_
        refine rgd_pure 2 (some 31) rfl rfl (.int .i64 (k : Int)) (by kernel_rfl) (by kernel_rfl) (by kernel_rfl) (fun _ _ _ _ h => h) (by kernel_rfl) (fun w => by kernel_rfl) m0 ?_
        refine rgd_pure 3 (some 32) rfl rfl (.pointer (some ⟨b2, o2 + k * 6, none⟩)) (by kernel_rfl) (by kernel_rfl) (by kernel_rfl) (fun _ _ _ _ h => h) (by kernel_rfl) (exec_idxW _ _ rfl b2 o2 N d k (by kernel_rfl) (by kernel_rfl) hkl) m0 ?_
        refine rgd_pureS 4 (some 33) rfl rfl (.agg z.cells.toArray) (by kernel_rfl) (by kernel_rfl) (by kernel_rfl) (fun _ _ _ _ h => h) (by kernel_rfl) (fun U hU => exec_gload 39 _ rfl b2 (o2 + k * 6) (by kernel_rfl) _ hU.2.1 Tryz.underlying39 rfl (sizeWr z)) m0 ?_
        refine rgd_pureS 5 (some 34) rfl rfl (.agg #[.int .i64 yr, .int .i64 yn, .int .i64 yt, .string yd, .int .i64 yf, .string ytx]) (by kernel_rfl) (by kernel_rfl) (by kernel_rfl) (fun _ _ _ _ h => h) (by kernel_rfl) (fun U hU => exec_gload 39 _ rfl G6 0 (by kernel_rfl) _ hU.2.2.1 Tryz.underlying39 rfl (sizeWr ⟨yr, yn, yt, yd, yf, ytx⟩)) m0 ?_
        refine rgd_pure 6 (some 35) rfl rfl (.bool true) (by kernel_rfl) (by kernel_rfl) (by kernel_rfl) (fun _ _ _ _ h => h) (by kernel_rfl) (exec_neqWA _ _ _ rfl z ⟨yr, yn, yt, yd, yf, ytx⟩ true HE.out (by kernel_rfl) (by kernel_rfl)) m0 ?_
        have KE : K2 { tmps := #[.agg (scs F (.slice (some ⟨b, o, none⟩) N c)), .agg (scs G (.slice (some ⟨b2, o2, none⟩) N d)), .pointer (some ⟨g2, 0, none⟩), .pointer (some ⟨g3, 0, none⟩), u4, .int .i64 (k : Int), .pointer (some ⟨G6, 0, none⟩), .pointer (some ⟨g2, 0, none⟩), .agg (vf F), .pointer (some ⟨g3, 0, none⟩), .agg (vf G), .bool false, .bool false, .pointer (some ⟨g2, 64, none⟩), .slice (some ⟨b, o, none⟩) N c, .int .i64 (N : Int), .pointer (some ⟨g3, 64, none⟩), .slice (some ⟨b2, o2, none⟩) N d, .int .i64 (N : Int), .bool false, .bool false, .pointer (some ⟨g2, 64, none⟩), .slice (some ⟨b, o, none⟩) N c, .int .i64 (N : Int), .int .i64 (k : Int), .bool true, .int .i64 (k : Int), .pointer (some ⟨b, o + k * 6, none⟩), .agg #[.int .i64 yr, .int .i64 yn, .int .i64 yt, .string yd, .int .i64 yf, .string ytx], .pointer (some ⟨g3, 64, none⟩), .slice (some ⟨b2, o2, none⟩) N d, .int .i64 (k : Int), .pointer (some ⟨b2, o2 + k * 6, none⟩), .agg z.cells.toArray, .agg #[.int .i64 yr, .int .i64 yn, .int .i64 yt, .string yd, .int .i64 yf, .string ytx], .bool true, u36], defers := [] } W6.drew := by
          refine hK2 _ _ ?_
          have BU := Lib.hid m0.2.2.2
          clear hK2 m0
          go_wp2
          go_ret
          exact ⟨rfl, thenBelow B2.out BU.out⟩
        exact wpAnyH_done (by kernel_rfl) (Eq.mp (by kernel_rfl) KE) _
    · obtain rfl : k = N := by omega
      have hkl' : ¬ ((k : Nat) : Int) < k := by omega
      have ht : C = true := HY.out (List.ext_getElem? fun j => by
        rcases Nat.lt_or_ge j k with h3 | h3
        · exact HA.out j h3
        · rw [List.getElem?_eq_none (by rw [HL.out]; exact h3), List.getElem?_eq_none (by rw [HM.out]; exact h3)])
      subst ht
      go_wp2
      go_ret
      exact ⟨rfl, thenBelow B2.out BB.out⟩
set_option maxHeartbeats 8000000 in
theorem sameSA_is (F G : Nat → Int) (p q : Option Addr) (c d : Nat) (L M : List Wr) (w : World) (h : WrsAt w p L) (h2 : WrsAt w q M) (hn : L.length ≤ 1000000) :
    Calls Tryz.prog 23 #[.agg (scs F (.slice p L.length c)), .agg (scs G (.slice q M.length d))] w (RetBool w (sameB F G L M)) := by
  cases hv : veq F G with
  | true =>
    by_cases e : M.length = L.length
    · have hs : sameB F G L M = eqL L M := by unfold sameB; rw [hv]; rfl
      rw [hs, e]
      exact sameSN_is F G hv p q c d L.length L M w rfl e h h2 hn
    · have hs : Hid (sameB F G L M = false) := Lib.hid (by unfold sameB; rw [hv, eqL_no fun h => e (by rw [h])]; rfl)
      have hne : ((L.length : Int) != (M.length : Int)) = true := by simp; omega
      clear h h2 e
      go_enter Tryz.func23, Tryz.ntmps23
      go_wp2_with (refine wpList_gbox rfl _ rfl (scs F (.slice p L.length c)) rfl ?_)
      intro g2 w1 l2 h2 hb1
      have S1 : Hid (Sx w1 g2 F (.slice p L.length c)) := Lib.hid h2
      have B1 := Lib.hid hb1
      clear h2 hb1
      go_wp2_with (refine wpList_gbox rfl _ rfl (scs G (.slice q M.length d)) rfl ?_)
      intro g3 w2 l3 h3 hb2
      have S2 := Lib.hid (S1.out.later hb2); have T2 : Hid (Sx w2 g3 G (.slice q M.length d)) := Lib.hid h3
      have B2 := Lib.hid (thenBelow B1.out hb2)
      clear h3 hb2 S1
      have k2 := S2.out.slot; have k3 := T2.out.slot
      have V2 := Lib.hid (S2.out.vec); have V3 := Lib.hid (T2.out.vec)
      have NQ : ∀ V : World, (binOp .neq 23 (.agg (vf F)) (.agg (vf G))).run Tryz.prog V = .ok (.bool false) V := fun V => by rw [vecI.neq F G V, hv]; rfl
      go_wp2_with (first | refine wpList_gload rfl _ rfl g2 0 rfl _ V2.out _ Tryz.underlying23 rfl (sizeVcl F) ?_ | refine wpList_gload rfl _ rfl g3 0 rfl _ V3.out _ Tryz.underlying23 rfl (sizeVcl G) ?_)
      go_ret
      exact ⟨by rw [hs.out]; rfl, B2.out⟩
  | false =>
    have hs : Hid (sameB F G L M = false) := Lib.hid (by unfold sameB; rw [hv]; rfl)
    clear h h2
    go_enter Tryz.func23, Tryz.ntmps23
    go_wp2_with (refine wpList_gbox rfl _ rfl (scs F (.slice p L.length c)) rfl ?_)
    intro g2 w1 l2 h2 hb1
    have S1 : Hid (Sx w1 g2 F (.slice p L.length c)) := Lib.hid h2
    have B1 := Lib.hid hb1
    clear h2 hb1
    go_wp2_with (refine wpList_gbox rfl _ rfl (scs G (.slice q M.length d)) rfl ?_)
    intro g3 w2 l3 h3 hb2
    have S2 := Lib.hid (S1.out.later hb2); have T2 : Hid (Sx w2 g3 G (.slice q M.length d)) := Lib.hid h3
    have B2 := Lib.hid (thenBelow B1.out hb2)
    clear h3 hb2 S1
    have k2 := S2.out.slot; have k3 := T2.out.slot
    have V2 := Lib.hid (S2.out.vec); have V3 := Lib.hid (T2.out.vec)
    have NQ : ∀ V : World, (binOp .neq 23 (.agg (vf F)) (.agg (vf G))).run Tryz.prog V = .ok (.bool true) V := fun V => by rw [vecI.neq F G V, hv]; rfl
    go_wp2_with (first | refine wpList_gload rfl _ rfl g2 0 rfl _ V2.out _ Tryz.underlying23 rfl (sizeVcl F) ?_ | refine wpList_gload rfl _ rfl g3 0 rfl _ V3.out _ Tryz.underlying23 rfl (sizeVcl G) ?_)
    go_ret
    exact ⟨by rw [hs.out]; rfl, B2.out⟩
end Go.Proofs.YtijmijokgenflaaGreatDoor
