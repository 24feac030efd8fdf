/- The statement DocsReads, proved for every input that its row reads: part 46 of 54. -/
import Derived.Test.YtijmijokgenflaaGreatDoorPackDocsReads42
import Derived.Test.YtijmijokgenflaaGreatDoorPackDocsReads24
/- docs.Can: can it be a state? -/
namespace Go.Proofs.YtijmijokgenflaaGreatDoor
open Go Go.RowKit
set_option linter.unusedVariables false
set_option maxRecDepth 1000000

theorem builtPE (x : Wr) (w : World) : (Instr.build 55 #[(0, .agg #[.int .i64 x.rep, .int .i64 x.n]), (1, .int .i64 x.time), (2, .int .i64 1), (3, .string x.doc), (4, .int .i64 x.field), (5, .string x.text)]).run Tryz.prog w = .ok (.agg (EvP.cells ⟨putE x, none, 0⟩).toArray) w := run_build w _ _ _ (by kernel_rfl)
set_option maxHeartbeats 4000000 in
theorem mayWrite_is (y : Wr) (w : World) (hT : Shapes w) : Calls Tryz.prog 42 #[.agg y.cells.toArray] w (RetBool w (decide (chk (putE y) = 0))) := by
  have HT := Lib.hid hT
  clear hT
  obtain ⟨X, hX⟩ : ∃ X, chk (putE y) = X := ⟨_, rfl⟩
  have CK : Hid (∀ V : World, Below w.heap.size w V → Calls Tryz.prog 49 #[.agg (EvP.cells ⟨putE y, none, 0⟩).toArray] V (Check1 V X)) := Lib.hid fun V hV => by rw [← hX]; exact check_is ⟨putE y, none, 0⟩ V ⟨DRow.nil _ _, fun _ => rfl⟩ (HT.out.below hV)
  have PB := Lib.hid (builtPE y)
  rw [hX]
  clear hX
  go_enter Tryz.func42, Tryz.ntmps42
  go_wp2_with (refine wpList_gbox rfl _ rfl y.cells.toArray rfl ?_)
  intro g1 w1 l1 h1 hb1
  have B1 := Lib.hid hb1
  have R1 : w1.rangeAt g1 0 y.cells := by simpa using range_of_block h1
  clear h1 hb1
  obtain ⟨c0, c1, c2, c3, c4, c5⟩ := wr_cells R1
  simp only [Nat.zero_add] at c0 c1 c2 c3 c4 c5
  clear R1
  obtain ⟨yr, yn, yt, yd, yf, ytx⟩ := y
  simp only at c0 c1 c2 c3 c4 c5
  go_wp2_with (refine wpList_pbuild (by rfl) _ rfl (EvP.cells ⟨putE ⟨yr, yn, yt, yd, yf, ytx⟩, none, 0⟩).toArray (by simp only [List.map_toArray, List.map_cons, List.map_nil]; exact PB.out _) ?_)
  refine (CK.out w1 B1.out).mono ?_
  rintro e w2 ⟨rfl, hb2⟩
  have B2 := Lib.hid (thenBelow B1.out hb2)
  clear hb2 c0 c1 c2 c3 c4 c5 CK PB
  by_cases h0 : X = 0
  · subst h0
    go_wp2
    go_ret
    exact ⟨rfl, B2.out⟩
  · have hn : (X == 0) = false := by simpa using h0
    have HD : Hid (decide (X = 0) = false) := Lib.hid (decide_eq_false h0)
    clear h0
    go_wp2
    go_ret
    exact ⟨by rw [HD.out]; rfl, B2.out⟩
set_option maxHeartbeats 8000000 in
theorem docCan_is (F : Nat → Int) (p : Option Addr) (c : Nat) (L : List Wr) (w : World) (h : WrsAt w p L) (hT : Shapes w) :
    Calls Tryz.prog 20 #[.agg (scs F (.slice p L.length c))] w (RetBool w (canB F L)) := by
  have HT := Lib.hid hT
  clear hT
  have HW := Lib.hid h
  clear h
  obtain ⟨C, hC⟩ : ∃ C, canB F L = C := ⟨_, rfl⟩
  have HC := Lib.hid hC
  rw [hC]
  clear hC
  have GD := Lib.hid (fun V : World => good_is F V)
  go_enter Tryz.func20, Tryz.ntmps20
  go_wp2_with (refine wpList_gbox rfl _ rfl (scs F (.slice p L.length c)) rfl ?_)
  intro g1 w1 l1 h1 hb1
  have S1 : Hid (Sx w1 g1 F (.slice p L.length c)) := Lib.hid h1
  have B1 := Lib.hid hb1
  have V1 := Lib.hid (S1.out.vec)
  clear h1 hb1
  go_wp2_with (first | refine wpList_gload rfl _ rfl g1 0 rfl _ V1.out _ Tryz.underlying23 rfl (sizeVcl F) ?_ | refine wpList_gloadG (by rfl) _ rfl g1 0 rfl _ V1.out _ Tryz.underlying23 rfl (sizeVcl F) ?_)
  refine (GD.out w1).mono ?_
  rintro e w2 ⟨rfl, hb2⟩
  have S2 := Lib.hid (S1.out.later hb2); have B2 := Lib.hid (thenBelow B1.out hb2)
  clear hb2 V1 S1 GD
  have k64 := S2.out.slot
  cases hg : goodB F with
  | false =>
    have hf : C = false := by rw [← HC.out]; exact can_no fun h => by rw [h.good] at hg; cases hg
    subst hf
    go_wp2
    go_ret
    exact ⟨rfl, B2.out⟩
  | true =>
    have HG := Lib.hid hg
    clear hg
    by_cases hL : L.length > 4096
    · have hL' : (L.length : Int) > 4096 := by omega
      have hf : C = false := by rw [← HC.out]; exact can_no fun h => by have := h.len; omega
      subst hf
      go_wp2
      go_ret
      exact ⟨rfl, B2.out⟩
    · have hL' : ¬ (L.length : Int) > 4096 := by omega
      go_wp2
      clear k64
      go_loopw [18] (fun i wr => ∃ k : Nat, k ≤ L.length ∧ i = .int .i64 k ∧ (∀ i (h : i < L.length), i < k → chk (putE L[i]) = 0 ∧ hasB F L[i].rep L[i].n = true) ∧ (∀ i (h : i + 1 < L.length), i + 1 < k → ltW (L[i]'(by omega)) L[i + 1] = true) ∧ Below w2.heap.size w2 wr) (fun i _ => L.length - (RowKit.intOf i).toNat)
      case atStart => exact ⟨0, Nat.zero_le _, rfl, fun i _ h => by omega, fun i _ h => by omega, Below.refl _ _⟩
      case round =>
        obtain ⟨k, hk, rfl, hall, hord, hb⟩ := hrel
        have BB := Lib.hid hb; have HA := Lib.hid hall; have HO := Lib.hid hord
        clear hall hord hb
        by_cases hkl : k < L.length
        · have hkl' : (k : Int) < L.length := by omega
          have BW := Lib.hid (thenBelow B2.out BB.out)
          have HWr := Lib.hid (HW.out.below BW.out)
          obtain ⟨b, o, rfl, hlt, hq⟩ := HWr.out.at hkl
          obtain ⟨y, hy⟩ : ∃ y, L[k] = y := ⟨_, rfl⟩
          rw [hy] at hq
          have YC := Lib.hid hy
          clear hy
          obtain ⟨c0, c1, c2, c3, c4, c5⟩ := wr_cells hq
          clear hq
          obtain ⟨yr, yn, yt, yd, yf, ytx⟩ := y
          simp only at c0 c1 c2 c3 c4 c5
          have ba := below_alloc wr (.cells #[.int .i64 yr, .int .i64 yn, .int .i64 yt, .string yd, .int .i64 yf, .string ytx] 39)
          have na := heap_alloc_new wr (.cells #[.int .i64 yr, .int .i64 yn, .int .i64 yt, .string yd, .int .i64 yf, .string ytx] 39)
          have R4 : (wr.alloc (.cells #[.int .i64 yr, .int .i64 yn, .int .i64 yt, .string yd, .int .i64 yf, .string ytx] 39)).rangeAt wr.heap.size 0 (Wr.cells ⟨yr, yn, yt, yd, yf, ytx⟩) := range_of_block na
          have M1 := Lib.hid (And.intro (S2.out.later (to_drew (thenBelow BB.out ba))) (And.intro R4 (And.intro (HWr.out.below (to_drew ba)) (to_drew (thenBelow BB.out ba)))))
          clear ba na R4
          go_wp2_with fail
          rename_i K2 hK2
          generalize hW : wr.alloc (.cells #[.int .i64 yr, .int .i64 yn, .int .i64 yt, .string yd, .int .i64 yf, .string ytx] 39) = W6 at M1 ⊢
          generalize hG4 : wr.heap.size = G4 at M1 ⊢
          clear hW c0 c1 c2 c3 c4 c5
          have M0 : Hid (Sx W6.drew g1 F (.slice (some ⟨b, o, none⟩) L.length c) ∧ W6.drew.rangeAt G4 0 (Wr.cells ⟨yr, yn, yt, yd, yf, ytx⟩) ∧ WrsAt W6.drew (some ⟨b, o, none⟩) L ∧ Below w2.heap.size w2 W6.drew) := M1
          have SZD : ∀ z1 z2 : Int, (Tryz.prog.info? 37).map (·.size) = some [Value.int .i64 z1, .int .i64 z2].length := fun z1 z2 => by kernel_rfl
          by_cases hx : chk (putE ⟨yr, yn, yt, yd, yf, ytx⟩) = 0
          · have MW : Hid (∀ V : World, Below w2.heap.size w2 V → Calls Tryz.prog 42 #[.agg #[.int .i64 yr, .int .i64 yn, .int .i64 yt, .string yd, .int .i64 yf, .string ytx]] V (RetBool V true)) := Lib.hid fun V hV => by
              have := mayWrite_is ⟨yr, yn, yt, yd, yf, ytx⟩ V (HT.out.below (thenBelow B2.out hV))
              rw [decide_eq_true hx] at this; exact this
            have HS := Lib.hid (fun V : World => has_is F yr yn V)
            cases hh : hasB F yr yn with
            | false =>
              rw [hh] at HS
              have hf : C = false := by
                rw [← HC.out]
                refine can_no fun h => ?_
                have := (h.fine _ (List.getElem_mem hkl)).2
                rw [YC.out] at this
                simp only at this
                rw [hh] at this; cases this
              subst hf
              refine rg_calm (by kernel_rfl) rfl (S := fun U => Sx U g1 F (.slice (some ⟨b, o, none⟩) L.length c) ∧ U.rangeAt G4 0 (Wr.cells ⟨yr, yn, yt, yd, yf, ytx⟩) ∧ WrsAt U (some ⟨b, o, none⟩) L ∧ Below w2.heap.size w2 U) ?_
              have m0 := M0.out
              have keep : ∀ U U' : World, Below U.heap.size U U' → Sx U g1 F (.slice (some ⟨b, o, none⟩) L.length c) ∧ U.rangeAt G4 0 (Wr.cells ⟨yr, yn, yt, yd, yf, ytx⟩) ∧ WrsAt U (some ⟨b, o, none⟩) L ∧ Below w2.heap.size w2 U → Sx U' g1 F (.slice (some ⟨b, o, none⟩) L.length c) ∧ U'.rangeAt G4 0 (Wr.cells ⟨yr, yn, yt, yd, yf, ytx⟩) ∧ WrsAt U' (some ⟨b, o, none⟩) L ∧ Below w2.heap.size w2 U' := fun U U' hb h => ⟨h.1.later hb, range_below h.2.1 hb, h.2.2.1.below hb, thenBelow h.2.2.2 hb⟩
              refine rgd_pureS 0 (some 23) rfl rfl (.agg #[.int .i64 yr, .int .i64 yn, .int .i64 yt, .string yd, .int .i64 yf, .string ytx]) (by kernel_rfl) (by kernel_rfl) (by kernel_rfl) (fun _ _ _ _ h => h) (by kernel_rfl) (fun U hU => exec_gload 39 _ rfl G4 0 (by kernel_rfl) _ hU.2.1 Tryz.underlying39 rfl (sizeWr ⟨yr, yn, yt, yd, yf, ytx⟩)) m0 ?_
              refine rgd_call 1 (some 24) (by kernel_rfl) rfl rfl (by kernel_rfl) 42 (#[.agg #[.int .i64 yr, .int .i64 yn, .int .i64 yt, .string yd, .int .i64 yf, .string ytx]]) (by kernel_rfl) (MW.out _ m0.2.2.2) ?_
              rintro _ U1 ⟨rfl, bU1⟩
              have m1 := keep _ _ bU1 m0
              refine ⟨_, rfl, m1, ?_⟩
              refine rgd_pure 2 (some 25) rfl rfl (.bool false) (by kernel_rfl) (by kernel_rfl) (by kernel_rfl) (fun _ _ _ _ h => h) (by kernel_rfl) (fun w => by kernel_rfl) m1 ?_
              refine rgd_pure 3 (some 26) rfl rfl (.bool false) (by kernel_rfl) (by kernel_rfl) (by kernel_rfl) (fun _ _ _ _ h => h) (by kernel_rfl) (fun w => by kernel_rfl) m1 ?_
              refine rgd_pure 4 (some 27) rfl rfl (.pointer (some ⟨g1, 0, none⟩)) (by kernel_rfl) (by kernel_rfl) (by kernel_rfl) (fun _ _ _ _ h => h) (by kernel_rfl) (fun w => by kernel_rfl) m1 ?_
              refine rgd_pureS 5 (some 28) rfl rfl (.agg (vf F)) (by kernel_rfl) (by kernel_rfl) (by kernel_rfl) (fun _ _ _ _ h => h) (by kernel_rfl) (fun U hU => exec_gload 23 _ rfl g1 0 (by kernel_rfl) _ hU.1.vec Tryz.underlying23 rfl (sizeVcl F)) m1 ?_
              refine rgd_pure 6 (some 29) rfl rfl (.pointer (some ⟨G4, 0, none⟩)) (by kernel_rfl) (by kernel_rfl) (by kernel_rfl) (fun _ _ _ _ h => h) (by kernel_rfl) (fun w => by kernel_rfl) m1 ?_
              refine rgd_pureS 7 (some 30) rfl rfl (.agg #[.int .i64 yr, .int .i64 yn]) (by kernel_rfl) (by kernel_rfl) (by kernel_rfl) (fun _ _ _ _ h => h) (by kernel_rfl) (fun U hU => exec_gload 37 _ rfl G4 0 (by kernel_rfl) _ (wr_dot hU.2.1) Tryz.underlying37 rfl (SZD yr yn)) m1 ?_
              refine rgd_call 8 (some 31) (by kernel_rfl) rfl rfl (by kernel_rfl) 43 (#[.agg (vf F), .agg (dcs yr yn)]) (by kernel_rfl) (HS.out _) ?_
              rintro _ U2 ⟨rfl, bU2⟩
              have m2 := keep _ _ bU2 m1
              refine ⟨_, rfl, m2, ?_⟩
              refine rgd_pure 9 (some 32) rfl rfl (.bool true) (by kernel_rfl) (by kernel_rfl) (by kernel_rfl) (fun _ _ _ _ h => h) (by kernel_rfl) (fun w => by kernel_rfl) m2 ?_
              refine rgd_pure 10 (some 33) rfl rfl (.bool true) (by kernel_rfl) (by kernel_rfl) (by kernel_rfl) (fun _ _ _ _ h => h) (by kernel_rfl) (fun w => by kernel_rfl) m2 ?_
              refine rgd_pure 11 (some 34) rfl rfl (.bool true) (by kernel_rfl) (by kernel_rfl) (by kernel_rfl) (fun _ _ _ _ h => h) (by kernel_rfl) (fun w => by kernel_rfl) m2 ?_
              refine rgd_skip 12 (some 35) rfl rfl (by kernel_rfl) (by kernel_rfl) (by kernel_rfl) (fun _ _ _ _ h => h) (by kernel_rfl) m2 ?_
              refine rgd_skip 13 (some 36) rfl rfl (by kernel_rfl) (by kernel_rfl) (by kernel_rfl) (fun _ _ _ _ h => h) (by kernel_rfl) m2 ?_
              refine rgd_skip 14 (some 37) rfl rfl (by kernel_rfl) (by kernel_rfl) (by kernel_rfl) (fun _ _ _ _ h => h) (by kernel_rfl) m2 ?_
              refine rgd_skip 15 (some 38) rfl rfl (by kernel_rfl) (by kernel_rfl) (by kernel_rfl) (fun _ _ _ _ h => h) (by kernel_rfl) m2 ?_
              refine rgd_skip 16 (some 39) rfl rfl (by kernel_rfl) (by kernel_rfl) (by kernel_rfl) (fun _ _ _ _ h => h) (by kernel_rfl) m2 ?_
              refine rgd_skip 17 (some 40) rfl rfl (by kernel_rfl) (by kernel_rfl) (by kernel_rfl) (fun _ _ _ _ h => h) (by kernel_rfl) m2 ?_
              refine rgd_skip 18 (some 41) rfl rfl (by kernel_rfl) (by kernel_rfl) (by kernel_rfl) (fun _ _ _ _ h => h) (by kernel_rfl) m2 ?_
              refine rgd_skip 19 (some 42) rfl rfl (by kernel_rfl) (by kernel_rfl) (by kernel_rfl) (fun _ _ _ _ h => h) (by kernel_rfl) m2 ?_
              refine rgd_skip 20 (some 43) rfl rfl (by kernel_rfl) (by kernel_rfl) (by kernel_rfl) (fun _ _ _ _ h => h) (by kernel_rfl) m2 ?_
              refine rgd_skip 21 (some 44) rfl rfl (by kernel_rfl) (by kernel_rfl) (by kernel_rfl) (fun _ _ _ _ h => h) (by kernel_rfl) m2 ?_
              refine rgd_skip 22 (some 45) rfl rfl (by kernel_rfl) (by kernel_rfl) (by kernel_rfl) (fun _ _ _ _ h => h) (by kernel_rfl) m2 ?_
              refine rgd_skip 23 (some 46) rfl rfl (by kernel_rfl) (by kernel_rfl) (by kernel_rfl) (fun _ _ _ _ h => h) (by kernel_rfl) m2 ?_
              refine rgd_skip 24 (some 47) rfl rfl (by kernel_rfl) (by kernel_rfl) (by kernel_rfl) (fun _ _ _ _ h => h) (by kernel_rfl) m2 ?_
              refine rgd_pure 25 (some 48) rfl rfl (.bool true) (by kernel_rfl) (by kernel_rfl) (by kernel_rfl) (fun _ _ _ _ h => h) (by kernel_rfl) (fun w => by kernel_rfl) m2 ?_
              have BU := Lib.hid m2.2.2.2
              have KE : K2 { tmps := #[.agg (scs F (.slice (some ⟨b, o, none⟩) L.length c)), .pointer (some ⟨g1, 0, none⟩), u2, .int .i64 (k : Int), .pointer (some ⟨G4, 0, none⟩), .pointer (some ⟨g1, 0, none⟩), .agg (vf F), .bool true, .bool false, .bool false, .pointer (some ⟨g1, 64, none⟩), .slice (some ⟨b, o, none⟩) L.length c, .int .i64 (L.length : Int), .bool (decide (4096 < (L.length : Int))), .bool (decide (4096 < (L.length : Int))), .pointer (some ⟨g1, 64, none⟩), .slice (some ⟨b, o, none⟩) L.length c, .int .i64 (L.length : Int), .int .i64 (k : Int), .bool true, .int .i64 (k : Int), .pointer (some ⟨b, o + k * 6, none⟩), .agg #[.int .i64 yr, .int .i64 yn, .int .i64 yt, .string yd, .int .i64 yf, .string ytx], .agg #[.int .i64 yr, .int .i64 yn, .int .i64 yt, .string yd, .int .i64 yf, .string ytx], .bool true, .bool false, .bool false, .pointer (some ⟨g1, 0, none⟩), .agg (vf F), .pointer (some ⟨G4, 0, none⟩), .agg #[.int .i64 yr, .int .i64 yn], .bool false, .bool true, .bool true, .bool true, undef, undef, undef, undef, undef, undef, undef, undef, undef, undef, undef, undef, undef, .bool true, u49], defers := [] } U2 := by
                refine hK2 _ _ ?_
                clear hK2 keep m0 m1 m2
                go_wp2
                go_ret
                exact ⟨rfl, thenBelow B2.out BU.out⟩
              exact wpAnyH_done (by kernel_rfl) (Eq.mp (by kernel_rfl) KE) _
            | true =>
              rw [hh] at HS
              have NA : Hid (∀ i (h : i < L.length), i < k + 1 → chk (putE L[i]) = 0 ∧ hasB F L[i].rep L[i].n = true) := Lib.hid fun i h hi => by
                rcases Nat.lt_or_ge i k with h3 | h3
                · exact HA.out i h h3
                · obtain rfl : i = k := by omega
                  rw [YC.out]; exact ⟨hx, hh⟩
              clear hx hh
              by_cases hk0 : k = 0
              · have GK : Hid (decide ((k : Int) > 0) = false) := Lib.hid (decide_eq_false (by omega))
                have NO : Hid (∀ i (h : i + 1 < L.length), i + 1 < k + 1 → ltW (L[i]'(by omega)) L[i + 1] = true) := Lib.hid fun i h hi => by omega
                refine rg_calm (by kernel_rfl) rfl (S := fun U => Sx U g1 F (.slice (some ⟨b, o, none⟩) L.length c) ∧ U.rangeAt G4 0 (Wr.cells ⟨yr, yn, yt, yd, yf, ytx⟩) ∧ WrsAt U (some ⟨b, o, none⟩) L ∧ Below w2.heap.size w2 U) ?_
                have m0 := M0.out
                have keep : ∀ U U' : World, Below U.heap.size U U' → Sx U g1 F (.slice (some ⟨b, o, none⟩) L.length c) ∧ U.rangeAt G4 0 (Wr.cells ⟨yr, yn, yt, yd, yf, ytx⟩) ∧ WrsAt U (some ⟨b, o, none⟩) L ∧ Below w2.heap.size w2 U → Sx U' g1 F (.slice (some ⟨b, o, none⟩) L.length c) ∧ U'.rangeAt G4 0 (Wr.cells ⟨yr, yn, yt, yd, yf, ytx⟩) ∧ WrsAt U' (some ⟨b, o, none⟩) L ∧ Below w2.heap.size w2 U' := fun U U' hb h => ⟨h.1.later hb, range_below h.2.1 hb, h.2.2.1.below hb, thenBelow h.2.2.2 hb⟩
                refine rgd_pureS 0 (some 23) rfl rfl (.agg #[.int .i64 yr, .int .i64 yn, .int .i64 yt, .string yd, .int .i64 yf, .string ytx]) (by kernel_rfl) (by kernel_rfl) (by kernel_rfl) (fun _ _ _ _ h => h) (by kernel_rfl) (fun U hU => exec_gload 39 _ rfl G4 0 (by kernel_rfl) _ hU.2.1 Tryz.underlying39 rfl (sizeWr ⟨yr, yn, yt, yd, yf, ytx⟩)) m0 ?_
                refine rgd_call 1 (some 24) (by kernel_rfl) rfl rfl (by kernel_rfl) 42 (#[.agg #[.int .i64 yr, .int .i64 yn, .int .i64 yt, .string yd, .int .i64 yf, .string ytx]]) (by kernel_rfl) (MW.out _ m0.2.2.2) ?_
                rintro _ U1 ⟨rfl, bU1⟩
                have m1 := keep _ _ bU1 m0
                refine ⟨_, rfl, m1, ?_⟩
                refine rgd_pure 2 (some 25) rfl rfl (.bool false) (by kernel_rfl) (by kernel_rfl) (by kernel_rfl) (fun _ _ _ _ h => h) (by kernel_rfl) (fun w => by kernel_rfl) m1 ?_
                refine rgd_pure 3 (some 26) rfl rfl (.bool false) (by kernel_rfl) (by kernel_rfl) (by kernel_rfl) (fun _ _ _ _ h => h) (by kernel_rfl) (fun w => by kernel_rfl) m1 ?_
                refine rgd_pure 4 (some 27) rfl rfl (.pointer (some ⟨g1, 0, none⟩)) (by kernel_rfl) (by kernel_rfl) (by kernel_rfl) (fun _ _ _ _ h => h) (by kernel_rfl) (fun w => by kernel_rfl) m1 ?_
                refine rgd_pureS 5 (some 28) rfl rfl (.agg (vf F)) (by kernel_rfl) (by kernel_rfl) (by kernel_rfl) (fun _ _ _ _ h => h) (by kernel_rfl) (fun U hU => exec_gload 23 _ rfl g1 0 (by kernel_rfl) _ hU.1.vec Tryz.underlying23 rfl (sizeVcl F)) m1 ?_
                refine rgd_pure 6 (some 29) rfl rfl (.pointer (some ⟨G4, 0, none⟩)) (by kernel_rfl) (by kernel_rfl) (by kernel_rfl) (fun _ _ _ _ h => h) (by kernel_rfl) (fun w => by kernel_rfl) m1 ?_
                refine rgd_pureS 7 (some 30) rfl rfl (.agg #[.int .i64 yr, .int .i64 yn]) (by kernel_rfl) (by kernel_rfl) (by kernel_rfl) (fun _ _ _ _ h => h) (by kernel_rfl) (fun U hU => exec_gload 37 _ rfl G4 0 (by kernel_rfl) _ (wr_dot hU.2.1) Tryz.underlying37 rfl (SZD yr yn)) m1 ?_
                refine rgd_call 8 (some 31) (by kernel_rfl) rfl rfl (by kernel_rfl) 43 (#[.agg (vf F), .agg (dcs yr yn)]) (by kernel_rfl) (HS.out _) ?_
                rintro _ U2 ⟨rfl, bU2⟩
                have m2 := keep _ _ bU2 m1
                refine ⟨_, rfl, m2, ?_⟩
                refine rgd_pure 9 (some 32) rfl rfl (.bool false) (by kernel_rfl) (by kernel_rfl) (by kernel_rfl) (fun _ _ _ _ h => h) (by kernel_rfl) (fun w => by kernel_rfl) m2 ?_
                refine rgd_pure 10 (some 33) rfl rfl (.bool false) (by kernel_rfl) (by kernel_rfl) (by kernel_rfl) (fun _ _ _ _ h => h) (by kernel_rfl) (fun w => by kernel_rfl) m2 ?_
                refine rgd_pure 11 (some 34) rfl rfl (.bool false) (by kernel_rfl) (by kernel_rfl) (by kernel_rfl) (fun _ _ _ _ h => h) (by kernel_rfl) (fun w => by kernel_rfl) m2 ?_
                refine rgd_pure 12 (some 35) rfl rfl (.int .i64 (k : Int)) (by kernel_rfl) (by kernel_rfl) (by kernel_rfl) (fun _ _ _ _ h => h) (by kernel_rfl) (fun w => by kernel_rfl) m2 ?_
                refine rgd_pure 13 (some 36) rfl rfl (.bool false) (by kernel_rfl) (by kernel_rfl) (by kernel_rfl) (fun _ _ _ _ h => h) (by kernel_rfl) (exec_gtrB _ _ _ _ rfl (k : Int) 0 false GK.out (by kernel_rfl) (by kernel_rfl)) m2 ?_
                refine rgd_pure 14 (some 37) rfl rfl (.bool false) (by kernel_rfl) (by kernel_rfl) (by kernel_rfl) (fun _ _ _ _ h => h) (by kernel_rfl) (fun w => by kernel_rfl) m2 ?_
                refine rgd_skip 15 (some 38) rfl rfl (by kernel_rfl) (by kernel_rfl) (by kernel_rfl) (fun _ _ _ _ h => h) (by kernel_rfl) m2 ?_
                refine rgd_skip 16 (some 39) rfl rfl (by kernel_rfl) (by kernel_rfl) (by kernel_rfl) (fun _ _ _ _ h => h) (by kernel_rfl) m2 ?_
                refine rgd_skip 17 (some 40) rfl rfl (by kernel_rfl) (by kernel_rfl) (by kernel_rfl) (fun _ _ _ _ h => h) (by kernel_rfl) m2 ?_
                refine rgd_skip 18 (some 41) rfl rfl (by kernel_rfl) (by kernel_rfl) (by kernel_rfl) (fun _ _ _ _ h => h) (by kernel_rfl) m2 ?_
                refine rgd_skip 19 (some 42) rfl rfl (by kernel_rfl) (by kernel_rfl) (by kernel_rfl) (fun _ _ _ _ h => h) (by kernel_rfl) m2 ?_
                refine rgd_skip 20 (some 43) rfl rfl (by kernel_rfl) (by kernel_rfl) (by kernel_rfl) (fun _ _ _ _ h => h) (by kernel_rfl) m2 ?_
                refine rgd_skip 21 (some 44) rfl rfl (by kernel_rfl) (by kernel_rfl) (by kernel_rfl) (fun _ _ _ _ h => h) (by kernel_rfl) m2 ?_
                refine rgd_skip 22 (some 45) rfl rfl (by kernel_rfl) (by kernel_rfl) (by kernel_rfl) (fun _ _ _ _ h => h) (by kernel_rfl) m2 ?_
                refine rgd_skip 23 (some 46) rfl rfl (by kernel_rfl) (by kernel_rfl) (by kernel_rfl) (fun _ _ _ _ h => h) (by kernel_rfl) m2 ?_
                refine rgd_pure 24 (some 47) rfl rfl (.bool false) (by kernel_rfl) (by kernel_rfl) (by kernel_rfl) (fun _ _ _ _ h => h) (by kernel_rfl) (fun w => by kernel_rfl) m2 ?_
                refine rgd_pure 25 (some 48) rfl rfl (.bool false) (by kernel_rfl) (by kernel_rfl) (by kernel_rfl) (fun _ _ _ _ h => h) (by kernel_rfl) (fun w => by kernel_rfl) m2 ?_
                have BU := Lib.hid m2.2.2.2
                have KE : K2 { tmps := #[.agg (scs F (.slice (some ⟨b, o, none⟩) L.length c)), .pointer (some ⟨g1, 0, none⟩), u2, .int .i64 (k : Int), .pointer (some ⟨G4, 0, none⟩), .pointer (some ⟨g1, 0, none⟩), .agg (vf F), .bool true, .bool false, .bool false, .pointer (some ⟨g1, 64, none⟩), .slice (some ⟨b, o, none⟩) L.length c, .int .i64 (L.length : Int), .bool (decide (4096 < (L.length : Int))), .bool (decide (4096 < (L.length : Int))), .pointer (some ⟨g1, 64, none⟩), .slice (some ⟨b, o, none⟩) L.length c, .int .i64 (L.length : Int), .int .i64 (k : Int), .bool true, .int .i64 (k : Int), .pointer (some ⟨b, o + k * 6, none⟩), .agg #[.int .i64 yr, .int .i64 yn, .int .i64 yt, .string yd, .int .i64 yf, .string ytx], .agg #[.int .i64 yr, .int .i64 yn, .int .i64 yt, .string yd, .int .i64 yf, .string ytx], .bool true, .bool false, .bool false, .pointer (some ⟨g1, 0, none⟩), .agg (vf F), .pointer (some ⟨G4, 0, none⟩), .agg #[.int .i64 yr, .int .i64 yn], .bool true, .bool false, .bool false, .bool false, .int .i64 (k : Int), .bool false, .bool false, undef, undef, undef, undef, undef, undef, undef, undef, undef, .bool false, .bool false, u49], defers := [] } U2 := by
                  refine hK2 _ _ ?_
                  clear hK2 keep m0 m1 m2
                  go_wp2
                  go_roundw
                  case rel => exact ⟨k + 1, by omega, by go_num, NA.out, NO.out, BU.out⟩
                  case measure => simp [RowKit.intOf]; omega
                exact wpAnyH_done (by kernel_rfl) (Eq.mp (by kernel_rfl) KE) _
              · have GK : Hid (decide ((k : Int) > 0) = true) := Lib.hid (decide_eq_true (by omega))
                obtain ⟨j, hj⟩ : ∃ j : Nat, (k : Int) - 1 = j := ⟨k - 1, by omega⟩
                have SB : Hid (IntKind.i64.wrap ((k : Int) - 1) = (j : Int)) := Lib.hid (by rw [IntWalk.i64_in _ (by omega)]; omega)
                have hkj : k = j + 1 := by omega
                have hjl : j < L.length := by omega
                obtain ⟨z, hz⟩ : ∃ z, L[j] = z := ⟨_, rfl⟩
                have ZC := Lib.hid hz
                have ZR : Hid (∀ V : World, WrsAt V (some ⟨b, o, none⟩) L → V.rangeAt b (o + j * 6) z.cells) := Lib.hid fun V hV => by
                  obtain ⟨b9, o9, e9, _, h9⟩ := hV.at hjl
                  injection e9 with e9
                  injection e9 with e1 e2
                  subst e1 e2
                  rw [← hz]; exact h9
                clear hz
                obtain ⟨Z, hZ⟩ : ∃ Z, cmpW z ⟨yr, yn, yt, yd, yf, ytx⟩ = Z := ⟨_, rfl⟩
                have CM : Hid (∀ U, Calls Tryz.prog 44 #[.agg z.cells.toArray, .agg #[.int .i64 yr, .int .i64 yn, .int .i64 yt, .string yd, .int .i64 yf, .string ytx]] U fun e w' => e = .returned (.int .i64 Z) ∧ Below U.heap.size U w') := Lib.hid fun U => by rw [← hZ]; exact docCompare_is z ⟨yr, yn, yt, yd, yf, ytx⟩ U
                have LZ : ltW z ⟨yr, yn, yt, yd, yf, ytx⟩ = decide (Z < 0) := by unfold ltW; rw [hZ]
                clear hZ
                by_cases hz0 : Z < 0
                · have GZ : Hid (decide (Z ≥ 0) = false) := Lib.hid (decide_eq_false (by omega))
                  have ha : ltW z ⟨yr, yn, yt, yd, yf, ytx⟩ = true := by rw [LZ]; exact decide_eq_true hz0
                  have NO : Hid (∀ i (h : i + 1 < L.length), i + 1 < k + 1 → ltW (L[i]'(by omega)) L[i + 1] = true) := Lib.hid fun i h hi => by
                    rcases Nat.lt_or_ge (i + 1) k with h3 | h3
                    · exact HO.out i h h3
                    · subst hkj
                      obtain rfl : i = j := by omega
                      rw [ZC.out, YC.out]; exact ha
                  clear ha LZ hz0
                  refine rg_calm (by kernel_rfl) rfl (S := fun U => Sx U g1 F (.slice (some ⟨b, o, none⟩) L.length c) ∧ U.rangeAt G4 0 (Wr.cells ⟨yr, yn, yt, yd, yf, ytx⟩) ∧ WrsAt U (some ⟨b, o, none⟩) L ∧ Below w2.heap.size w2 U) ?_
                  have m0 := M0.out
                  have keep : ∀ U U' : World, Below U.heap.size U U' → Sx U g1 F (.slice (some ⟨b, o, none⟩) L.length c) ∧ U.rangeAt G4 0 (Wr.cells ⟨yr, yn, yt, yd, yf, ytx⟩) ∧ WrsAt U (some ⟨b, o, none⟩) L ∧ Below w2.heap.size w2 U → Sx U' g1 F (.slice (some ⟨b, o, none⟩) L.length c) ∧ U'.rangeAt G4 0 (Wr.cells ⟨yr, yn, yt, yd, yf, ytx⟩) ∧ WrsAt U' (some ⟨b, o, none⟩) L ∧ Below w2.heap.size w2 U' := fun U U' hb h => ⟨h.1.later hb, range_below h.2.1 hb, h.2.2.1.below hb, thenBelow h.2.2.2 hb⟩
                  refine rgd_pureS 0 (some 23) rfl rfl (.agg #[.int .i64 yr, .int .i64 yn, .int .i64 yt, .string yd, .int .i64 yf, .string ytx]) (by kernel_rfl) (by kernel_rfl) (by kernel_rfl) (fun _ _ _ _ h => h) (by kernel_rfl) (fun U hU => exec_gload 39 _ rfl G4 0 (by kernel_rfl) _ hU.2.1 Tryz.underlying39 rfl (sizeWr ⟨yr, yn, yt, yd, yf, ytx⟩)) m0 ?_
                  refine rgd_call 1 (some 24) (by kernel_rfl) rfl rfl (by kernel_rfl) 42 (#[.agg #[.int .i64 yr, .int .i64 yn, .int .i64 yt, .string yd, .int .i64 yf, .string ytx]]) (by kernel_rfl) (MW.out _ m0.2.2.2) ?_
                  rintro _ U1 ⟨rfl, bU1⟩
                  have m1 := keep _ _ bU1 m0
                  refine ⟨_, rfl, m1, ?_⟩
                  refine rgd_pure 2 (some 25) rfl rfl (.bool false) (by kernel_rfl) (by kernel_rfl) (by kernel_rfl) (fun _ _ _ _ h => h) (by kernel_rfl) (fun w => by kernel_rfl) m1 ?_
                  refine rgd_pure 3 (some 26) rfl rfl (.bool false) (by kernel_rfl) (by kernel_rfl) (by kernel_rfl) (fun _ _ _ _ h => h) (by kernel_rfl) (fun w => by kernel_rfl) m1 ?_
                  refine rgd_pure 4 (some 27) rfl rfl (.pointer (some ⟨g1, 0, none⟩)) (by kernel_rfl) (by kernel_rfl) (by kernel_rfl) (fun _ _ _ _ h => h) (by kernel_rfl) (fun w => by kernel_rfl) m1 ?_
                  refine rgd_pureS 5 (some 28) rfl rfl (.agg (vf F)) (by kernel_rfl) (by kernel_rfl) (by kernel_rfl) (fun _ _ _ _ h => h) (by kernel_rfl) (fun U hU => exec_gload 23 _ rfl g1 0 (by kernel_rfl) _ hU.1.vec Tryz.underlying23 rfl (sizeVcl F)) m1 ?_
                  refine rgd_pure 6 (some 29) rfl rfl (.pointer (some ⟨G4, 0, none⟩)) (by kernel_rfl) (by kernel_rfl) (by kernel_rfl) (fun _ _ _ _ h => h) (by kernel_rfl) (fun w => by kernel_rfl) m1 ?_
                  refine rgd_pureS 7 (some 30) rfl rfl (.agg #[.int .i64 yr, .int .i64 yn]) (by kernel_rfl) (by kernel_rfl) (by kernel_rfl) (fun _ _ _ _ h => h) (by kernel_rfl) (fun U hU => exec_gload 37 _ rfl G4 0 (by kernel_rfl) _ (wr_dot hU.2.1) Tryz.underlying37 rfl (SZD yr yn)) m1 ?_
                  refine rgd_call 8 (some 31) (by kernel_rfl) rfl rfl (by kernel_rfl) 43 (#[.agg (vf F), .agg (dcs yr yn)]) (by kernel_rfl) (HS.out _) ?_
                  rintro _ U2 ⟨rfl, bU2⟩
                  have m2 := keep _ _ bU2 m1
                  refine ⟨_, rfl, m2, ?_⟩
                  refine rgd_pure 9 (some 32) rfl rfl (.bool false) (by kernel_rfl) (by kernel_rfl) (by kernel_rfl) (fun _ _ _ _ h => h) (by kernel_rfl) (fun w => by kernel_rfl) m2 ?_
                  refine rgd_pure 10 (some 33) rfl rfl (.bool false) (by kernel_rfl) (by kernel_rfl) (by kernel_rfl) (fun _ _ _ _ h => h) (by kernel_rfl) (fun w => by kernel_rfl) m2 ?_
                  refine rgd_pure 11 (some 34) rfl rfl (.bool false) (by kernel_rfl) (by kernel_rfl) (by kernel_rfl) (fun _ _ _ _ h => h) (by kernel_rfl) (fun w => by kernel_rfl) m2 ?_
                  refine rgd_pure 12 (some 35) rfl rfl (.int .i64 (k : Int)) (by kernel_rfl) (by kernel_rfl) (by kernel_rfl) (fun _ _ _ _ h => h) (by kernel_rfl) (fun w => by kernel_rfl) m2 ?_
                  refine rgd_pure 13 (some 36) rfl rfl (.bool true) (by kernel_rfl) (by kernel_rfl) (by kernel_rfl) (fun _ _ _ _ h => h) (by kernel_rfl) (exec_gtrB _ _ _ _ rfl (k : Int) 0 true GK.out (by kernel_rfl) (by kernel_rfl)) m2 ?_
                  refine rgd_pure 14 (some 37) rfl rfl (.bool true) (by kernel_rfl) (by kernel_rfl) (by kernel_rfl) (fun _ _ _ _ h => h) (by kernel_rfl) (fun w => by kernel_rfl) m2 ?_
                  refine rgd_pure 15 (some 38) rfl rfl (.pointer (some ⟨g1, 64, none⟩)) (by kernel_rfl) (by kernel_rfl) (by kernel_rfl) (fun _ _ _ _ h => h) (by kernel_rfl) (fun w => by kernel_rfl) m2 ?_
                  refine rgd_pureS 16 (some 39) rfl rfl (.slice (some ⟨b, o, none⟩) L.length c) (by kernel_rfl) (by kernel_rfl) (by kernel_rfl) (fun _ _ _ _ h => h) (by kernel_rfl) (fun U hU => exec_load1 _ _ rfl Tryz.underlying24 rfl ⟨g1, 64, none⟩ _ (by kernel_rfl) hU.1.slot) m2 ?_
                  refine rgd_pure 17 (some 40) rfl rfl (.int .i64 (k : Int)) (by kernel_rfl) (by kernel_rfl) (by kernel_rfl) (fun _ _ _ _ h => h) (by kernel_rfl) (fun w => by kernel_rfl) m2 ?_
                  refine rgd_pure 18 (some 41) rfl rfl (.int .i64 (j : Int)) (by kernel_rfl) (by kernel_rfl) (by kernel_rfl) (fun _ _ _ _ h => h) (by kernel_rfl) (exec_subI _ _ _ _ rfl (k : Int) 1 (j : Int) SB.out (by kernel_rfl) (by kernel_rfl)) m2 ?_
                  refine rgd_pure 19 (some 42) rfl rfl (.pointer (some ⟨b, o + j * 6, none⟩)) (by kernel_rfl) (by kernel_rfl) (by kernel_rfl) (fun _ _ _ _ h => h) (by kernel_rfl) (exec_idxW _ _ rfl b o L.length c j (by kernel_rfl) (by kernel_rfl) hjl) m2 ?_
                  refine rgd_pureS 20 (some 43) rfl rfl (.agg z.cells.toArray) (by kernel_rfl) (by kernel_rfl) (by kernel_rfl) (fun _ _ _ _ h => h) (by kernel_rfl) (fun U hU => exec_gload 39 _ rfl b (o + j * 6) (by kernel_rfl) _ (ZR.out U hU.2.2.1) Tryz.underlying39 rfl (sizeWr z)) m2 ?_
                  refine rgd_pureS 21 (some 44) rfl rfl (.agg #[.int .i64 yr, .int .i64 yn, .int .i64 yt, .string yd, .int .i64 yf, .string ytx]) (by kernel_rfl) (by kernel_rfl) (by kernel_rfl) (fun _ _ _ _ h => h) (by kernel_rfl) (fun U hU => exec_gload 39 _ rfl G4 0 (by kernel_rfl) _ hU.2.1 Tryz.underlying39 rfl (sizeWr ⟨yr, yn, yt, yd, yf, ytx⟩)) m2 ?_
                  refine rgd_call 22 (some 45) (by kernel_rfl) rfl rfl (by kernel_rfl) 44 (#[.agg z.cells.toArray, .agg #[.int .i64 yr, .int .i64 yn, .int .i64 yt, .string yd, .int .i64 yf, .string ytx]]) (by kernel_rfl) (CM.out _) ?_
                  rintro _ U3 ⟨rfl, bU3⟩
                  have m3 := keep _ _ bU3 m2
                  refine ⟨_, rfl, m3, ?_⟩
                  refine rgd_pure 23 (some 46) rfl rfl (.bool false) (by kernel_rfl) (by kernel_rfl) (by kernel_rfl) (fun _ _ _ _ h => h) (by kernel_rfl) (exec_geqB _ _ _ _ rfl Z 0 false GZ.out (by kernel_rfl) (by kernel_rfl)) m3 ?_
                  refine rgd_pure 24 (some 47) rfl rfl (.bool false) (by kernel_rfl) (by kernel_rfl) (by kernel_rfl) (fun _ _ _ _ h => h) (by kernel_rfl) (fun w => by kernel_rfl) m3 ?_
                  refine rgd_pure 25 (some 48) rfl rfl (.bool false) (by kernel_rfl) (by kernel_rfl) (by kernel_rfl) (fun _ _ _ _ h => h) (by kernel_rfl) (fun w => by kernel_rfl) m3 ?_
                  have BU := Lib.hid m3.2.2.2
                  have KE : K2 { tmps := #[.agg (scs F (.slice (some ⟨b, o, none⟩) L.length c)), .pointer (some ⟨g1, 0, none⟩), u2, .int .i64 (k : Int), .pointer (some ⟨G4, 0, none⟩), .pointer (some ⟨g1, 0, none⟩), .agg (vf F), .bool true, .bool false, .bool false, .pointer (some ⟨g1, 64, none⟩), .slice (some ⟨b, o, none⟩) L.length c, .int .i64 (L.length : Int), .bool (decide (4096 < (L.length : Int))), .bool (decide (4096 < (L.length : Int))), .pointer (some ⟨g1, 64, none⟩), .slice (some ⟨b, o, none⟩) L.length c, .int .i64 (L.length : Int), .int .i64 (k : Int), .bool true, .int .i64 (k : Int), .pointer (some ⟨b, o + k * 6, none⟩), .agg #[.int .i64 yr, .int .i64 yn, .int .i64 yt, .string yd, .int .i64 yf, .string ytx], .agg #[.int .i64 yr, .int .i64 yn, .int .i64 yt, .string yd, .int .i64 yf, .string ytx], .bool true, .bool false, .bool false, .pointer (some ⟨g1, 0, none⟩), .agg (vf F), .pointer (some ⟨G4, 0, none⟩), .agg #[.int .i64 yr, .int .i64 yn], .bool true, .bool false, .bool false, .bool false, .int .i64 (k : Int), .bool true, .bool true, .pointer (some ⟨g1, 64, none⟩), .slice (some ⟨b, o, none⟩) L.length c, .int .i64 (k : Int), .int .i64 (j : Int), .pointer (some ⟨b, o + j * 6, none⟩), .agg z.cells.toArray, .agg #[.int .i64 yr, .int .i64 yn, .int .i64 yt, .string yd, .int .i64 yf, .string ytx], .int .i64 Z, .bool false, .bool false, .bool false, u49], defers := [] } U3 := by
                    refine hK2 _ _ ?_
                    clear hK2 keep m0 m1 m2 m3
                    go_wp2
                    go_roundw
                    case rel => exact ⟨k + 1, by omega, by go_num, NA.out, NO.out, BU.out⟩
                    case measure => simp [RowKit.intOf]; omega
                  exact wpAnyH_done (by kernel_rfl) (Eq.mp (by kernel_rfl) KE) _
                · have GZ : Hid (decide (Z ≥ 0) = true) := Lib.hid (decide_eq_true (by omega))
                  have ha : ltW z ⟨yr, yn, yt, yd, yf, ytx⟩ = false := by rw [LZ]; exact decide_eq_false hz0
                  have hf : C = false := by
                    rw [← HC.out]
                    refine can_no fun h => ?_
                    have := adj_ord h.ord j (by omega)
                    subst hkj
                    rw [ZC.out, YC.out, ha] at this; cases this
                  subst hf
                  clear ha LZ hz0
                  refine rg_calm (by kernel_rfl) rfl (S := fun U => Sx U g1 F (.slice (some ⟨b, o, none⟩) L.length c) ∧ U.rangeAt G4 0 (Wr.cells ⟨yr, yn, yt, yd, yf, ytx⟩) ∧ WrsAt U (some ⟨b, o, none⟩) L ∧ Below w2.heap.size w2 U) ?_
                  have m0 := M0.out
                  have keep : ∀ U U' : World, Below U.heap.size U U' → Sx U g1 F (.slice (some ⟨b, o, none⟩) L.length c) ∧ U.rangeAt G4 0 (Wr.cells ⟨yr, yn, yt, yd, yf, ytx⟩) ∧ WrsAt U (some ⟨b, o, none⟩) L ∧ Below w2.heap.size w2 U → Sx U' g1 F (.slice (some ⟨b, o, none⟩) L.length c) ∧ U'.rangeAt G4 0 (Wr.cells ⟨yr, yn, yt, yd, yf, ytx⟩) ∧ WrsAt U' (some ⟨b, o, none⟩) L ∧ Below w2.heap.size w2 U' := fun U U' hb h => ⟨h.1.later hb, range_below h.2.1 hb, h.2.2.1.below hb, thenBelow h.2.2.2 hb⟩
                  refine rgd_pureS 0 (some 23) rfl rfl (.agg #[.int .i64 yr, .int .i64 yn, .int .i64 yt, .string yd, .int .i64 yf, .string ytx]) (by kernel_rfl) (by kernel_rfl) (by kernel_rfl) (fun _ _ _ _ h => h) (by kernel_rfl) (fun U hU => exec_gload 39 _ rfl G4 0 (by kernel_rfl) _ hU.2.1 Tryz.underlying39 rfl (sizeWr ⟨yr, yn, yt, yd, yf, ytx⟩)) m0 ?_
                  refine rgd_call 1 (some 24) (by kernel_rfl) rfl rfl (by kernel_rfl) 42 (#[.agg #[.int .i64 yr, .int .i64 yn, .int .i64 yt, .string yd, .int .i64 yf, .string ytx]]) (by kernel_rfl) (MW.out _ m0.2.2.2) ?_
                  rintro _ U1 ⟨rfl, bU1⟩
                  have m1 := keep _ _ bU1 m0
                  refine ⟨_, rfl, m1, ?_⟩
                  refine rgd_pure 2 (some 25) rfl rfl (.bool false) (by kernel_rfl) (by kernel_rfl) (by kernel_rfl) (fun _ _ _ _ h => h) (by kernel_rfl) (fun w => by kernel_rfl) m1 ?_
                  refine rgd_pure 3 (some 26) rfl rfl (.bool false) (by kernel_rfl) (by kernel_rfl) (by kernel_rfl) (fun _ _ _ _ h => h) (by kernel_rfl) (fun w => by kernel_rfl) m1 ?_
                  refine rgd_pure 4 (some 27) rfl rfl (.pointer (some ⟨g1, 0, none⟩)) (by kernel_rfl) (by kernel_rfl) (by kernel_rfl) (fun _ _ _ _ h => h) (by kernel_rfl) (fun w => by kernel_rfl) m1 ?_
                  refine rgd_pureS 5 (some 28) rfl rfl (.agg (vf F)) (by kernel_rfl) (by kernel_rfl) (by kernel_rfl) (fun _ _ _ _ h => h) (by kernel_rfl) (fun U hU => exec_gload 23 _ rfl g1 0 (by kernel_rfl) _ hU.1.vec Tryz.underlying23 rfl (sizeVcl F)) m1 ?_
                  refine rgd_pure 6 (some 29) rfl rfl (.pointer (some ⟨G4, 0, none⟩)) (by kernel_rfl) (by kernel_rfl) (by kernel_rfl) (fun _ _ _ _ h => h) (by kernel_rfl) (fun w => by kernel_rfl) m1 ?_
                  refine rgd_pureS 7 (some 30) rfl rfl (.agg #[.int .i64 yr, .int .i64 yn]) (by kernel_rfl) (by kernel_rfl) (by kernel_rfl) (fun _ _ _ _ h => h) (by kernel_rfl) (fun U hU => exec_gload 37 _ rfl G4 0 (by kernel_rfl) _ (wr_dot hU.2.1) Tryz.underlying37 rfl (SZD yr yn)) m1 ?_
                  refine rgd_call 8 (some 31) (by kernel_rfl) rfl rfl (by kernel_rfl) 43 (#[.agg (vf F), .agg (dcs yr yn)]) (by kernel_rfl) (HS.out _) ?_
                  rintro _ U2 ⟨rfl, bU2⟩
                  have m2 := keep _ _ bU2 m1
                  refine ⟨_, rfl, m2, ?_⟩
                  refine rgd_pure 9 (some 32) rfl rfl (.bool false) (by kernel_rfl) (by kernel_rfl) (by kernel_rfl) (fun _ _ _ _ h => h) (by kernel_rfl) (fun w => by kernel_rfl) m2 ?_
                  refine rgd_pure 10 (some 33) rfl rfl (.bool false) (by kernel_rfl) (by kernel_rfl) (by kernel_rfl) (fun _ _ _ _ h => h) (by kernel_rfl) (fun w => by kernel_rfl) m2 ?_
                  refine rgd_pure 11 (some 34) rfl rfl (.bool false) (by kernel_rfl) (by kernel_rfl) (by kernel_rfl) (fun _ _ _ _ h => h) (by kernel_rfl) (fun w => by kernel_rfl) m2 ?_
                  refine rgd_pure 12 (some 35) rfl rfl (.int .i64 (k : Int)) (by kernel_rfl) (by kernel_rfl) (by kernel_rfl) (fun _ _ _ _ h => h) (by kernel_rfl) (fun w => by kernel_rfl) m2 ?_
                  refine rgd_pure 13 (some 36) rfl rfl (.bool true) (by kernel_rfl) (by kernel_rfl) (by kernel_rfl) (fun _ _ _ _ h => h) (by kernel_rfl) (exec_gtrB _ _ _ _ rfl (k : Int) 0 true GK.out (by kernel_rfl) (by kernel_rfl)) m2 ?_
                  refine rgd_pure 14 (some 37) rfl rfl (.bool true) (by kernel_rfl) (by kernel_rfl) (by kernel_rfl) (fun _ _ _ _ h => h) (by kernel_rfl) (fun w => by kernel_rfl) m2 ?_
                  refine rgd_pure 15 (some 38) rfl rfl (.pointer (some ⟨g1, 64, none⟩)) (by kernel_rfl) (by kernel_rfl) (by kernel_rfl) (fun _ _ _ _ h => h) (by kernel_rfl) (fun w => by kernel_rfl) m2 ?_
                  refine rgd_pureS 16 (some 39) rfl rfl (.slice (some ⟨b, o, none⟩) L.length c) (by kernel_rfl) (by kernel_rfl) (by kernel_rfl) (fun _ _ _ _ h => h) (by kernel_rfl) (fun U hU => exec_load1 _ _ rfl Tryz.underlying24 rfl ⟨g1, 64, none⟩ _ (by kernel_rfl) hU.1.slot) m2 ?_
                  refine rgd_pure 17 (some 40) rfl rfl (.int .i64 (k : Int)) (by kernel_rfl) (by kernel_rfl) (by kernel_rfl) (fun _ _ _ _ h => h) (by kernel_rfl) (fun w => by kernel_rfl) m2 ?_
                  refine rgd_pure 18 (some 41) rfl rfl (.int .i64 (j : Int)) (by kernel_rfl) (by kernel_rfl) (by kernel_rfl) (fun _ _ _ _ h => h) (by kernel_rfl) (exec_subI _ _ _ _ rfl (k : Int) 1 (j : Int) SB.out (by kernel_rfl) (by kernel_rfl)) m2 ?_
                  refine rgd_pure 19 (some 42) rfl rfl (.pointer (some ⟨b, o + j * 6, none⟩)) (by kernel_rfl) (by kernel_rfl) (by kernel_rfl) (fun _ _ _ _ h => h) (by kernel_rfl) (exec_idxW _ _ rfl b o L.length c j (by kernel_rfl) (by kernel_rfl) hjl) m2 ?_
                  refine rgd_pureS 20 (some 43) rfl rfl (.agg z.cells.toArray) (by kernel_rfl) (by kernel_rfl) (by kernel_rfl) (fun _ _ _ _ h => h) (by kernel_rfl) (fun U hU => exec_gload 39 _ rfl b (o + j * 6) (by kernel_rfl) _ (ZR.out U hU.2.2.1) Tryz.underlying39 rfl (sizeWr z)) m2 ?_
                  refine rgd_pureS 21 (some 44) rfl rfl (.agg #[.int .i64 yr, .int .i64 yn, .int .i64 yt, .string yd, .int .i64 yf, .string ytx]) (by kernel_rfl) (by kernel_rfl) (by kernel_rfl) (fun _ _ _ _ h => h) (by kernel_rfl) (fun U hU => exec_gload 39 _ rfl G4 0 (by kernel_rfl) _ hU.2.1 Tryz.underlying39 rfl (sizeWr ⟨yr, yn, yt, yd, yf, ytx⟩)) m2 ?_
                  refine rgd_call 22 (some 45) (by kernel_rfl) rfl rfl (by kernel_rfl) 44 (#[.agg z.cells.toArray, .agg #[.int .i64 yr, .int .i64 yn, .int .i64 yt, .string yd, .int .i64 yf, .string ytx]]) (by kernel_rfl) (CM.out _) ?_
                  rintro _ U3 ⟨rfl, bU3⟩
                  have m3 := keep _ _ bU3 m2
                  refine ⟨_, rfl, m3, ?_⟩
                  refine rgd_pure 23 (some 46) rfl rfl (.bool true) (by kernel_rfl) (by kernel_rfl) (by kernel_rfl) (fun _ _ _ _ h => h) (by kernel_rfl) (exec_geqB _ _ _ _ rfl Z 0 true GZ.out (by kernel_rfl) (by kernel_rfl)) m3 ?_
                  refine rgd_pure 24 (some 47) rfl rfl (.bool true) (by kernel_rfl) (by kernel_rfl) (by kernel_rfl) (fun _ _ _ _ h => h) (by kernel_rfl) (fun w => by kernel_rfl) m3 ?_
                  refine rgd_pure 25 (some 48) rfl rfl (.bool true) (by kernel_rfl) (by kernel_rfl) (by kernel_rfl) (fun _ _ _ _ h => h) (by kernel_rfl) (fun w => by kernel_rfl) m3 ?_
                  have BU := Lib.hid m3.2.2.2
                  have KE : K2 { tmps := #[.agg (scs F (.slice (some ⟨b, o, none⟩) L.length c)), .pointer (some ⟨g1, 0, none⟩), u2, .int .i64 (k : Int), .pointer (some ⟨G4, 0, none⟩), .pointer (some ⟨g1, 0, none⟩), .agg (vf F), .bool true, .bool false, .bool false, .pointer (some ⟨g1, 64, none⟩), .slice (some ⟨b, o, none⟩) L.length c, .int .i64 (L.length : Int), .bool (decide (4096 < (L.length : Int))), .bool (decide (4096 < (L.length : Int))), .pointer (some ⟨g1, 64, none⟩), .slice (some ⟨b, o, none⟩) L.length c, .int .i64 (L.length : Int), .int .i64 (k : Int), .bool true, .int .i64 (k : Int), .pointer (some ⟨b, o + k * 6, none⟩), .agg #[.int .i64 yr, .int .i64 yn, .int .i64 yt, .string yd, .int .i64 yf, .string ytx], .agg #[.int .i64 yr, .int .i64 yn, .int .i64 yt, .string yd, .int .i64 yf, .string ytx], .bool true, .bool false, .bool false, .pointer (some ⟨g1, 0, none⟩), .agg (vf F), .pointer (some ⟨G4, 0, none⟩), .agg #[.int .i64 yr, .int .i64 yn], .bool true, .bool false, .bool false, .bool false, .int .i64 (k : Int), .bool true, .bool true, .pointer (some ⟨g1, 64, none⟩), .slice (some ⟨b, o, none⟩) L.length c, .int .i64 (k : Int), .int .i64 (j : Int), .pointer (some ⟨b, o + j * 6, none⟩), .agg z.cells.toArray, .agg #[.int .i64 yr, .int .i64 yn, .int .i64 yt, .string yd, .int .i64 yf, .string ytx], .int .i64 Z, .bool true, .bool true, .bool true, u49], defers := [] } U3 := by
                    refine hK2 _ _ ?_
                    clear hK2 keep m0 m1 m2 m3
                    go_wp2
                    go_ret
                    exact ⟨rfl, thenBelow B2.out BU.out⟩
                  exact wpAnyH_done (by kernel_rfl) (Eq.mp (by kernel_rfl) KE) _
          · have MW : Hid (∀ V : World, Below w2.heap.size w2 V → Calls Tryz.prog 42 #[.agg #[.int .i64 yr, .int .i64 yn, .int .i64 yt, .string yd, .int .i64 yf, .string ytx]] V (RetBool V false)) := Lib.hid fun V hV => by
              have := mayWrite_is ⟨yr, yn, yt, yd, yf, ytx⟩ V (HT.out.below (thenBelow B2.out hV))
              rw [decide_eq_false hx] at this; exact this
            have hf : C = false := by
              rw [← HC.out]
              refine can_no fun h => ?_
              have := (h.fine _ (List.getElem_mem hkl)).1
              rw [YC.out] at this
              exact hx this
            subst hf
            clear hx
            refine rg_calm (by kernel_rfl) rfl (S := fun U => Sx U g1 F (.slice (some ⟨b, o, none⟩) L.length c) ∧ U.rangeAt G4 0 (Wr.cells ⟨yr, yn, yt, yd, yf, ytx⟩) ∧ WrsAt U (some ⟨b, o, none⟩) L ∧ Below w2.heap.size w2 U) ?_
            have m0 := M0.out
            have keep : ∀ U U' : World, Below U.heap.size U U' → Sx U g1 F (.slice (some ⟨b, o, none⟩) L.length c) ∧ U.rangeAt G4 0 (Wr.cells ⟨yr, yn, yt, yd, yf, ytx⟩) ∧ WrsAt U (some ⟨b, o, none⟩) L ∧ Below w2.heap.size w2 U → Sx U' g1 F (.slice (some ⟨b, o, none⟩) L.length c) ∧ U'.rangeAt G4 0 (Wr.cells ⟨yr, yn, yt, yd, yf, ytx⟩) ∧ WrsAt U' (some ⟨b, o, none⟩) L ∧ Below w2.heap.size w2 U' := fun U U' hb h => ⟨h.1.later hb, range_below h.2.1 hb, h.2.2.1.below hb, thenBelow h.2.2.2 hb⟩
            refine rgd_pureS 0 (some 23) rfl rfl (.agg #[.int .i64 yr, .int .i64 yn, .int .i64 yt, .string yd, .int .i64 yf, .string ytx]) (by kernel_rfl) (by kernel_rfl) (by kernel_rfl) (fun _ _ _ _ h => h) (by kernel_rfl) (fun U hU => exec_gload 39 _ rfl G4 0 (by kernel_rfl) _ hU.2.1 Tryz.underlying39 rfl (sizeWr ⟨yr, yn, yt, yd, yf, ytx⟩)) m0 ?_
            refine rgd_call 1 (some 24) (by kernel_rfl) rfl rfl (by kernel_rfl) 42 (#[.agg #[.int .i64 yr, .int .i64 yn, .int .i64 yt, .string yd, .int .i64 yf, .string ytx]]) (by kernel_rfl) (MW.out _ m0.2.2.2) ?_
            rintro _ U1 ⟨rfl, bU1⟩
            have m1 := keep _ _ bU1 m0
            refine ⟨_, rfl, m1, ?_⟩
            refine rgd_pure 2 (some 25) rfl rfl (.bool true) (by kernel_rfl) (by kernel_rfl) (by kernel_rfl) (fun _ _ _ _ h => h) (by kernel_rfl) (fun w => by kernel_rfl) m1 ?_
            refine rgd_pure 3 (some 26) rfl rfl (.bool true) (by kernel_rfl) (by kernel_rfl) (by kernel_rfl) (fun _ _ _ _ h => h) (by kernel_rfl) (fun w => by kernel_rfl) m1 ?_
            refine rgd_skip 4 (some 27) rfl rfl (by kernel_rfl) (by kernel_rfl) (by kernel_rfl) (fun _ _ _ _ h => h) (by kernel_rfl) m1 ?_
            refine rgd_skip 5 (some 28) rfl rfl (by kernel_rfl) (by kernel_rfl) (by kernel_rfl) (fun _ _ _ _ h => h) (by kernel_rfl) m1 ?_
            refine rgd_skip 6 (some 29) rfl rfl (by kernel_rfl) (by kernel_rfl) (by kernel_rfl) (fun _ _ _ _ h => h) (by kernel_rfl) m1 ?_
            refine rgd_skip 7 (some 30) rfl rfl (by kernel_rfl) (by kernel_rfl) (by kernel_rfl) (fun _ _ _ _ h => h) (by kernel_rfl) m1 ?_
            refine rgd_skip 8 (some 31) rfl rfl (by kernel_rfl) (by kernel_rfl) (by kernel_rfl) (fun _ _ _ _ h => h) (by kernel_rfl) m1 ?_
            refine rgd_skip 9 (some 32) rfl rfl (by kernel_rfl) (by kernel_rfl) (by kernel_rfl) (fun _ _ _ _ h => h) (by kernel_rfl) m1 ?_
            refine rgd_pure 10 (some 33) rfl rfl (.bool true) (by kernel_rfl) (by kernel_rfl) (by kernel_rfl) (fun _ _ _ _ h => h) (by kernel_rfl) (fun w => by kernel_rfl) m1 ?_
            refine rgd_pure 11 (some 34) rfl rfl (.bool true) (by kernel_rfl) (by kernel_rfl) (by kernel_rfl) (fun _ _ _ _ h => h) (by kernel_rfl) (fun w => by kernel_rfl) m1 ?_
            refine rgd_skip 12 (some 35) rfl rfl (by kernel_rfl) (by kernel_rfl) (by kernel_rfl) (fun _ _ _ _ h => h) (by kernel_rfl) m1 ?_
            refine rgd_skip 13 (some 36) rfl rfl (by kernel_rfl) (by kernel_rfl) (by kernel_rfl) (fun _ _ _ _ h => h) (by kernel_rfl) m1 ?_
            refine rgd_skip 14 (some 37) rfl rfl (by kernel_rfl) (by kernel_rfl) (by kernel_rfl) (fun _ _ _ _ h => h) (by kernel_rfl) m1 ?_
            refine rgd_skip 15 (some 38) rfl rfl (by kernel_rfl) (by kernel_rfl) (by kernel_rfl) (fun _ _ _ _ h => h) (by kernel_rfl) m1 ?_
            refine rgd_skip 16 (some 39) rfl rfl (by kernel_rfl) (by kernel_rfl) (by kernel_rfl) (fun _ _ _ _ h => h) (by kernel_rfl) m1 ?_
            refine rgd_skip 17 (some 40) rfl rfl (by kernel_rfl) (by kernel_rfl) (by kernel_rfl) (fun _ _ _ _ h => h) (by kernel_rfl) m1 ?_
            refine rgd_skip 18 (some 41) rfl rfl (by kernel_rfl) (by kernel_rfl) (by kernel_rfl) (fun _ _ _ _ h => h) (by kernel_rfl) m1 ?_
            refine rgd_skip 19 (some 42) rfl rfl (by kernel_rfl) (by kernel_rfl) (by kernel_rfl) (fun _ _ _ _ h => h) (by kernel_rfl) m1 ?_
            refine rgd_skip 20 (some 43) rfl rfl (by kernel_rfl) (by kernel_rfl) (by kernel_rfl) (fun _ _ _ _ h => h) (by kernel_rfl) m1 ?_
            refine rgd_skip 21 (some 44) rfl rfl (by kernel_rfl) (by kernel_rfl) (by kernel_rfl) (fun _ _ _ _ h => h) (by kernel_rfl) m1 ?_
            refine rgd_skip 22 (some 45) rfl rfl (by kernel_rfl) (by kernel_rfl) (by kernel_rfl) (fun _ _ _ _ h => h) (by kernel_rfl) m1 ?_
            refine rgd_skip 23 (some 46) rfl rfl (by kernel_rfl) (by kernel_rfl) (by kernel_rfl) (fun _ _ _ _ h => h) (by kernel_rfl) m1 ?_
            refine rgd_skip 24 (some 47) rfl rfl (by kernel_rfl) (by kernel_rfl) (by kernel_rfl) (fun _ _ _ _ h => h) (by kernel_rfl) m1 ?_
            refine rgd_pure 25 (some 48) rfl rfl (.bool true) (by kernel_rfl) (by kernel_rfl) (by kernel_rfl) (fun _ _ _ _ h => h) (by kernel_rfl) (fun w => by kernel_rfl) m1 ?_
            have BU := Lib.hid m1.2.2.2
            have KE : K2 { tmps := #[.agg (scs F (.slice (some ⟨b, o, none⟩) L.length c)), .pointer (some ⟨g1, 0, none⟩), u2, .int .i64 (k : Int), .pointer (some ⟨G4, 0, none⟩), .pointer (some ⟨g1, 0, none⟩), .agg (vf F), .bool true, .bool false, .bool false, .pointer (some ⟨g1, 64, none⟩), .slice (some ⟨b, o, none⟩) L.length c, .int .i64 (L.length : Int), .bool (decide (4096 < (L.length : Int))), .bool (decide (4096 < (L.length : Int))), .pointer (some ⟨g1, 64, none⟩), .slice (some ⟨b, o, none⟩) L.length c, .int .i64 (L.length : Int), .int .i64 (k : Int), .bool true, .int .i64 (k : Int), .pointer (some ⟨b, o + k * 6, none⟩), .agg #[.int .i64 yr, .int .i64 yn, .int .i64 yt, .string yd, .int .i64 yf, .string ytx], .agg #[.int .i64 yr, .int .i64 yn, .int .i64 yt, .string yd, .int .i64 yf, .string ytx], .bool false, .bool true, .bool true, undef, undef, undef, undef, undef, undef, .bool true, .bool true, undef, undef, undef, undef, undef, undef, undef, undef, undef, undef, undef, undef, undef, .bool true, u49], defers := [] } U1 := by
              refine hK2 _ _ ?_
              clear hK2 keep m0 m1
              go_wp2
              go_ret
              exact ⟨rfl, thenBelow B2.out BU.out⟩
            exact wpAnyH_done (by kernel_rfl) (Eq.mp (by kernel_rfl) KE) _
        · obtain rfl : k = L.length := by omega
          have hkl' : ¬ ((L.length : Nat) : Int) < L.length := by omega
          have ht : C = true := by
            rw [← HC.out]
            exact can_iff.2 ⟨HG.out, by omega, fun y hy => by
              obtain ⟨i, hi, rfl⟩ := List.getElem_of_mem hy
              exact HA.out i hi hi, ord_adj L fun i hi => HO.out i hi hi⟩
          subst ht
          go_wp2
          go_ret
          exact ⟨rfl, thenBelow B2.out BB.out⟩
end Go.Proofs.YtijmijokgenflaaGreatDoor
