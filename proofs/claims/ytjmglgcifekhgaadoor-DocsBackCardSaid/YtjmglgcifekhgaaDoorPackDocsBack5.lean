/- The statement DocsBack, proved for every input that its row reads: part 5 of 6. -/
import Derived.Deep.QuietTactic
import Derived.BigQuiet
import Derived.Laws.IdiomStrings
import Derived.StillTailTactics
import Derived.Test.YtjmglgcifekhgaaDoorPackDocsBack4
/- docs.Can: can it be a state? -/
namespace Go.Proofs.YtjmglgcifekhgaaDoor
open Go Go.RowKit
set_option linter.unusedVariables false
set_option maxRecDepth 1000000

theorem builtPE (x : Wr) (w : World) : (Instr.build 31 #[(0, .agg #[.int .i64 x.rep, .int .i64 x.n]), (1, .int .i64 x.time), (2, .int .i64 1), (3, .string x.doc), (4, .int .i64 x.field), (5, .string x.text)]).run Tryd.prog w = .ok (.agg (EvP.cells ⟨putE x, none, 0⟩).toArray) w := run_build w _ _ _ (by kernel_rfl)
set_option maxHeartbeats 4000000 in
theorem mayWrite_is (y : Wr) (w : World) (hT : Shapes w) : Calls Tryd.prog 37 #[.agg y.cells.toArray] w (RetBool w (decide (chk (putE y) = 0))) := by
  have HT := Lib.hid hT
  clear hT
  obtain ⟨X, hX⟩ : ∃ X, chk (putE y) = X := ⟨_, rfl⟩
  have CK : Hid (∀ V : World, Below w.heap.size w V → Calls Tryd.prog 24 #[.agg (EvP.cells ⟨putE y, none, 0⟩).toArray] V (Check1 V X)) := Lib.hid fun V hV => by rw [← hX]; exact check_is ⟨putE y, none, 0⟩ V ⟨DRow.nil _ _, fun _ => rfl⟩ (HT.out.below hV)
  have PB := Lib.hid (builtPE y)
  rw [hX]
  clear hX
  go_enter Tryd.func37, Tryd.ntmps37
  go_wp2_with (refine wpList_gbox rfl _ rfl y.cells.toArray rfl ?_)
  intro g1 w1 l1 h1 hb1
  have B1 := Lib.hid hb1
  have R1 : w1.rangeAt g1 0 y.cells := by simpa using range_of_block h1
  clear h1 hb1
  obtain ⟨c0, c1, c2, c3, c4, c5⟩ := wr_cells R1
  simp only [Nat.zero_add] at c0 c1 c2 c3 c4 c5
  clear R1
  obtain ⟨yr, yn, yt, yd, yf, ytx⟩ := y
  simp only at c0 c1 c2 c3 c4 c5
  go_wp2_with (refine wpList_pbuild (by rfl) _ rfl (EvP.cells ⟨putE ⟨yr, yn, yt, yd, yf, ytx⟩, none, 0⟩).toArray (by simp only [List.map_toArray, List.map_cons, List.map_nil]; exact PB.out _) ?_)
  refine (CK.out w1 B1.out).mono ?_
  rintro e w2 ⟨rfl, hb2⟩
  have B2 := Lib.hid (thenBelow B1.out hb2)
  clear hb2 c0 c1 c2 c3 c4 c5 CK PB
  by_cases h0 : X = 0
  · subst h0
    go_wp2
    go_ret
    exact ⟨rfl, B2.out⟩
  · have hn : (X == 0) = false := by simpa using h0
    have HD : Hid (decide (X = 0) = false) := Lib.hid (decide_eq_false h0)
    clear h0
    go_wp2
    go_ret
    exact ⟨by rw [HD.out]; rfl, B2.out⟩
set_option maxHeartbeats 8000000 in
theorem docCan_is (F : Nat → Int) (p : Option Addr) (c : Nat) (L : List Wr) (w : World) (h : WrsAt w p L) (hT : Shapes w) :
    Calls Tryd.prog 12 #[.agg (scs F (.slice p L.length c))] w (RetBool w (canB F L)) := by
  have HT := Lib.hid hT
  clear hT
  have HW := Lib.hid h
  clear h
  obtain ⟨C, hC⟩ : ∃ C, canB F L = C := ⟨_, rfl⟩
  have HC := Lib.hid hC
  rw [hC]
  clear hC
  have GD := Lib.hid (fun V : World => good_is F V)
  go_enter Tryd.func12, Tryd.ntmps12
  go_wp2_with (refine wpList_gbox rfl _ rfl (scs F (.slice p L.length c)) rfl ?_)
  intro g1 w1 l1 h1 hb1
  have S1 : Hid (Sx w1 g1 F (.slice p L.length c)) := Lib.hid h1
  have B1 := Lib.hid hb1
  have V1 := Lib.hid (S1.out.vec)
  clear h1 hb1
  go_wp2_with (first | refine wpList_gload rfl _ rfl g1 0 rfl _ V1.out _ Tryd.underlying23 rfl (sizeVcl F) ?_ | refine wpList_gloadG (by rfl) _ rfl g1 0 rfl _ V1.out _ Tryd.underlying23 rfl (sizeVcl F) ?_)
  refine (GD.out w1).mono ?_
  rintro e w2 ⟨rfl, hb2⟩
  have S2 := Lib.hid (S1.out.later hb2); have B2 := Lib.hid (thenBelow B1.out hb2)
  clear hb2 V1 S1 GD
  have k64 := S2.out.slot
  cases hg : goodB F with
  | false =>
    have hf : C = false := by rw [← HC.out]; exact can_no fun h => by rw [h.good] at hg; cases hg
    subst hf
    go_wp2
    go_ret
    exact ⟨rfl, B2.out⟩
  | true =>
    have HG := Lib.hid hg
    clear hg
    by_cases hL : L.length > 4096
    · have hL' : (L.length : Int) > 4096 := by omega
      have hf : C = false := by rw [← HC.out]; exact can_no fun h => by have := h.len; omega
      subst hf
      go_wp2
      go_ret
      exact ⟨rfl, B2.out⟩
    · have hL' : ¬ (L.length : Int) > 4096 := by omega
      go_wp2
      clear k64
      go_loopw [18] (fun i wr => ∃ k : Nat, k ≤ L.length ∧ i = .int .i64 k ∧ (∀ i (h : i < L.length), i < k → chk (putE L[i]) = 0 ∧ hasB F L[i].rep L[i].n = true) ∧ (∀ i (h : i + 1 < L.length), i + 1 < k → ltW (L[i]'(by omega)) L[i + 1] = true) ∧ Below w2.heap.size w2 wr) (fun i _ => L.length - (RowKit.intOf i).toNat)
      case atStart => exact ⟨0, Nat.zero_le _, rfl, fun i _ h => by omega, fun i _ h => by omega, Below.refl _ _⟩
      case round =>
        obtain ⟨k, hk, rfl, hall, hord, hb⟩ := hrel
        have BB := Lib.hid hb; have HA := Lib.hid hall; have HO := Lib.hid hord
        clear hall hord hb
        by_cases hkl : k < L.length
        · have hkl' : (k : Int) < L.length := by omega
          have BW := Lib.hid (thenBelow B2.out BB.out)
          have HWr := Lib.hid (HW.out.below BW.out)
          obtain ⟨b, o, rfl, hlt, hq⟩ := HWr.out.at hkl
          obtain ⟨y, hy⟩ : ∃ y, L[k] = y := ⟨_, rfl⟩
          rw [hy] at hq
          have YC := Lib.hid hy
          clear hy
          obtain ⟨c0, c1, c2, c3, c4, c5⟩ := wr_cells hq
          clear hq
          obtain ⟨yr, yn, yt, yd, yf, ytx⟩ := y
          simp only at c0 c1 c2 c3 c4 c5
          have ba := below_alloc wr (.cells #[.int .i64 yr, .int .i64 yn, .int .i64 yt, .string yd, .int .i64 yf, .string ytx] 50)
          have na := heap_alloc_new wr (.cells #[.int .i64 yr, .int .i64 yn, .int .i64 yt, .string yd, .int .i64 yf, .string ytx] 50)
          have R4 : (wr.alloc (.cells #[.int .i64 yr, .int .i64 yn, .int .i64 yt, .string yd, .int .i64 yf, .string ytx] 50)).rangeAt wr.heap.size 0 (Wr.cells ⟨yr, yn, yt, yd, yf, ytx⟩) := range_of_block na
          have M1 := Lib.hid (And.intro (S2.out.later (to_drew (thenBelow BB.out ba))) (And.intro R4 (And.intro (HWr.out.below (to_drew ba)) (to_drew (thenBelow BB.out ba)))))
          clear ba na R4
          go_wp2_with fail
          rename_i K2 hK2
          generalize hW : wr.alloc (.cells #[.int .i64 yr, .int .i64 yn, .int .i64 yt, .string yd, .int .i64 yf, .string ytx] 50) = W6 at M1 ⊢
          generalize hG4 : wr.heap.size = G4 at M1 ⊢
          clear hW c0 c1 c2 c3 c4 c5
          have M0 : Hid (Sx W6.drew g1 F (.slice (some ⟨b, o, none⟩) L.length c) ∧ W6.drew.rangeAt G4 0 (Wr.cells ⟨yr, yn, yt, yd, yf, ytx⟩) ∧ WrsAt W6.drew (some ⟨b, o, none⟩) L ∧ Below w2.heap.size w2 W6.drew) := M1
          have SZD : ∀ z1 z2 : Int, (Tryd.prog.info? 28).map (·.size) = some [Value.int .i64 z1, .int .i64 z2].length := fun z1 z2 => by kernel_rfl
          by_cases hx : chk (putE ⟨yr, yn, yt, yd, yf, ytx⟩) = 0
          · have MW : Hid (∀ V : World, Below w2.heap.size w2 V → Calls Tryd.prog 37 #[.agg #[.int .i64 yr, .int .i64 yn, .int .i64 yt, .string yd, .int .i64 yf, .string ytx]] V (RetBool V true)) := Lib.hid fun V hV => by
              have := mayWrite_is ⟨yr, yn, yt, yd, yf, ytx⟩ V (HT.out.below (thenBelow B2.out hV))
              rw [decide_eq_true hx] at this; exact this
            have HS := Lib.hid (fun V : World => has_is F yr yn V)
            cases hh : hasB F yr yn with
            | false =>
              rw [hh] at HS
              have hf : C = false := by
                rw [← HC.out]
                refine can_no fun h => ?_
                have := (h.fine _ (List.getElem_mem hkl)).2
                rw [YC.out] at this
                simp only at this
                rw [hh] at this; cases this
              subst hf
              refine rg_calm (by kernel_rfl) rfl (S := fun U => Sx U g1 F (.slice (some ⟨b, o, none⟩) L.length c) ∧ U.rangeAt G4 0 (Wr.cells ⟨yr, yn, yt, yd, yf, ytx⟩) ∧ WrsAt U (some ⟨b, o, none⟩) L ∧ Below w2.heap.size w2 U) ?_
              have m0 := M0.out
              have keep : ∀ U U' : World, Below U.heap.size U U' → Sx U g1 F (.slice (some ⟨b, o, none⟩) L.length c) ∧ U.rangeAt G4 0 (Wr.cells ⟨yr, yn, yt, yd, yf, ytx⟩) ∧ WrsAt U (some ⟨b, o, none⟩) L ∧ Below w2.heap.size w2 U → Sx U' g1 F (.slice (some ⟨b, o, none⟩) L.length c) ∧ U'.rangeAt G4 0 (Wr.cells ⟨yr, yn, yt, yd, yf, ytx⟩) ∧ WrsAt U' (some ⟨b, o, none⟩) L ∧ Below w2.heap.size w2 U' := fun U U' hb h => ⟨h.1.later hb, range_below h.2.1 hb, h.2.2.1.below hb, thenBelow h.2.2.2 hb⟩
              refine rgd_pureS 0 (some 23) rfl rfl (.agg #[.int .i64 yr, .int .i64 yn, .int .i64 yt, .string yd, .int .i64 yf, .string ytx]) (by kernel_rfl) (by kernel_rfl) (by kernel_rfl) (fun _ _ _ _ h => h) (by kernel_rfl) (fun U hU => exec_gload 50 _ rfl G4 0 (by kernel_rfl) _ hU.2.1 Tryd.underlying50 rfl (sizeWr ⟨yr, yn, yt, yd, yf, ytx⟩)) m0 ?_
              refine rgd_call 1 (some 24) (by kernel_rfl) rfl rfl (by kernel_rfl) 37 (#[.agg #[.int .i64 yr, .int .i64 yn, .int .i64 yt, .string yd, .int .i64 yf, .string ytx]]) (by kernel_rfl) (MW.out _ m0.2.2.2) ?_
              rintro _ U1 ⟨rfl, bU1⟩
              have m1 := keep _ _ bU1 m0
              refine ⟨_, rfl, m1, ?_⟩
              refine rgd_pure 2 (some 25) rfl rfl (.bool false) (by kernel_rfl) (by kernel_rfl) (by kernel_rfl) (fun _ _ _ _ h => h) (by kernel_rfl) (fun w => by kernel_rfl) m1 ?_
              refine rgd_pure 3 (some 26) rfl rfl (.bool false) (by kernel_rfl) (by kernel_rfl) (by kernel_rfl) (fun _ _ _ _ h => h) (by kernel_rfl) (fun w => by kernel_rfl) m1 ?_
              refine rgd_pure 4 (some 27) rfl rfl (.pointer (some ⟨g1, 0, none⟩)) (by kernel_rfl) (by kernel_rfl) (by kernel_rfl) (fun _ _ _ _ h => h) (by kernel_rfl) (fun w => by kernel_rfl) m1 ?_
              refine rgd_pureS 5 (some 28) rfl rfl (.agg (vf F)) (by kernel_rfl) (by kernel_rfl) (by kernel_rfl) (fun _ _ _ _ h => h) (by kernel_rfl) (fun U hU => exec_gload 23 _ rfl g1 0 (by kernel_rfl) _ hU.1.vec Tryd.underlying23 rfl (sizeVcl F)) m1 ?_
              refine rgd_pure 6 (some 29) rfl rfl (.pointer (some ⟨G4, 0, none⟩)) (by kernel_rfl) (by kernel_rfl) (by kernel_rfl) (fun _ _ _ _ h => h) (by kernel_rfl) (fun w => by kernel_rfl) m1 ?_
              refine rgd_pureS 7 (some 30) rfl rfl (.agg #[.int .i64 yr, .int .i64 yn]) (by kernel_rfl) (by kernel_rfl) (by kernel_rfl) (fun _ _ _ _ h => h) (by kernel_rfl) (fun U hU => exec_gload 28 _ rfl G4 0 (by kernel_rfl) _ (wr_dot hU.2.1) Tryd.underlying28 rfl (SZD yr yn)) m1 ?_
              refine rgd_call 8 (some 31) (by kernel_rfl) rfl rfl (by kernel_rfl) 25 (#[.agg (vf F), .agg (dcs yr yn)]) (by kernel_rfl) (HS.out _) ?_
              rintro _ U2 ⟨rfl, bU2⟩
              have m2 := keep _ _ bU2 m1
              refine ⟨_, rfl, m2, ?_⟩
              refine rgd_pure 9 (some 32) rfl rfl (.bool true) (by kernel_rfl) (by kernel_rfl) (by kernel_rfl) (fun _ _ _ _ h => h) (by kernel_rfl) (fun w => by kernel_rfl) m2 ?_
              refine rgd_pure 10 (some 33) rfl rfl (.bool true) (by kernel_rfl) (by kernel_rfl) (by kernel_rfl) (fun _ _ _ _ h => h) (by kernel_rfl) (fun w => by kernel_rfl) m2 ?_
              refine rgd_pure 11 (some 34) rfl rfl (.bool true) (by kernel_rfl) (by kernel_rfl) (by kernel_rfl) (fun _ _ _ _ h => h) (by kernel_rfl) (fun w => by kernel_rfl) m2 ?_
              refine rgd_skip 12 (some 35) rfl rfl (by kernel_rfl) (by kernel_rfl) (by kernel_rfl) (fun _ _ _ _ h => h) (by kernel_rfl) m2 ?_
              refine rgd_skip 13 (some 36) rfl rfl (by kernel_rfl) (by kernel_rfl) (by kernel_rfl) (fun _ _ _ _ h => h) (by kernel_rfl) m2 ?_
              refine rgd_skip 14 (some 37) rfl rfl (by kernel_rfl) (by kernel_rfl) (by kernel_rfl) (fun _ _ _ _ h => h) (by kernel_rfl) m2 ?_
              refine rgd_skip 15 (some 38) rfl rfl (by kernel_rfl) (by kernel_rfl) (by kernel_rfl) (fun _ _ _ _ h => h) (by kernel_rfl) m2 ?_
              refine rgd_skip 16 (some 39) rfl rfl (by kernel_rfl) (by kernel_rfl) (by kernel_rfl) (fun _ _ _ _ h => h) (by kernel_rfl) m2 ?_
              refine rgd_skip 17 (some 40) rfl rfl (by kernel_rfl) (by kernel_rfl) (by kernel_rfl) (fun _ _ _ _ h => h) (by kernel_rfl) m2 ?_
              refine rgd_skip 18 (some 41) rfl rfl (by kernel_rfl) (by kernel_rfl) (by kernel_rfl) (fun _ _ _ _ h => h) (by kernel_rfl) m2 ?_
              refine rgd_skip 19 (some 42) rfl rfl (by kernel_rfl) (by kernel_rfl) (by kernel_rfl) (fun _ _ _ _ h => h) (by kernel_rfl) m2 ?_
              refine rgd_skip 20 (some 43) rfl rfl (by kernel_rfl) (by kernel_rfl) (by kernel_rfl) (fun _ _ _ _ h => h) (by kernel_rfl) m2 ?_
              refine rgd_skip 21 (some 44) rfl rfl (by kernel_rfl) (by kernel_rfl) (by kernel_rfl) (fun _ _ _ _ h => h) (by kernel_rfl) m2 ?_
              refine rgd_skip 22 (some 45) rfl rfl (by kernel_rfl) (by kernel_rfl) (by kernel_rfl) (fun _ _ _ _ h => h) (by kernel_rfl) m2 ?_
              refine rgd_skip 23 (some 46) rfl rfl (by kernel_rfl) (by kernel_rfl) (by kernel_rfl) (fun _ _ _ _ h => h) (by kernel_rfl) m2 ?_
              refine rgd_skip 24 (some 47) rfl rfl (by kernel_rfl) (by kernel_rfl) (by kernel_rfl) (fun _ _ _ _ h => h) (by kernel_rfl) m2 ?_
              refine rgd_pure 25 (some 48) rfl rfl (.bool true) (by kernel_rfl) (by kernel_rfl) (by kernel_rfl) (fun _ _ _ _ h => h) (by kernel_rfl) (fun w => by kernel_rfl) m2 ?_
              have BU := Lib.hid m2.2.2.2
              have KE : K2 { tmps := #[.agg (scs F (.slice (some ⟨b, o, none⟩) L.length c)), .pointer (some ⟨g1, 0, none⟩), u2, .int .i64 (k : Int), .pointer (some ⟨G4, 0, none⟩), .pointer (some ⟨g1, 0, none⟩), .agg (vf F), .bool true, .bool false, .bool false, .pointer (some ⟨g1, 64, none⟩), .slice (some ⟨b, o, none⟩) L.length c, .int .i64 (L.length : Int), .bool (decide (4096 < (L.length : Int))), .bool (decide (4096 < (L.length : Int))), .pointer (some ⟨g1, 64, none⟩), .slice (some ⟨b, o, none⟩) L.length c, .int .i64 (L.length : Int), .int .i64 (k : Int), .bool true, .int .i64 (k : Int), .pointer (some ⟨b, o + k * 6, none⟩), .agg #[.int .i64 yr, .int .i64 yn, .int .i64 yt, .string yd, .int .i64 yf, .string ytx], .agg #[.int .i64 yr, .int .i64 yn, .int .i64 yt, .string yd, .int .i64 yf, .string ytx], .bool true, .bool false, .bool false, .pointer (some ⟨g1, 0, none⟩), .agg (vf F), .pointer (some ⟨G4, 0, none⟩), .agg #[.int .i64 yr, .int .i64 yn], .bool false, .bool true, .bool true, .bool true, undef, undef, undef, undef, undef, undef, undef, undef, undef, undef, undef, undef, undef, .bool true, u49], defers := [] } U2 := by
                refine hK2 _ _ ?_
                clear hK2 keep m0 m1 m2
                go_wp2
                go_ret
                exact ⟨rfl, thenBelow B2.out BU.out⟩
              exact wpAnyH_done (by kernel_rfl) (Eq.mp (by kernel_rfl) KE) _
            | true =>
              rw [hh] at HS
              have NA : Hid (∀ i (h : i < L.length), i < k + 1 → chk (putE L[i]) = 0 ∧ hasB F L[i].rep L[i].n = true) := Lib.hid fun i h hi => by
                rcases Nat.lt_or_ge i k with h3 | h3
                · exact HA.out i h h3
                · obtain rfl : i = k := by omega
                  rw [YC.out]; exact ⟨hx, hh⟩
              clear hx hh
              by_cases hk0 : k = 0
              · have GK : Hid (decide ((k : Int) > 0) = false) := Lib.hid (decide_eq_false (by omega))
                have NO : Hid (∀ i (h : i + 1 < L.length), i + 1 < k + 1 → ltW (L[i]'(by omega)) L[i + 1] = true) := Lib.hid fun i h hi => by omega
                refine rg_calm (by kernel_rfl) rfl (S := fun U => Sx U g1 F (.slice (some ⟨b, o, none⟩) L.length c) ∧ U.rangeAt G4 0 (Wr.cells ⟨yr, yn, yt, yd, yf, ytx⟩) ∧ WrsAt U (some ⟨b, o, none⟩) L ∧ Below w2.heap.size w2 U) ?_
                have m0 := M0.out
                have keep : ∀ U U' : World, Below U.heap.size U U' → Sx U g1 F (.slice (some ⟨b, o, none⟩) L.length c) ∧ U.rangeAt G4 0 (Wr.cells ⟨yr, yn, yt, yd, yf, ytx⟩) ∧ WrsAt U (some ⟨b, o, none⟩) L ∧ Below w2.heap.size w2 U → Sx U' g1 F (.slice (some ⟨b, o, none⟩) L.length c) ∧ U'.rangeAt G4 0 (Wr.cells ⟨yr, yn, yt, yd, yf, ytx⟩) ∧ WrsAt U' (some ⟨b, o, none⟩) L ∧ Below w2.heap.size w2 U' := fun U U' hb h => ⟨h.1.later hb, range_below h.2.1 hb, h.2.2.1.below hb, thenBelow h.2.2.2 hb⟩
                refine rgd_pureS 0 (some 23) rfl rfl (.agg #[.int .i64 yr, .int .i64 yn, .int .i64 yt, .string yd, .int .i64 yf, .string ytx]) (by kernel_rfl) (by kernel_rfl) (by kernel_rfl) (fun _ _ _ _ h => h) (by kernel_rfl) (fun U hU => exec_gload 50 _ rfl G4 0 (by kernel_rfl) _ hU.2.1 Tryd.underlying50 rfl (sizeWr ⟨yr, yn, yt, yd, yf, ytx⟩)) m0 ?_
                refine rgd_call 1 (some 24) (by kernel_rfl) rfl rfl (by kernel_rfl) 37 (#[.agg #[.int .i64 yr, .int .i64 yn, .int .i64 yt, .string yd, .int .i64 yf, .string ytx]]) (by kernel_rfl) (MW.out _ m0.2.2.2) ?_
                rintro _ U1 ⟨rfl, bU1⟩
                have m1 := keep _ _ bU1 m0
                refine ⟨_, rfl, m1, ?_⟩
                refine rgd_pure 2 (some 25) rfl rfl (.bool false) (by kernel_rfl) (by kernel_rfl) (by kernel_rfl) (fun _ _ _ _ h => h) (by kernel_rfl) (fun w => by kernel_rfl) m1 ?_
                refine rgd_pure 3 (some 26) rfl rfl (.bool false) (by kernel_rfl) (by kernel_rfl) (by kernel_rfl) (fun _ _ _ _ h => h) (by kernel_rfl) (fun w => by kernel_rfl) m1 ?_
                refine rgd_pure 4 (some 27) rfl rfl (.pointer (some ⟨g1, 0, none⟩)) (by kernel_rfl) (by kernel_rfl) (by kernel_rfl) (fun _ _ _ _ h => h) (by kernel_rfl) (fun w => by kernel_rfl) m1 ?_
                refine rgd_pureS 5 (some 28) rfl rfl (.agg (vf F)) (by kernel_rfl) (by kernel_rfl) (by kernel_rfl) (fun _ _ _ _ h => h) (by kernel_rfl) (fun U hU => exec_gload 23 _ rfl g1 0 (by kernel_rfl) _ hU.1.vec Tryd.underlying23 rfl (sizeVcl F)) m1 ?_
                refine rgd_pure 6 (some 29) rfl rfl (.pointer (some ⟨G4, 0, none⟩)) (by kernel_rfl) (by kernel_rfl) (by kernel_rfl) (fun _ _ _ _ h => h) (by kernel_rfl) (fun w => by kernel_rfl) m1 ?_
                refine rgd_pureS 7 (some 30) rfl rfl (.agg #[.int .i64 yr, .int .i64 yn]) (by kernel_rfl) (by kernel_rfl) (by kernel_rfl) (fun _ _ _ _ h => h) (by kernel_rfl) (fun U hU => exec_gload 28 _ rfl G4 0 (by kernel_rfl) _ (wr_dot hU.2.1) Tryd.underlying28 rfl (SZD yr yn)) m1 ?_
                refine rgd_call 8 (some 31) (by kernel_rfl) rfl rfl (by kernel_rfl) 25 (#[.agg (vf F), .agg (dcs yr yn)]) (by kernel_rfl) (HS.out _) ?_
                rintro _ U2 ⟨rfl, bU2⟩
                have m2 := keep _ _ bU2 m1
                refine ⟨_, rfl, m2, ?_⟩
                refine rgd_pure 9 (some 32) rfl rfl (.bool false) (by kernel_rfl) (by kernel_rfl) (by kernel_rfl) (fun _ _ _ _ h => h) (by kernel_rfl) (fun w => by kernel_rfl) m2 ?_
                refine rgd_pure 10 (some 33) rfl rfl (.bool false) (by kernel_rfl) (by kernel_rfl) (by kernel_rfl) (fun _ _ _ _ h => h) (by kernel_rfl) (fun w => by kernel_rfl) m2 ?_
                refine rgd_pure 11 (some 34) rfl rfl (.bool false) (by kernel_rfl) (by kernel_rfl) (by kernel_rfl) (fun _ _ _ _ h => h) (by kernel_rfl) (fun w => by kernel_rfl) m2 ?_
                refine rgd_pure 12 (some 35) rfl rfl (.int .i64 (k : Int)) (by kernel_rfl) (by kernel_rfl) (by kernel_rfl) (fun _ _ _ _ h => h) (by kernel_rfl) (fun w => by kernel_rfl) m2 ?_
                refine rgd_pure 13 (some 36) rfl rfl (.bool false) (by kernel_rfl) (by kernel_rfl) (by kernel_rfl) (fun _ _ _ _ h => h) (by kernel_rfl) (exec_gtrB _ _ _ _ rfl (k : Int) 0 false GK.out (by kernel_rfl) (by kernel_rfl)) m2 ?_
                refine rgd_pure 14 (some 37) rfl rfl (.bool false) (by kernel_rfl) (by kernel_rfl) (by kernel_rfl) (fun _ _ _ _ h => h) (by kernel_rfl) (fun w => by kernel_rfl) m2 ?_
                refine rgd_skip 15 (some 38) rfl rfl (by kernel_rfl) (by kernel_rfl) (by kernel_rfl) (fun _ _ _ _ h => h) (by kernel_rfl) m2 ?_
                refine rgd_skip 16 (some 39) rfl rfl (by kernel_rfl) (by kernel_rfl) (by kernel_rfl) (fun _ _ _ _ h => h) (by kernel_rfl) m2 ?_
                refine rgd_skip 17 (some 40) rfl rfl (by kernel_rfl) (by kernel_rfl) (by kernel_rfl) (fun _ _ _ _ h => h) (by kernel_rfl) m2 ?_
                refine rgd_skip 18 (some 41) rfl rfl (by kernel_rfl) (by kernel_rfl) (by kernel_rfl) (fun _ _ _ _ h => h) (by kernel_rfl) m2 ?_
                refine rgd_skip 19 (some 42) rfl rfl (by kernel_rfl) (by kernel_rfl) (by kernel_rfl) (fun _ _ _ _ h => h) (by kernel_rfl) m2 ?_
                refine rgd_skip 20 (some 43) rfl rfl (by kernel_rfl) (by kernel_rfl) (by kernel_rfl) (fun _ _ _ _ h => h) (by kernel_rfl) m2 ?_
                refine rgd_skip 21 (some 44) rfl rfl (by kernel_rfl) (by kernel_rfl) (by kernel_rfl) (fun _ _ _ _ h => h) (by kernel_rfl) m2 ?_
                refine rgd_skip 22 (some 45) rfl rfl (by kernel_rfl) (by kernel_rfl) (by kernel_rfl) (fun _ _ _ _ h => h) (by kernel_rfl) m2 ?_
                refine rgd_skip 23 (some 46) rfl rfl (by kernel_rfl) (by kernel_rfl) (by kernel_rfl) (fun _ _ _ _ h => h) (by kernel_rfl) m2 ?_
                refine rgd_pure 24 (some 47) rfl rfl (.bool false) (by kernel_rfl) (by kernel_rfl) (by kernel_rfl) (fun _ _ _ _ h => h) (by kernel_rfl) (fun w => by kernel_rfl) m2 ?_
                refine rgd_pure 25 (some 48) rfl rfl (.bool false) (by kernel_rfl) (by kernel_rfl) (by kernel_rfl) (fun _ _ _ _ h => h) (by kernel_rfl) (fun w => by kernel_rfl) m2 ?_
                have BU := Lib.hid m2.2.2.2
                have KE : K2 { tmps := #[.agg (scs F (.slice (some ⟨b, o, none⟩) L.length c)), .pointer (some ⟨g1, 0, none⟩), u2, .int .i64 (k : Int), .pointer (some ⟨G4, 0, none⟩), .pointer (some ⟨g1, 0, none⟩), .agg (vf F), .bool true, .bool false, .bool false, .pointer (some ⟨g1, 64, none⟩), .slice (some ⟨b, o, none⟩) L.length c, .int .i64 (L.length : Int), .bool (decide (4096 < (L.length : Int))), .bool (decide (4096 < (L.length : Int))), .pointer (some ⟨g1, 64, none⟩), .slice (some ⟨b, o, none⟩) L.length c, .int .i64 (L.length : Int), .int .i64 (k : Int), .bool true, .int .i64 (k : Int), .pointer (some ⟨b, o + k * 6, none⟩), .agg #[.int .i64 yr, .int .i64 yn, .int .i64 yt, .string yd, .int .i64 yf, .string ytx], .agg #[.int .i64 yr, .int .i64 yn, .int .i64 yt, .string yd, .int .i64 yf, .string ytx], .bool true, .bool false, .bool false, .pointer (some ⟨g1, 0, none⟩), .agg (vf F), .pointer (some ⟨G4, 0, none⟩), .agg #[.int .i64 yr, .int .i64 yn], .bool true, .bool false, .bool false, .bool false, .int .i64 (k : Int), .bool false, .bool false, undef, undef, undef, undef, undef, undef, undef, undef, undef, .bool false, .bool false, u49], defers := [] } U2 := by
                  refine hK2 _ _ ?_
                  clear hK2 keep m0 m1 m2
                  go_wp2
                  go_roundw
                  case rel => exact ⟨k + 1, by omega, by go_num, NA.out, NO.out, BU.out⟩
                  case measure => simp [RowKit.intOf]; omega
                exact wpAnyH_done (by kernel_rfl) (Eq.mp (by kernel_rfl) KE) _
              · have GK : Hid (decide ((k : Int) > 0) = true) := Lib.hid (decide_eq_true (by omega))
                obtain ⟨j, hj⟩ : ∃ j : Nat, (k : Int) - 1 = j := ⟨k - 1, by omega⟩
                have SB : Hid (IntKind.i64.wrap ((k : Int) - 1) = (j : Int)) := Lib.hid (by rw [IntWalk.i64_in _ (by omega)]; omega)
                have hkj : k = j + 1 := by omega
                have hjl : j < L.length := by omega
                obtain ⟨z, hz⟩ : ∃ z, L[j] = z := ⟨_, rfl⟩
                have ZC := Lib.hid hz
                have ZR : Hid (∀ V : World, WrsAt V (some ⟨b, o, none⟩) L → V.rangeAt b (o + j * 6) z.cells) := Lib.hid fun V hV => by
                  obtain ⟨b9, o9, e9, _, h9⟩ := hV.at hjl
                  injection e9 with e9
                  injection e9 with e1 e2
                  subst e1 e2
                  rw [← hz]; exact h9
                clear hz
                obtain ⟨Z, hZ⟩ : ∃ Z, cmpW z ⟨yr, yn, yt, yd, yf, ytx⟩ = Z := ⟨_, rfl⟩
                have CM : Hid (∀ U, Calls Tryd.prog 38 #[.agg z.cells.toArray, .agg #[.int .i64 yr, .int .i64 yn, .int .i64 yt, .string yd, .int .i64 yf, .string ytx]] U fun e w' => e = .returned (.int .i64 Z) ∧ Below U.heap.size U w') := Lib.hid fun U => by rw [← hZ]; exact docCompare_is z ⟨yr, yn, yt, yd, yf, ytx⟩ U
                have LZ : ltW z ⟨yr, yn, yt, yd, yf, ytx⟩ = decide (Z < 0) := by unfold ltW; rw [hZ]
                clear hZ
                by_cases hz0 : Z < 0
                · have GZ : Hid (decide (Z ≥ 0) = false) := Lib.hid (decide_eq_false (by omega))
                  have ha : ltW z ⟨yr, yn, yt, yd, yf, ytx⟩ = true := by rw [LZ]; exact decide_eq_true hz0
                  have NO : Hid (∀ i (h : i + 1 < L.length), i + 1 < k + 1 → ltW (L[i]'(by omega)) L[i + 1] = true) := Lib.hid fun i h hi => by
                    rcases Nat.lt_or_ge (i + 1) k with h3 | h3
                    · exact HO.out i h h3
                    · subst hkj
                      obtain rfl : i = j := by omega
                      rw [ZC.out, YC.out]; exact ha
                  clear ha LZ hz0
                  refine rg_calm (by kernel_rfl) rfl (S := fun U => Sx U g1 F (.slice (some ⟨b, o, none⟩) L.length c) ∧ U.rangeAt G4 0 (Wr.cells ⟨yr, yn, yt, yd, yf, ytx⟩) ∧ WrsAt U (some ⟨b, o, none⟩) L ∧ Below w2.heap.size w2 U) ?_
                  have m0 := M0.out
                  have keep : ∀ U U' : World, Below U.heap.size U U' → Sx U g1 F (.slice (some ⟨b, o, none⟩) L.length c) ∧ U.rangeAt G4 0 (Wr.cells ⟨yr, yn, yt, yd, yf, ytx⟩) ∧ WrsAt U (some ⟨b, o, none⟩) L ∧ Below w2.heap.size w2 U → Sx U' g1 F (.slice (some ⟨b, o, none⟩) L.length c) ∧ U'.rangeAt G4 0 (Wr.cells ⟨yr, yn, yt, yd, yf, ytx⟩) ∧ WrsAt U' (some ⟨b, o, none⟩) L ∧ Below w2.heap.size w2 U' := fun U U' hb h => ⟨h.1.later hb, range_below h.2.1 hb, h.2.2.1.below hb, thenBelow h.2.2.2 hb⟩
                  refine rgd_pureS 0 (some 23) rfl rfl (.agg #[.int .i64 yr, .int .i64 yn, .int .i64 yt, .string yd, .int .i64 yf, .string ytx]) (by kernel_rfl) (by kernel_rfl) (by kernel_rfl) (fun _ _ _ _ h => h) (by kernel_rfl) (fun U hU => exec_gload 50 _ rfl G4 0 (by kernel_rfl) _ hU.2.1 Tryd.underlying50 rfl (sizeWr ⟨yr, yn, yt, yd, yf, ytx⟩)) m0 ?_
                  refine rgd_call 1 (some 24) (by kernel_rfl) rfl rfl (by kernel_rfl) 37 (#[.agg #[.int .i64 yr, .int .i64 yn, .int .i64 yt, .string yd, .int .i64 yf, .string ytx]]) (by kernel_rfl) (MW.out _ m0.2.2.2) ?_
                  rintro _ U1 ⟨rfl, bU1⟩
                  have m1 := keep _ _ bU1 m0
                  refine ⟨_, rfl, m1, ?_⟩
                  refine rgd_pure 2 (some 25) rfl rfl (.bool false) (by kernel_rfl) (by kernel_rfl) (by kernel_rfl) (fun _ _ _ _ h => h) (by kernel_rfl) (fun w => by kernel_rfl) m1 ?_
                  refine rgd_pure 3 (some 26) rfl rfl (.bool false) (by kernel_rfl) (by kernel_rfl) (by kernel_rfl) (fun _ _ _ _ h => h) (by kernel_rfl) (fun w => by kernel_rfl) m1 ?_
                  refine rgd_pure 4 (some 27) rfl rfl (.pointer (some ⟨g1, 0, none⟩)) (by kernel_rfl) (by kernel_rfl) (by kernel_rfl) (fun _ _ _ _ h => h) (by kernel_rfl) (fun w => by kernel_rfl) m1 ?_
                  refine rgd_pureS 5 (some 28) rfl rfl (.agg (vf F)) (by kernel_rfl) (by kernel_rfl) (by kernel_rfl) (fun _ _ _ _ h => h) (by kernel_rfl) (fun U hU => exec_gload 23 _ rfl g1 0 (by kernel_rfl) _ hU.1.vec Tryd.underlying23 rfl (sizeVcl F)) m1 ?_
                  refine rgd_pure 6 (some 29) rfl rfl (.pointer (some ⟨G4, 0, none⟩)) (by kernel_rfl) (by kernel_rfl) (by kernel_rfl) (fun _ _ _ _ h => h) (by kernel_rfl) (fun w => by kernel_rfl) m1 ?_
                  refine rgd_pureS 7 (some 30) rfl rfl (.agg #[.int .i64 yr, .int .i64 yn]) (by kernel_rfl) (by kernel_rfl) (by kernel_rfl) (fun _ _ _ _ h => h) (by kernel_rfl) (fun U hU => exec_gload 28 _ rfl G4 0 (by kernel_rfl) _ (wr_dot hU.2.1) Tryd.underlying28 rfl (SZD yr yn)) m1 ?_
                  refine rgd_call 8 (some 31) (by kernel_rfl) rfl rfl (by kernel_rfl) 25 (#[.agg (vf F), .agg (dcs yr yn)]) (by kernel_rfl) (HS.out _) ?_
                  rintro _ U2 ⟨rfl, bU2⟩
                  have m2 := keep _ _ bU2 m1
                  refine ⟨_, rfl, m2, ?_⟩
                  refine rgd_pure 9 (some 32) rfl rfl (.bool false) (by kernel_rfl) (by kernel_rfl) (by kernel_rfl) (fun _ _ _ _ h => h) (by kernel_rfl) (fun w => by kernel_rfl) m2 ?_
                  refine rgd_pure 10 (some 33) rfl rfl (.bool false) (by kernel_rfl) (by kernel_rfl) (by kernel_rfl) (fun _ _ _ _ h => h) (by kernel_rfl) (fun w => by kernel_rfl) m2 ?_
                  refine rgd_pure 11 (some 34) rfl rfl (.bool false) (by kernel_rfl) (by kernel_rfl) (by kernel_rfl) (fun _ _ _ _ h => h) (by kernel_rfl) (fun w => by kernel_rfl) m2 ?_
                  refine rgd_pure 12 (some 35) rfl rfl (.int .i64 (k : Int)) (by kernel_rfl) (by kernel_rfl) (by kernel_rfl) (fun _ _ _ _ h => h) (by kernel_rfl) (fun w => by kernel_rfl) m2 ?_
                  refine rgd_pure 13 (some 36) rfl rfl (.bool true) (by kernel_rfl) (by kernel_rfl) (by kernel_rfl) (fun _ _ _ _ h => h) (by kernel_rfl) (exec_gtrB _ _ _ _ rfl (k : Int) 0 true GK.out (by kernel_rfl) (by kernel_rfl)) m2 ?_
                  refine rgd_pure 14 (some 37) rfl rfl (.bool true) (by kernel_rfl) (by kernel_rfl) (by kernel_rfl) (fun _ _ _ _ h => h) (by kernel_rfl) (fun w => by kernel_rfl) m2 ?_
                  refine rgd_pure 15 (some 38) rfl rfl (.pointer (some ⟨g1, 64, none⟩)) (by kernel_rfl) (by kernel_rfl) (by kernel_rfl) (fun _ _ _ _ h => h) (by kernel_rfl) (fun w => by kernel_rfl) m2 ?_
                  refine rgd_pureS 16 (some 39) rfl rfl (.slice (some ⟨b, o, none⟩) L.length c) (by kernel_rfl) (by kernel_rfl) (by kernel_rfl) (fun _ _ _ _ h => h) (by kernel_rfl) (fun U hU => exec_load1 _ _ rfl Tryd.underlying24 rfl ⟨g1, 64, none⟩ _ (by kernel_rfl) hU.1.slot) m2 ?_
                  refine rgd_pure 17 (some 40) rfl rfl (.int .i64 (k : Int)) (by kernel_rfl) (by kernel_rfl) (by kernel_rfl) (fun _ _ _ _ h => h) (by kernel_rfl) (fun w => by kernel_rfl) m2 ?_
                  refine rgd_pure 18 (some 41) rfl rfl (.int .i64 (j : Int)) (by kernel_rfl) (by kernel_rfl) (by kernel_rfl) (fun _ _ _ _ h => h) (by kernel_rfl) (exec_subI _ _ _ _ rfl (k : Int) 1 (j : Int) SB.out (by kernel_rfl) (by kernel_rfl)) m2 ?_
                  refine rgd_pure 19 (some 42) rfl rfl (.pointer (some ⟨b, o + j * 6, none⟩)) (by kernel_rfl) (by kernel_rfl) (by kernel_rfl) (fun _ _ _ _ h => h) (by kernel_rfl) (exec_idxW _ _ rfl b o L.length c j (by kernel_rfl) (by kernel_rfl) hjl) m2 ?_
                  refine rgd_pureS 20 (some 43) rfl rfl (.agg z.cells.toArray) (by kernel_rfl) (by kernel_rfl) (by kernel_rfl) (fun _ _ _ _ h => h) (by kernel_rfl) (fun U hU => exec_gload 50 _ rfl b (o + j * 6) (by kernel_rfl) _ (ZR.out U hU.2.2.1) Tryd.underlying50 rfl (sizeWr z)) m2 ?_
                  refine rgd_pureS 21 (some 44) rfl rfl (.agg #[.int .i64 yr, .int .i64 yn, .int .i64 yt, .string yd, .int .i64 yf, .string ytx]) (by kernel_rfl) (by kernel_rfl) (by kernel_rfl) (fun _ _ _ _ h => h) (by kernel_rfl) (fun U hU => exec_gload 50 _ rfl G4 0 (by kernel_rfl) _ hU.2.1 Tryd.underlying50 rfl (sizeWr ⟨yr, yn, yt, yd, yf, ytx⟩)) m2 ?_
                  refine rgd_call 22 (some 45) (by kernel_rfl) rfl rfl (by kernel_rfl) 38 (#[.agg z.cells.toArray, .agg #[.int .i64 yr, .int .i64 yn, .int .i64 yt, .string yd, .int .i64 yf, .string ytx]]) (by kernel_rfl) (CM.out _) ?_
                  rintro _ U3 ⟨rfl, bU3⟩
                  have m3 := keep _ _ bU3 m2
                  refine ⟨_, rfl, m3, ?_⟩
                  refine rgd_pure 23 (some 46) rfl rfl (.bool false) (by kernel_rfl) (by kernel_rfl) (by kernel_rfl) (fun _ _ _ _ h => h) (by kernel_rfl) (exec_geqB _ _ _ _ rfl Z 0 false GZ.out (by kernel_rfl) (by kernel_rfl)) m3 ?_
                  refine rgd_pure 24 (some 47) rfl rfl (.bool false) (by kernel_rfl) (by kernel_rfl) (by kernel_rfl) (fun _ _ _ _ h => h) (by kernel_rfl) (fun w => by kernel_rfl) m3 ?_
                  refine rgd_pure 25 (some 48) rfl rfl (.bool false) (by kernel_rfl) (by kernel_rfl) (by kernel_rfl) (fun _ _ _ _ h => h) (by kernel_rfl) (fun w => by kernel_rfl) m3 ?_
                  have BU := Lib.hid m3.2.2.2
                  have KE : K2 { tmps := #[.agg (scs F (.slice (some ⟨b, o, none⟩) L.length c)), .pointer (some ⟨g1, 0, none⟩), u2, .int .i64 (k : Int), .pointer (some ⟨G4, 0, none⟩), .pointer (some ⟨g1, 0, none⟩), .agg (vf F), .bool true, .bool false, .bool false, .pointer (some ⟨g1, 64, none⟩), .slice (some ⟨b, o, none⟩) L.length c, .int .i64 (L.length : Int), .bool (decide (4096 < (L.length : Int))), .bool (decide (4096 < (L.length : Int))), .pointer (some ⟨g1, 64, none⟩), .slice (some ⟨b, o, none⟩) L.length c, .int .i64 (L.length : Int), .int .i64 (k : Int), .bool true, .int .i64 (k : Int), .pointer (some ⟨b, o + k * 6, none⟩), .agg #[.int .i64 yr, .int .i64 yn, .int .i64 yt, .string yd, .int .i64 yf, .string ytx], .agg #[.int .i64 yr, .int .i64 yn, .int .i64 yt, .string yd, .int .i64 yf, .string ytx], .bool true, .bool false, .bool false, .pointer (some ⟨g1, 0, none⟩), .agg (vf F), .pointer (some ⟨G4, 0, none⟩), .agg #[.int .i64 yr, .int .i64 yn], .bool true, .bool false, .bool false, .bool false, .int .i64 (k : Int), .bool true, .bool true, .pointer (some ⟨g1, 64, none⟩), .slice (some ⟨b, o, none⟩) L.length c, .int .i64 (k : Int), .int .i64 (j : Int), .pointer (some ⟨b, o + j * 6, none⟩), .agg z.cells.toArray, .agg #[.int .i64 yr, .int .i64 yn, .int .i64 yt, .string yd, .int .i64 yf, .string ytx], .int .i64 Z, .bool false, .bool false, .bool false, u49], defers := [] } U3 := by
                    refine hK2 _ _ ?_
                    clear hK2 keep m0 m1 m2 m3
                    go_wp2
                    go_roundw
                    case rel => exact ⟨k + 1, by omega, by go_num, NA.out, NO.out, BU.out⟩
                    case measure => simp [RowKit.intOf]; omega
                  exact wpAnyH_done (by kernel_rfl) (Eq.mp (by kernel_rfl) KE) _
                · have GZ : Hid (decide (Z ≥ 0) = true) := Lib.hid (decide_eq_true (by omega))
                  have ha : ltW z ⟨yr, yn, yt, yd, yf, ytx⟩ = false := by rw [LZ]; exact decide_eq_false hz0
                  have hf : C = false := by
                    rw [← HC.out]
                    refine can_no fun h => ?_
                    have := adj_ord h.ord j (by omega)
                    subst hkj
                    rw [ZC.out, YC.out, ha] at this; cases this
                  subst hf
                  clear ha LZ hz0
                  refine rg_calm (by kernel_rfl) rfl (S := fun U => Sx U g1 F (.slice (some ⟨b, o, none⟩) L.length c) ∧ U.rangeAt G4 0 (Wr.cells ⟨yr, yn, yt, yd, yf, ytx⟩) ∧ WrsAt U (some ⟨b, o, none⟩) L ∧ Below w2.heap.size w2 U) ?_
                  have m0 := M0.out
                  have keep : ∀ U U' : World, Below U.heap.size U U' → Sx U g1 F (.slice (some ⟨b, o, none⟩) L.length c) ∧ U.rangeAt G4 0 (Wr.cells ⟨yr, yn, yt, yd, yf, ytx⟩) ∧ WrsAt U (some ⟨b, o, none⟩) L ∧ Below w2.heap.size w2 U → Sx U' g1 F (.slice (some ⟨b, o, none⟩) L.length c) ∧ U'.rangeAt G4 0 (Wr.cells ⟨yr, yn, yt, yd, yf, ytx⟩) ∧ WrsAt U' (some ⟨b, o, none⟩) L ∧ Below w2.heap.size w2 U' := fun U U' hb h => ⟨h.1.later hb, range_below h.2.1 hb, h.2.2.1.below hb, thenBelow h.2.2.2 hb⟩
                  refine rgd_pureS 0 (some 23) rfl rfl (.agg #[.int .i64 yr, .int .i64 yn, .int .i64 yt, .string yd, .int .i64 yf, .string ytx]) (by kernel_rfl) (by kernel_rfl) (by kernel_rfl) (fun _ _ _ _ h => h) (by kernel_rfl) (fun U hU => exec_gload 50 _ rfl G4 0 (by kernel_rfl) _ hU.2.1 Tryd.underlying50 rfl (sizeWr ⟨yr, yn, yt, yd, yf, ytx⟩)) m0 ?_
                  refine rgd_call 1 (some 24) (by kernel_rfl) rfl rfl (by kernel_rfl) 37 (#[.agg #[.int .i64 yr, .int .i64 yn, .int .i64 yt, .string yd, .int .i64 yf, .string ytx]]) (by kernel_rfl) (MW.out _ m0.2.2.2) ?_
                  rintro _ U1 ⟨rfl, bU1⟩
                  have m1 := keep _ _ bU1 m0
                  refine ⟨_, rfl, m1, ?_⟩
                  refine rgd_pure 2 (some 25) rfl rfl (.bool false) (by kernel_rfl) (by kernel_rfl) (by kernel_rfl) (fun _ _ _ _ h => h) (by kernel_rfl) (fun w => by kernel_rfl) m1 ?_
                  refine rgd_pure 3 (some 26) rfl rfl (.bool false) (by kernel_rfl) (by kernel_rfl) (by kernel_rfl) (fun _ _ _ _ h => h) (by kernel_rfl) (fun w => by kernel_rfl) m1 ?_
                  refine rgd_pure 4 (some 27) rfl rfl (.pointer (some ⟨g1, 0, none⟩)) (by kernel_rfl) (by kernel_rfl) (by kernel_rfl) (fun _ _ _ _ h => h) (by kernel_rfl) (fun w => by kernel_rfl) m1 ?_
                  refine rgd_pureS 5 (some 28) rfl rfl (.agg (vf F)) (by kernel_rfl) (by kernel_rfl) (by kernel_rfl) (fun _ _ _ _ h => h) (by kernel_rfl) (fun U hU => exec_gload 23 _ rfl g1 0 (by kernel_rfl) _ hU.1.vec Tryd.underlying23 rfl (sizeVcl F)) m1 ?_
                  refine rgd_pure 6 (some 29) rfl rfl (.pointer (some ⟨G4, 0, none⟩)) (by kernel_rfl) (by kernel_rfl) (by kernel_rfl) (fun _ _ _ _ h => h) (by kernel_rfl) (fun w => by kernel_rfl) m1 ?_
                  refine rgd_pureS 7 (some 30) rfl rfl (.agg #[.int .i64 yr, .int .i64 yn]) (by kernel_rfl) (by kernel_rfl) (by kernel_rfl) (fun _ _ _ _ h => h) (by kernel_rfl) (fun U hU => exec_gload 28 _ rfl G4 0 (by kernel_rfl) _ (wr_dot hU.2.1) Tryd.underlying28 rfl (SZD yr yn)) m1 ?_
                  refine rgd_call 8 (some 31) (by kernel_rfl) rfl rfl (by kernel_rfl) 25 (#[.agg (vf F), .agg (dcs yr yn)]) (by kernel_rfl) (HS.out _) ?_
                  rintro _ U2 ⟨rfl, bU2⟩
                  have m2 := keep _ _ bU2 m1
                  refine ⟨_, rfl, m2, ?_⟩
                  refine rgd_pure 9 (some 32) rfl rfl (.bool false) (by kernel_rfl) (by kernel_rfl) (by kernel_rfl) (fun _ _ _ _ h => h) (by kernel_rfl) (fun w => by kernel_rfl) m2 ?_
                  refine rgd_pure 10 (some 33) rfl rfl (.bool false) (by kernel_rfl) (by kernel_rfl) (by kernel_rfl) (fun _ _ _ _ h => h) (by kernel_rfl) (fun w => by kernel_rfl) m2 ?_
                  refine rgd_pure 11 (some 34) rfl rfl (.bool false) (by kernel_rfl) (by kernel_rfl) (by kernel_rfl) (fun _ _ _ _ h => h) (by kernel_rfl) (fun w => by kernel_rfl) m2 ?_
                  refine rgd_pure 12 (some 35) rfl rfl (.int .i64 (k : Int)) (by kernel_rfl) (by kernel_rfl) (by kernel_rfl) (fun _ _ _ _ h => h) (by kernel_rfl) (fun w => by kernel_rfl) m2 ?_
                  refine rgd_pure 13 (some 36) rfl rfl (.bool true) (by kernel_rfl) (by kernel_rfl) (by kernel_rfl) (fun _ _ _ _ h => h) (by kernel_rfl) (exec_gtrB _ _ _ _ rfl (k : Int) 0 true GK.out (by kernel_rfl) (by kernel_rfl)) m2 ?_
                  refine rgd_pure 14 (some 37) rfl rfl (.bool true) (by kernel_rfl) (by kernel_rfl) (by kernel_rfl) (fun _ _ _ _ h => h) (by kernel_rfl) (fun w => by kernel_rfl) m2 ?_
                  refine rgd_pure 15 (some 38) rfl rfl (.pointer (some ⟨g1, 64, none⟩)) (by kernel_rfl) (by kernel_rfl) (by kernel_rfl) (fun _ _ _ _ h => h) (by kernel_rfl) (fun w => by kernel_rfl) m2 ?_
                  refine rgd_pureS 16 (some 39) rfl rfl (.slice (some ⟨b, o, none⟩) L.length c) (by kernel_rfl) (by kernel_rfl) (by kernel_rfl) (fun _ _ _ _ h => h) (by kernel_rfl) (fun U hU => exec_load1 _ _ rfl Tryd.underlying24 rfl ⟨g1, 64, none⟩ _ (by kernel_rfl) hU.1.slot) m2 ?_
                  refine rgd_pure 17 (some 40) rfl rfl (.int .i64 (k : Int)) (by kernel_rfl) (by kernel_rfl) (by kernel_rfl) (fun _ _ _ _ h => h) (by kernel_rfl) (fun w => by kernel_rfl) m2 ?_
                  refine rgd_pure 18 (some 41) rfl rfl (.int .i64 (j : Int)) (by kernel_rfl) (by kernel_rfl) (by kernel_rfl) (fun _ _ _ _ h => h) (by kernel_rfl) (exec_subI _ _ _ _ rfl (k : Int) 1 (j : Int) SB.out (by kernel_rfl) (by kernel_rfl)) m2 ?_
                  refine rgd_pure 19 (some 42) rfl rfl (.pointer (some ⟨b, o + j * 6, none⟩)) (by kernel_rfl) (by kernel_rfl) (by kernel_rfl) (fun _ _ _ _ h => h) (by kernel_rfl) (exec_idxW _ _ rfl b o L.length c j (by kernel_rfl) (by kernel_rfl) hjl) m2 ?_
                  refine rgd_pureS 20 (some 43) rfl rfl (.agg z.cells.toArray) (by kernel_rfl) (by kernel_rfl) (by kernel_rfl) (fun _ _ _ _ h => h) (by kernel_rfl) (fun U hU => exec_gload 50 _ rfl b (o + j * 6) (by kernel_rfl) _ (ZR.out U hU.2.2.1) Tryd.underlying50 rfl (sizeWr z)) m2 ?_
                  refine rgd_pureS 21 (some 44) rfl rfl (.agg #[.int .i64 yr, .int .i64 yn, .int .i64 yt, .string yd, .int .i64 yf, .string ytx]) (by kernel_rfl) (by kernel_rfl) (by kernel_rfl) (fun _ _ _ _ h => h) (by kernel_rfl) (fun U hU => exec_gload 50 _ rfl G4 0 (by kernel_rfl) _ hU.2.1 Tryd.underlying50 rfl (sizeWr ⟨yr, yn, yt, yd, yf, ytx⟩)) m2 ?_
                  refine rgd_call 22 (some 45) (by kernel_rfl) rfl rfl (by kernel_rfl) 38 (#[.agg z.cells.toArray, .agg #[.int .i64 yr, .int .i64 yn, .int .i64 yt, .string yd, .int .i64 yf, .string ytx]]) (by kernel_rfl) (CM.out _) ?_
                  rintro _ U3 ⟨rfl, bU3⟩
                  have m3 := keep _ _ bU3 m2
                  refine ⟨_, rfl, m3, ?_⟩
                  refine rgd_pure 23 (some 46) rfl rfl (.bool true) (by kernel_rfl) (by kernel_rfl) (by kernel_rfl) (fun _ _ _ _ h => h) (by kernel_rfl) (exec_geqB _ _ _ _ rfl Z 0 true GZ.out (by kernel_rfl) (by kernel_rfl)) m3 ?_
                  refine rgd_pure 24 (some 47) rfl rfl (.bool true) (by kernel_rfl) (by kernel_rfl) (by kernel_rfl) (fun _ _ _ _ h => h) (by kernel_rfl) (fun w => by kernel_rfl) m3 ?_
                  refine rgd_pure 25 (some 48) rfl rfl (.bool true) (by kernel_rfl) (by kernel_rfl) (by kernel_rfl) (fun _ _ _ _ h => h) (by kernel_rfl) (fun w => by kernel_rfl) m3 ?_
                  have BU := Lib.hid m3.2.2.2
                  have KE : K2 { tmps := #[.agg (scs F (.slice (some ⟨b, o, none⟩) L.length c)), .pointer (some ⟨g1, 0, none⟩), u2, .int .i64 (k : Int), .pointer (some ⟨G4, 0, none⟩), .pointer (some ⟨g1, 0, none⟩), .agg (vf F), .bool true, .bool false, .bool false, .pointer (some ⟨g1, 64, none⟩), .slice (some ⟨b, o, none⟩) L.length c, .int .i64 (L.length : Int), .bool (decide (4096 < (L.length : Int))), .bool (decide (4096 < (L.length : Int))), .pointer (some ⟨g1, 64, none⟩), .slice (some ⟨b, o, none⟩) L.length c, .int .i64 (L.length : Int), .int .i64 (k : Int), .bool true, .int .i64 (k : Int), .pointer (some ⟨b, o + k * 6, none⟩), .agg #[.int .i64 yr, .int .i64 yn, .int .i64 yt, .string yd, .int .i64 yf, .string ytx], .agg #[.int .i64 yr, .int .i64 yn, .int .i64 yt, .string yd, .int .i64 yf, .string ytx], .bool true, .bool false, .bool false, .pointer (some ⟨g1, 0, none⟩), .agg (vf F), .pointer (some ⟨G4, 0, none⟩), .agg #[.int .i64 yr, .int .i64 yn], .bool true, .bool false, .bool false, .bool false, .int .i64 (k : Int), .bool true, .bool true, .pointer (some ⟨g1, 64, none⟩), .slice (some ⟨b, o, none⟩) L.length c, .int .i64 (k : Int), .int .i64 (j : Int), .pointer (some ⟨b, o + j * 6, none⟩), .agg z.cells.toArray, .agg #[.int .i64 yr, .int .i64 yn, .int .i64 yt, .string yd, .int .i64 yf, .string ytx], .int .i64 Z, .bool true, .bool true, .bool true, u49], defers := [] } U3 := by
                    refine hK2 _ _ ?_
                    clear hK2 keep m0 m1 m2 m3
                    go_wp2
                    go_ret
                    exact ⟨rfl, thenBelow B2.out BU.out⟩
                  exact wpAnyH_done (by kernel_rfl) (Eq.mp (by kernel_rfl) KE) _
          · have MW : Hid (∀ V : World, Below w2.heap.size w2 V → Calls Tryd.prog 37 #[.agg #[.int .i64 yr, .int .i64 yn, .int .i64 yt, .string yd, .int .i64 yf, .string ytx]] V (RetBool V false)) := Lib.hid fun V hV => by
              have := mayWrite_is ⟨yr, yn, yt, yd, yf, ytx⟩ V (HT.out.below (thenBelow B2.out hV))
              rw [decide_eq_false hx] at this; exact this
            have hf : C = false := by
              rw [← HC.out]
              refine can_no fun h => ?_
              have := (h.fine _ (List.getElem_mem hkl)).1
              rw [YC.out] at this
              exact hx this
            subst hf
            clear hx
            refine rg_calm (by kernel_rfl) rfl (S := fun U => Sx U g1 F (.slice (some ⟨b, o, none⟩) L.length c) ∧ U.rangeAt G4 0 (Wr.cells ⟨yr, yn, yt, yd, yf, ytx⟩) ∧ WrsAt U (some ⟨b, o, none⟩) L ∧ Below w2.heap.size w2 U) ?_
            have m0 := M0.out
            have keep : ∀ U U' : World, Below U.heap.size U U' → Sx U g1 F (.slice (some ⟨b, o, none⟩) L.length c) ∧ U.rangeAt G4 0 (Wr.cells ⟨yr, yn, yt, yd, yf, ytx⟩) ∧ WrsAt U (some ⟨b, o, none⟩) L ∧ Below w2.heap.size w2 U → Sx U' g1 F (.slice (some ⟨b, o, none⟩) L.length c) ∧ U'.rangeAt G4 0 (Wr.cells ⟨yr, yn, yt, yd, yf, ytx⟩) ∧ WrsAt U' (some ⟨b, o, none⟩) L ∧ Below w2.heap.size w2 U' := fun U U' hb h => ⟨h.1.later hb, range_below h.2.1 hb, h.2.2.1.below hb, thenBelow h.2.2.2 hb⟩
            refine rgd_pureS 0 (some 23) rfl rfl (.agg #[.int .i64 yr, .int .i64 yn, .int .i64 yt, .string yd, .int .i64 yf, .string ytx]) (by kernel_rfl) (by kernel_rfl) (by kernel_rfl) (fun _ _ _ _ h => h) (by kernel_rfl) (fun U hU => exec_gload 50 _ rfl G4 0 (by kernel_rfl) _ hU.2.1 Tryd.underlying50 rfl (sizeWr ⟨yr, yn, yt, yd, yf, ytx⟩)) m0 ?_
            refine rgd_call 1 (some 24) (by kernel_rfl) rfl rfl (by kernel_rfl) 37 (#[.agg #[.int .i64 yr, .int .i64 yn, .int .i64 yt, .string yd, .int .i64 yf, .string ytx]]) (by kernel_rfl) (MW.out _ m0.2.2.2) ?_
            rintro _ U1 ⟨rfl, bU1⟩
            have m1 := keep _ _ bU1 m0
            refine ⟨_, rfl, m1, ?_⟩
            refine rgd_pure 2 (some 25) rfl rfl (.bool true) (by kernel_rfl) (by kernel_rfl) (by kernel_rfl) (fun _ _ _ _ h => h) (by kernel_rfl) (fun w => by kernel_rfl) m1 ?_
            refine rgd_pure 3 (some 26) rfl rfl (.bool true) (by kernel_rfl) (by kernel_rfl) (by kernel_rfl) (fun _ _ _ _ h => h) (by kernel_rfl) (fun w => by kernel_rfl) m1 ?_
            refine rgd_skip 4 (some 27) rfl rfl (by kernel_rfl) (by kernel_rfl) (by kernel_rfl) (fun _ _ _ _ h => h) (by kernel_rfl) m1 ?_
            refine rgd_skip 5 (some 28) rfl rfl (by kernel_rfl) (by kernel_rfl) (by kernel_rfl) (fun _ _ _ _ h => h) (by kernel_rfl) m1 ?_
            refine rgd_skip 6 (some 29) rfl rfl (by kernel_rfl) (by kernel_rfl) (by kernel_rfl) (fun _ _ _ _ h => h) (by kernel_rfl) m1 ?_
            refine rgd_skip 7 (some 30) rfl rfl (by kernel_rfl) (by kernel_rfl) (by kernel_rfl) (fun _ _ _ _ h => h) (by kernel_rfl) m1 ?_
            refine rgd_skip 8 (some 31) rfl rfl (by kernel_rfl) (by kernel_rfl) (by kernel_rfl) (fun _ _ _ _ h => h) (by kernel_rfl) m1 ?_
            refine rgd_skip 9 (some 32) rfl rfl (by kernel_rfl) (by kernel_rfl) (by kernel_rfl) (fun _ _ _ _ h => h) (by kernel_rfl) m1 ?_
            refine rgd_pure 10 (some 33) rfl rfl (.bool true) (by kernel_rfl) (by kernel_rfl) (by kernel_rfl) (fun _ _ _ _ h => h) (by kernel_rfl) (fun w => by kernel_rfl) m1 ?_
            refine rgd_pure 11 (some 34) rfl rfl (.bool true) (by kernel_rfl) (by kernel_rfl) (by kernel_rfl) (fun _ _ _ _ h => h) (by kernel_rfl) (fun w => by kernel_rfl) m1 ?_
            refine rgd_skip 12 (some 35) rfl rfl (by kernel_rfl) (by kernel_rfl) (by kernel_rfl) (fun _ _ _ _ h => h) (by kernel_rfl) m1 ?_
            refine rgd_skip 13 (some 36) rfl rfl (by kernel_rfl) (by kernel_rfl) (by kernel_rfl) (fun _ _ _ _ h => h) (by kernel_rfl) m1 ?_
            refine rgd_skip 14 (some 37) rfl rfl (by kernel_rfl) (by kernel_rfl) (by kernel_rfl) (fun _ _ _ _ h => h) (by kernel_rfl) m1 ?_
            refine rgd_skip 15 (some 38) rfl rfl (by kernel_rfl) (by kernel_rfl) (by kernel_rfl) (fun _ _ _ _ h => h) (by kernel_rfl) m1 ?_
            refine rgd_skip 16 (some 39) rfl rfl (by kernel_rfl) (by kernel_rfl) (by kernel_rfl) (fun _ _ _ _ h => h) (by kernel_rfl) m1 ?_
            refine rgd_skip 17 (some 40) rfl rfl (by kernel_rfl) (by kernel_rfl) (by kernel_rfl) (fun _ _ _ _ h => h) (by kernel_rfl) m1 ?_
            refine rgd_skip 18 (some 41) rfl rfl (by kernel_rfl) (by kernel_rfl) (by kernel_rfl) (fun _ _ _ _ h => h) (by kernel_rfl) m1 ?_
            refine rgd_skip 19 (some 42) rfl rfl (by kernel_rfl) (by kernel_rfl) (by kernel_rfl) (fun _ _ _ _ h => h) (by kernel_rfl) m1 ?_
            refine rgd_skip 20 (some 43) rfl rfl (by kernel_rfl) (by kernel_rfl) (by kernel_rfl) (fun _ _ _ _ h => h) (by kernel_rfl) m1 ?_
            refine rgd_skip 21 (some 44) rfl rfl (by kernel_rfl) (by kernel_rfl) (by kernel_rfl) (fun _ _ _ _ h => h) (by kernel_rfl) m1 ?_
            refine rgd_skip 22 (some 45) rfl rfl (by kernel_rfl) (by kernel_rfl) (by kernel_rfl) (fun _ _ _ _ h => h) (by kernel_rfl) m1 ?_
            refine rgd_skip 23 (some 46) rfl rfl (by kernel_rfl) (by kernel_rfl) (by kernel_rfl) (fun _ _ _ _ h => h) (by kernel_rfl) m1 ?_
            refine rgd_skip 24 (some 47) rfl rfl (by kernel_rfl) (by kernel_rfl) (by kernel_rfl) (fun _ _ _ _ h => h) (by kernel_rfl) m1 ?_
            refine rgd_pure 25 (some 48) rfl rfl (.bool true) (by kernel_rfl) (by kernel_rfl) (by kernel_rfl) (fun _ _ _ _ h => h) (by kernel_rfl) (fun w => by kernel_rfl) m1 ?_
            have BU := Lib.hid m1.2.2.2
            have KE : K2 { tmps := #[.agg (scs F (.slice (some ⟨b, o, none⟩) L.length c)), .pointer (some ⟨g1, 0, none⟩), u2, .int .i64 (k : Int), .pointer (some ⟨G4, 0, none⟩), .pointer (some ⟨g1, 0, none⟩), .agg (vf F), .bool true, .bool false, .bool false, .pointer (some ⟨g1, 64, none⟩), .slice (some ⟨b, o, none⟩) L.length c, .int .i64 (L.length : Int), .bool (decide (4096 < (L.length : Int))), .bool (decide (4096 < (L.length : Int))), .pointer (some ⟨g1, 64, none⟩), .slice (some ⟨b, o, none⟩) L.length c, .int .i64 (L.length : Int), .int .i64 (k : Int), .bool true, .int .i64 (k : Int), .pointer (some ⟨b, o + k * 6, none⟩), .agg #[.int .i64 yr, .int .i64 yn, .int .i64 yt, .string yd, .int .i64 yf, .string ytx], .agg #[.int .i64 yr, .int .i64 yn, .int .i64 yt, .string yd, .int .i64 yf, .string ytx], .bool false, .bool true, .bool true, undef, undef, undef, undef, undef, undef, .bool true, .bool true, undef, undef, undef, undef, undef, undef, undef, undef, undef, undef, undef, undef, undef, .bool true, u49], defers := [] } U1 := by
              refine hK2 _ _ ?_
              clear hK2 keep m0 m1
              go_wp2
              go_ret
              exact ⟨rfl, thenBelow B2.out BU.out⟩
            exact wpAnyH_done (by kernel_rfl) (Eq.mp (by kernel_rfl) KE) _
        · obtain rfl : k = L.length := by omega
          have hkl' : ¬ ((L.length : Nat) : Int) < L.length := by omega
          have ht : C = true := by
            rw [← HC.out]
            exact can_iff.2 ⟨HG.out, by omega, fun y hy => by
              obtain ⟨i, hi, rfl⟩ := List.getElem_of_mem hy
              exact HA.out i hi hi, ord_adj L fun i hi => HO.out i hi hi⟩
          subst ht
          go_wp2
          go_ret
          exact ⟨rfl, thenBelow B2.out BB.out⟩
end Go.Proofs.YtjmglgcifekhgaaDoor
/- Reading numbers out of any bytes: what comes of it (no number of a program stands here). -/
namespace Go.Proofs.YtjmglgcifekhgaaDoor
open Go Go.RowKit
set_option linter.unusedVariables false

namespace Cod
/-- how many ones a byte begins with -/
def ones (b : Nat) : Nat := 8 - Lib.bitLen (255 - b)
theorem ones_le (b : Nat) : ones b ≤ 8 := by unfold ones; omega
/-- what a byte says of the number's first bits -/
def frst (b : Nat) : Nat := b &&& (127 / 2 ^ ones b)
theorem frst_tab : ∀ b : Fin 256, frst b.val < 2 ^ (7 - ones b.val) ∧ (ones b.val < 8 → frst b.val = b.val % (128 / 2 ^ ones b.val)) ∧ (ones b.val = 8 → frst b.val = 0) := by decide +kernel
theorem bit_tab : ∀ b : Fin 256, ∀ i : Fin 8, i.val ≤ ones b.val → ((b.val &&& (128 / 2 ^ i.val)) ≠ 0 ↔ i.val < ones b.val) := by decide +kernel
/-- bytes behind a number's first bits -/
def fold (u : Nat) : List UInt8 → Nat
  | [] => u
  | c :: l => fold (u * 256 + c.toNat) l
theorem fold_snoc (u : Nat) (l : List UInt8) (c : UInt8) : fold u (l ++ [c]) = fold u l * 256 + c.toNat := by
  induction l generalizing u with
  | nil => rfl
  | cons a l ih => exact ih _
theorem fold_lt (l : List UInt8) : ∀ (u m : Nat), u < 2 ^ m → fold u l < 2 ^ (m + 8 * l.length) := by
  induction l with
  | nil => intro u m h; simpa [fold] using h
  | cons c l ih =>
    intro u m h
    have hc := c.toNat_lt
    have h2 : u * 256 + c.toNat < 2 ^ (m + 8) := by
      rw [Nat.pow_add]
      have : u + 1 ≤ 2 ^ m := h
      have e : (2 : Nat) ^ 8 = 256 := rfl
      have h3 : (u + 1) * 256 ≤ 2 ^ m * 256 := Nat.mul_le_mul_right _ this
      rw [e]; omega
    have := ih (u * 256 + c.toNat) (m + 8) h2
    simp only [fold, List.length_cons]
    rw [show m + 8 * (l.length + 1) = m + 8 + 8 * l.length by omega]
    exact this
/-- the first k bytes behind -/
theorem fold_take (u : Nat) (l : List UInt8) (k : Nat) (h : k < l.length) : fold u (l.take (k + 1)) = fold u (l.take k) * 256 + (l.getD k 0).toNat := by
  have e : l.take (k + 1) = l.take k ++ [l.getD k 0] := by
    rw [List.take_succ_eq_append_getElem h, List.getD_eq_getElem?_getD, List.getElem?_eq_getElem h]; rfl
  rw [e, fold_snoc]
theorem fold_small (b : UInt8) (l : List UInt8) (k : Nat) (hk : k ≤ ones b.toNat) : fold (frst b.toNat) (l.take k) < 18446744073709551616 ∧ (k < ones b.toNat → fold (frst b.toNat) (l.take k) * 256 + 255 < 18446744073709551616) := by
  have h1 := (frst_tab ⟨b.toNat, b.toNat_lt⟩).1
  have h8 := ones_le b.toNat
  have h2 := fold_lt (l.take k) (frst b.toNat) (7 - ones b.toNat) h1
  have hl : (l.take k).length ≤ k := by simp; omega
  constructor
  · refine Nat.lt_of_lt_of_le h2 ?_
    rw [show (18446744073709551616 : Nat) = 2 ^ 64 from rfl]
    exact Nat.pow_le_pow_right (by omega) (by omega)
  · intro hlt
    have h3 : fold (frst b.toNat) (l.take k) < 2 ^ 56 := Nat.lt_of_lt_of_le h2 (Nat.pow_le_pow_right (by omega) (by omega))
    omega
/-- a reader's state: the bytes that are left, and its error -/
abbrev S := List UInt8 × Nat
/-- the next number, whatever bytes there are -/
def next : List UInt8 → Nat × S
  | [] => (0, [], 4)
  | b :: t =>
    if t.length < ones b.toNat then (0, [], 4)
    else if bh (fold (frst b.toNat) (t.take (ones b.toNat))) = ones b.toNat then (fold (frst b.toNat) (t.take (ones b.toNat)), t.drop (ones b.toNat), 0)
    else (0, [], 3)
def anyS (s : S) : Nat × S := if s.2 = 0 then next s.1 else (0, s)
theorem next_lt (l : List UInt8) : (next l).1 < 18446744073709551616 := by
  unfold next
  split
  · decide
  · rename_i b t
    split
    · decide
    · split
      · exact (fold_small b t _ (Nat.le_refl _)).1
      · decide
theorem next_len (l : List UInt8) : (next l).2.1.length ≤ l.length := by
  unfold next
  split
  · simp
  · rename_i b t
    split
    · simp
    · split
      · simp; omega
      · simp
theorem anyS_lt (s : S) : (anyS s).1 < 18446744073709551616 := by
  unfold anyS; split
  · exact next_lt _
  · show (0 : Nat) < 18446744073709551616; decide
/-- a reader's state behind an error -/
def failS (c : Nat) (s : S) : S := if s.2 = 0 then ([], c) else s
theorem failS_zero (c : Nat) (l : List UInt8) : failS c (l, 0) = ([], c) := rfl
/-- a number of at most so much -/
def numS (most : Int) (s : S) : Nat × S :=
  if 9223372036854775808 ≤ (anyS s).1 ∨ most < ((anyS s).1 : Int) then (0, failS 5 (anyS s).2) else anyS s
/-- a state: an error leaves nothing -/
def Ok (s : S) : Prop := s.2 ≠ 0 → s.1 = []
theorem next_ok (l : List UInt8) : Ok (next l).2 := by
  unfold next Ok
  split
  · intro _; rfl
  · split
    · intro _; rfl
    · split
      · intro h; exact absurd rfl h
      · intro _; rfl
theorem anyS_ok {s : S} (h : Ok s) : Ok (anyS s).2 := by
  unfold anyS; split
  · exact next_ok _
  · exact h
theorem numS_ok {s : S} (most : Int) (h : Ok s) : Ok (numS most s).2 := by
  unfold numS
  split
  · show Ok (failS 5 (anyS s).2)
    unfold failS
    split
    · intro _; rfl
    · exact anyS_ok h
  · exact anyS_ok h
theorem numS_le {s : S} {most : Int} (h : (numS most s).2.2 = 0) : ((numS most s).1 : Int) ≤ most ∧ (numS most s).1 < 9223372036854775808 := by
  unfold numS at h ⊢
  split at h
  · have h : (failS 5 (anyS s).2).2 = 0 := h
    unfold failS at h
    split at h
    · cases h
    · rename_i h1 h2; exact absurd h h2
  · rename_i h1
    rw [if_neg h1]
    omega
theorem anyS_err {s : S} (h : s.2 ≠ 0) : anyS s = (0, s) := by unfold anyS; rw [if_neg h]
theorem anyS_zero {s : S} (h : (anyS s).2.2 ≠ 0) : (anyS s).1 = 0 := by
  unfold anyS at h ⊢
  split
  · rename_i h0
    rw [if_pos h0] at h
    unfold next at h ⊢
    split
    · rfl
    · rename_i b t heq
      rw [heq] at h
      simp only at h
      split
      · rfl
      · rename_i h1
        rw [if_neg h1] at h
        split
        · rename_i h2
          rw [if_pos h2] at h
          exact absurd rfl h
        · rfl
  · rfl
theorem numS_zero {s : S} {most : Int} (h : (numS most s).2.2 ≠ 0) : (numS most s).1 = 0 := by
  unfold numS at h ⊢
  split
  · rfl
  · rename_i h1
    rw [if_neg h1] at h
    exact anyS_zero h
theorem next_len2 (s : S) : (anyS s).2.1.length ≤ s.1.length := by
  unfold anyS; split
  · exact next_len _
  · exact Nat.le_refl _
theorem numS_len (most : Int) (s : S) : (numS most s).2.1.length ≤ s.1.length := by
  unfold numS
  split
  · show (failS 5 (anyS s).2).1.length ≤ _
    unfold failS
    split
    · simp
    · exact next_len2 s
  · exact next_len2 s
/-- numbers that rise: how many are still to be read, the last one, those that were read -/
def riseS (top : Int) : Nat → Int → List Int → S → Option (List Int) × S
  | 0, _, acc, s => (some acc, s)
  | n + 1, last, acc, s =>
    if (numS (top - 1 - last) s).2.2 = 0 then riseS top n (last + 1 + (numS (top - 1 - last) s).1) (acc ++ [last + 1 + ((numS (top - 1 - last) s).1 : Int)]) (numS (top - 1 - last) s).2
    else (none, (numS (top - 1 - last) s).2)
def riseAll (many top : Int) (s : S) : Option (List Int) × S := riseS top (numS many s).1 (-1) [] (numS many s).2
end Cod
end Go.Proofs.YtjmglgcifekhgaaDoor
/- The contracts of coder's rise and Rising. -/
namespace Go.Proofs.YtjmglgcifekhgaaDoor
open Go Go.RowKit

set_option maxHeartbeats 1000000 in
theorem rise_any (p : Option Addr) (c : Nat) (l : List Int) (w : World) (h : LiesI w p l) (hw : InI l) (hn : l.length ≤ 140737488355328) :
    Calls Tryd.prog 95 #[.slice p l.length c] w fun e w' => e = .returned (.int .i64 (Cod.riseN l : Nat)) ∧ w = w' := by
  have H := Lib.hid h; have HW := Lib.hid hw; clear h hw
  go_enter Tryd.func95, Tryd.ntmps95
  go_wp2
  go_loop [3, 4] (fun n u => ∃ k : Nat, k ≤ Cod.riseN l ∧ n = .int .i64 k ∧ u = .int .i64 (Cod.lastOf l k)) (fun n _ => l.length - (intOf n).toNat)
  case atStart => exact ⟨0, Nat.zero_le _, rfl, rfl⟩
  case round =>
    obtain ⟨k, hk, rfl, rfl⟩ := hrel
    have hkl : k ≤ l.length := Nat.le_trans hk (Cod.riseN_le l)
    have HK := Lib.hid hk; clear hk
    by_cases hlt : k < l.length
    · obtain ⟨b, o, rfl, _, hc⟩ := H.out.at (by omega)
      have hck := hc k hlt
      have hx := HW.out k hlt
      obtain ⟨x, hxe⟩ : ∃ x, x = l.getD k 0 := ⟨_, rfl⟩
      rw [← hxe] at hck hx
      obtain ⟨u, hue⟩ : ∃ u, u = Cod.lastOf l k := ⟨_, rfl⟩
      rw [← hue]
      obtain ⟨hx1, hx2⟩ := hx
      clear hc
      have hlt' : (k : Int) < l.length := by omega
      have HX := Lib.hid hxe; have HU := Lib.hid hue; clear hxe hue
      by_cases hup : u < x
      · have hup2 : Cod.lastOf l k < l.getD k 0 := by rw [← HX.out, ← HU.out]; exact hup
        have hnx := Cod.step_up l k HK.out hlt hup2
        have HN := Lib.hid hnx; clear hnx hup2
        go_wp2
        go_round
        case rel => exact ⟨k + 1, HN.out, by go_num, by rw [HX.out]; rfl⟩
        case measure => simp [intOf]; omega
      · have hat := Cod.at_count l k HK.out (.inr (by rw [← HX.out, ← HU.out]; exact hup))
        have HA := Lib.hid hat; clear hat
        go_wp2
        go_ret
        exact ⟨ret_int (by rw [HA.out]), rfl⟩
    · have hat := Cod.at_count l k HK.out (.inl (by omega))
      have HA := Lib.hid hat; clear hat
      have hge : ¬ ((k : Int) < l.length) := by omega
      go_wp2
      go_ret
      exact ⟨ret_int (by rw [HA.out]), rfl⟩

/-- what the next number must not be below -/
def leastOf (l : List Int) (k : Nat) : Int := Cod.lastOf l k + 1
theorem leastOf_zero (l : List Int) : leastOf l 0 = 0 := rfl
theorem leastOf_succ (l : List Int) (k : Nat) : leastOf l (k + 1) = l.getD k 0 + 1 := by simp [leastOf, Cod.lastOf]

set_option maxHeartbeats 1000000 in
theorem rising_any (p q : Option Addr) (c d : Nat) (b : List UInt8) (l : List Int) (w : World) (h : Given w p c b) (hl : LiesI w q l) (hw : InI l) (hlen : b.length + 9 * l.length ≤ 140737488354000) :
    Calls Tryd.prog 88 #[.slice p b.length c, .slice q l.length d] w (RetOwn w 5 (b ++ Cod.rising l)) := by
  have hcut := cutOff_any p b.length c h.le w
  have hrise := rise_any q d l w hl hw (by omega)
  have hle := Cod.riseN_le l
  obtain ⟨n, hn⟩ : ∃ n, n = Cod.riseN l := ⟨_, rfl⟩
  have hput := put_any w.heap.size (.slice p b.length b.length) b n w (.inr ⟨p, rfl, h.lies, fun e => (h.none e).1⟩) (Nat.le_refl _) (by omega) (by omega)
  have hel := enc_len n
  rw [← hn] at hrise hle
  have HN := Lib.hid hn; have HP := Lib.hid hput; have HL := Lib.hid hl; have HW := Lib.hid hw
  clear hput h hl hw hn
  go_enter Tryd.func88, Tryd.ntmps88
  go_wp2_with fail
  refine hrise.mono ?_
  rintro e w' ⟨rfl, rfl⟩
  go_wp2_with fail
  refine hcut.mono ?_
  rintro e w' ⟨rfl, rfl⟩
  go_wp2_with fail
  refine HP.out.mono ?_
  rintro e w1 ⟨v, rfl, hown, hb⟩
  have hown0 : w1.ownsRow w.heap.size 5 1 v (b ++ Cod.enc n ++ Cod.gaps l 0).length (bys (b ++ Cod.enc n ++ Cod.gaps l 0)) := by
    simpa [Cod.gaps] using hown
  have HO := Lib.hid hown0; have HB := Lib.hid hb
  clear hown hown0 hb hrise hcut
  go_wp2_with fail
  go_loopw [6, 7, 17] (fun u m i wr => ∃ k : Nat, k ≤ n ∧ i = .int .i64 k ∧ m = .int .i64 (wrap64 (leastOf l k)) ∧ wr.ownsRow w.heap.size 5 1 u (b ++ Cod.enc n ++ Cod.gaps l k).length (bys (b ++ Cod.enc n ++ Cod.gaps l k)) ∧ Below w.heap.size w wr) (fun _ _ i _ => n - (intOf i).toNat)
  case atStart => exact ⟨0, Nat.zero_le _, rfl, by rw [leastOf_zero, IntWalk.wrap64_in 0 ⟨by omega, by omega⟩], HO.out, HB.out⟩
  case round =>
    obtain ⟨k, hk, rfl, rfl, hown, hbw⟩ := hrel
    have hsz := hbw.size
    by_cases hkn : k < n
    · have hkl : k < l.length := by omega
      obtain ⟨b0, o, rfl, hb0, hc⟩ := HL.out.at (by omega)
      have hck0 := hc k hkl
      have hck : wr.cell? ⟨b0, o + k, none⟩ = some (.int .i64 (l.getD k 0)) := by rw [hbw.cell (p := ⟨b0, o + k, none⟩) hb0]; exact hck0
      clear hc hck0
      have hlt := Cod.rise_lt l k (by rw [← HN.out]; exact hkn)
      have hge := Cod.last_ge l k (by rw [← HN.out]; omega)
      obtain ⟨hx1, hx2⟩ := HW.out k hkl
      have hg : ((l.getD k 0) - leastOf l k) = (Cod.gap l k : Int) := by unfold Cod.gap leastOf; omega
      have hs : leastOf l (k + 1) = l.getD k 0 + 1 := leastOf_succ l k
      have hlo : 0 ≤ leastOf l k ∧ leastOf l k ≤ l.getD k 0 := by unfold leastOf; omega
      obtain ⟨x, hx⟩ : ∃ x, x = l.getD k 0 := ⟨_, rfl⟩
      obtain ⟨m, hm⟩ : ∃ m, m = leastOf l k := ⟨_, rfl⟩
      obtain ⟨g, hge'⟩ : ∃ g, g = Cod.gap l k := ⟨_, rfl⟩
      rw [← hx, ← hm] at hlo
      rw [← hx] at hck hs hx1 hx2
      rw [← hx, ← hm, ← hge'] at hg
      obtain ⟨hlo1, hlo2⟩ := hlo
      have hmw : wrap64 m = m := IntWalk.wrap64_in _ ⟨by omega, by omega⟩
      rw [← hm, hmw]
      have hgl := Cod.gaps_length l k
      have hel2 := enc_len g
      have hput := put_any w.heap.size _ (b ++ Cod.enc n ++ Cod.gaps l k) g wr (.inl hown) hsz (by omega) (by simp; omega)
      have HP2 := Lib.hid hput; have HG := Lib.hid hge'; have HS := Lib.hid hs; have HGI := Lib.hid hg
      have HBW := Lib.hid hbw
      clear hput hge' hs hg hm hx hlt hge hown hmw hbw
      go_wp2_with fail
      rw [HGI.out]
      refine HP2.out.mono ?_
      rintro e w2 ⟨v2, rfl, hown2, hb2⟩
      have hck2 : w2.cell? ⟨b0, o + k, none⟩ = some (.int .i64 x) := by rw [hb2.cell (p := ⟨b0, o + k, none⟩) hb0]; exact hck
      have O2 := Lib.hid hown2; have B2 := Lib.hid hb2
      clear hown2 hb2
      go_wp2
      go_roundw
      case rel => exact ⟨k + 1, by omega, by go_num, by first | rw [HS.out] | (rw [HS.out, IntWalk.wrap64_in _ ⟨by omega, by omega⟩]), by rw [Cod.gaps, ← HG.out, ← List.append_assoc]; exact O2.out, HBW.out.trans B2.out⟩
      case measure => simp [intOf]; omega
    · obtain rfl : k = n := by omega
      go_wp2
      go_ret
      exact RetOwn.of_own (by unfold Cod.rising; rw [← HN.out, ← List.append_assoc]; exact hown) rfl hbw
end Go.Proofs.YtjmglgcifekhgaaDoor
/- A reader that Read made: Rising, on what was written; and ints of the call's own. -/
namespace Go.Proofs.YtjmglgcifekhgaaDoor
open Go Go.RowKit

theorem own_stays {w w' : World} {B R : Nat} {ty : TypeId} {n : Nat} {v : Value} {xs : List Value} (h : w.ownsRow B ty 1 v n xs) (hg : w.grownBy w' (some R)) (hR : R < B) : w'.ownsRow B ty 1 v n xs := by
  refine ⟨h.1, ?_⟩
  rcases h.2 with q | ⟨g, cap, cur, q1, q2, q3, q4⟩
  · exact .inl q
  · exact .inr ⟨g, cap, cur, q1, q2, by rw [hg.block g (Array.getElem?_eq_some_iff.1 q3).1 (fun e => by have := Option.some.inj e; omega)]; exact q3, q4⟩
theorem Rd.lt {w : World} {B : Nat} {l : List UInt8} (h : Rd w B l) : B < w.heap.size := by
  obtain ⟨_, _, _, hh, _, _⟩ := h
  exact (Array.getElem?_eq_some_iff.1 hh).1
/-- what is allotted above leaves a reader as it is -/
theorem Rd.below {w w' : World} {B : Nat} {l : List UInt8} (h : Rd w B l) (hb : Below w.heap.size w w') : Rd w' B l := by
  have hlt := h.lt
  obtain ⟨b, o, c, hh, hc, hl, hbB⟩ := h
  refine ⟨b, o, c, by rw [hb.block B hlt]; exact hh, fun i hi => ?_, hl, hbB⟩
  have h1 := hc i hi
  rw [hb.cell (p := ⟨b, o + i, none⟩) (World.block_lt_of_cell? w _ h1)]; exact h1
theorem Rd.under {w w' : World} {B T : Nat} {l : List UInt8} (h : Rd w B l) (hT : B < T) (hb : Below T w w') : Rd w' B l := by
  obtain ⟨b, o, c, hh, hc, hl, hbB⟩ := h
  refine ⟨b, o, c, by rw [hb.block B hT]; exact hh, fun i hi => ?_, hl, hbB⟩
  rw [hb.cell (p := ⟨b, o + i, none⟩) (Nat.lt_trans hbB hT)]; exact hc i hi
theorem grown_under {a w w' : World} {R : Option Nat} (h : a.grownBy w R) (hb : Below a.heap.size w w') : a.grownBy w' R :=
  ⟨hb.os.trans h.os, hb.tape.trans h.tape, hb.output.trans h.output, Nat.le_trans h.size hb.size, fun k hk hne => (hb.block k hk).trans (h.block k hk hne)⟩
theorem grown_carry {a w w' : World} {R : Option Nat} (h : a.grownBy w R) (hb : Below a.heap.size w w') : a.grownBy w' R :=
  ⟨hb.os.trans h.os, hb.tape.trans h.tape, hb.output.trans h.output, Nat.le_trans h.size hb.size, fun k hk hne => (hb.block k hk).trans (h.block k hk hne)⟩

namespace Cod
theorem gaps_split (l : List Int) (k n : Nat) (h : k ≤ n) : ∃ r, gaps l n = gaps l k ++ r := by
  induction n with
  | zero => obtain rfl : k = 0 := by omega
            exact ⟨[], by simp [gaps]⟩
  | succ n ih =>
    by_cases e : k = n + 1
    · subst e; exact ⟨[], by simp⟩
    · obtain ⟨r, hr⟩ := ih (by omega)
      exact ⟨r ++ enc (gap l n), by simp only [gaps, hr, List.append_assoc]⟩
def rem (l : List Int) (n k : Nat) : List UInt8 := (gaps l n).drop (gaps l k).length
theorem rem_zero (l : List Int) (n : Nat) : rem l n 0 = gaps l n := rfl
theorem rem_end (l : List Int) (n : Nat) : rem l n n = [] := by simp [rem]
theorem rem_step (l : List Int) (n k : Nat) (h : k < n) : rem l n k = enc (gap l k) ++ rem l n (k + 1) := by
  obtain ⟨r, hr⟩ := gaps_split l (k + 1) n h
  unfold rem
  rw [hr, List.drop_left]
  show (gaps l k ++ enc (gap l k) ++ r).drop _ = _
  rw [List.append_assoc, List.drop_left]
theorem rem_len (l : List Int) (n k : Nat) : (rem l n k).length ≤ (gaps l n).length := by simp [rem]
end Cod

/-- what Rising comes to -/
def GotI (w : World) (B : Nat) (l : List Int) (m : List UInt8) (e : Ending) (w' : World) : Prop :=
  ∃ v, e = .returned v ∧ w'.ownsRow w.heap.size 3 1 v l.length (ints l) ∧ Rd w' B m ∧ w.grownBy w' (some B)

set_option maxHeartbeats 2000000 in
set_option maxRecDepth 100000 in
theorem risingIn_live (B : Nat) (many top : Int) (l : List Int) (m : List UInt8) (w : World) (h : Rd w B (Cod.rising l ++ m)) (hall : Cod.riseN l = l.length) (hmany : (l.length : Int) ≤ many ∧ many ≤ 100000)
    (ht : -1 ≤ top ∧ top ≤ 9223372036854775807) (htop : ∀ i, i < l.length → l.getD i 0 ≤ top) (hl : (Cod.rising l ++ m).length ≤ 150000000000000) :
    Calls Tryd.prog 72 #[.pointer (some ⟨B, 0, none⟩), .int .i64 many, .int .i64 top] w (GotI w B l m) := by
  have hBw := h.lt
  obtain ⟨n, hn⟩ : ∃ n, n = l.length := ⟨_, rfl⟩
  have hl0 := hl
  unfold Cod.rising at h hl
  rw [hall, ← hn, List.append_assoc] at h hl
  rw [← hn] at hmany
  have hn1 := numIn_live B n many (Cod.gaps l n ++ m) w h (by omega) (by omega) hl
  have hgm : (Cod.gaps l n ++ m).length ≤ 150000000000000 := by rw [List.length_append] at hl; omega
  have HN := Lib.hid hn; have HT := Lib.hid htop; have HA := Lib.hid hall; have GM := Lib.hid hgm; have N1 := Lib.hid hn1
  obtain ⟨hmany1, hmany2⟩ := hmany
  obtain ⟨ht1, ht2⟩ := ht
  clear h hall htop hn hl hl0 hgm hn1
  go_enter Tryd.func72, Tryd.ntmps72
  go_wp2_with fail
  refine N1.out.mono ?_
  rintro e w1 ⟨rfl, r1, g1⟩
  have R1 := Lib.hid r1; have G1 := Lib.hid g1; clear r1 g1 N1
  go_wp2
  go_loopw [8, 9, 17] (fun v u i wr => ∃ k : Nat, k ≤ n ∧ i = .int .i64 k ∧ u = .int .i64 (Cod.lastOf l k) ∧ wr.ownsRow w.heap.size 3 1 v k (ints (l.take k)) ∧ Rd wr B (Cod.rem l n k ++ m) ∧ w.grownBy wr (some B)) (fun _ _ i _ => n - (intOf i).toNat)
  case atStart => exact ⟨0, Nat.zero_le _, rfl, rfl, World.ownsRow_nil _ _ _ _, R1.out, G1.out⟩
  case round =>
    obtain ⟨k, hk, rfl, rfl, hown, hrd, hgr⟩ := hrel
    have OW := Lib.hid hown; have RD := Lib.hid hrd; have GR := Lib.hid hgr
    clear hown hrd hgr
    by_cases hkn : k < n
    · have hkl : k < l.length := by rw [← HN.out]; exact hkn
      have hlt := Cod.rise_lt l k (by rw [HA.out]; exact hkl)
      have hge := Cod.last_ge l k (by rw [HA.out]; omega)
      have hup := HT.out k hkl
      have hgap : (Cod.gap l k : Int) = l.getD k 0 - (Cod.lastOf l k + 1) := by unfold Cod.gap; omega
      have hls : Cod.lastOf l (k + 1) = l.getD k 0 := by simp [Cod.lastOf]
      have htk : l.take (k + 1) = l.take k ++ [l.getD k 0] := by rw [List.take_succ_eq_append_getElem hkl]; simp [List.getD, List.getElem?_eq_getElem hkl]
      have rd := RD.out
      rw [Cod.rem_step l n k hkn, List.append_assoc] at rd
      have hrl : (Cod.enc (Cod.gap l k) ++ (Cod.rem l n (k + 1) ++ m)).length ≤ 150000000000000 := by
        rw [← List.append_assoc, ← Cod.rem_step l n k hkn, List.length_append]
        have := Cod.rem_len l n k; have := GM.out; rw [List.length_append] at this; omega
      obtain ⟨x, hx⟩ : ∃ x, x = l.getD k 0 := ⟨_, rfl⟩
      obtain ⟨u, hu⟩ : ∃ u, u = Cod.lastOf l k := ⟨_, rfl⟩
      obtain ⟨g, hg⟩ : ∃ g, g = Cod.gap l k := ⟨_, rfl⟩
      rw [← hu, ← hx] at hlt
      rw [← hu] at hge ⊢
      rw [← hx] at hup hls htk
      rw [← hg, ← hx, ← hu] at hgap
      rw [← hg] at rd hrl
      have nu := numIn_live B g (top - 1 - u) _ wr rd (by omega) (by omega) hrl
      have NU := Lib.hid nu; have LS := Lib.hid hls; have TK := Lib.hid htk
      have hxg : u + 1 + (g : Int) = x := by omega
      have XG := Lib.hid hxg
      clear nu hls htk rd hrl hx hu hg hxg hgap
      go_wp2_with fail
      refine NU.out.mono ?_
      rintro e w2 ⟨rfl, r2, g2⟩
      have er := err_live B _ w2 r2
      have R2 := Lib.hid r2; have G2 := Lib.hid (grown_trans GR.out g2); have O2 := Lib.hid (own_stays OW.out g2 hBw)
      have ER := Lib.hid er
      clear r2 g2 NU OW RD GR er
      go_wp2_with fail
      refine ER.out.mono ?_
      rintro e w' ⟨rfl, rfl⟩
      clear ER
      have hsz := G2.out.size
      rw [← XG.out] at hup hlt
      go_wp2_with (at_builtin; refine wpList_int isI64 _ rfl _ _ rfl w.heap.size k (l.take k) _ rfl O2.out _ rfl (by omega) hsz ?_)
      rw [XG.out]
      intro v3 w3 own3 b3
      have O3 := Lib.hid own3; have B3 := Lib.hid b3
      clear own3 b3
      go_wp2
      go_roundw
      case rel => exact ⟨k + 1, by omega, by go_num, by rw [LS.out], by rw [TK.out]; exact O3.out, R2.out.under hBw B3.out, grown_carry G2.out B3.out⟩
      case measure => simp [intOf]; omega
    · obtain rfl : k = n := by omega
      go_wp2
      go_ret
      have hown := OW.out
      have hrd := RD.out
      rw [Cod.rem_end, List.nil_append] at hrd
      rw [List.take_of_length_le (by rw [HN.out]; exact Nat.le_refl _), HN.out] at hown
      exact ⟨_, rfl, hown, hrd, GR.out⟩
end Go.Proofs.YtjmglgcifekhgaaDoor
/- slices.Equal of ints that are the same. -/
namespace Go.Proofs.YtjmglgcifekhgaaDoor
open Go Go.RowKit
set_option linter.unusedVariables false

theorem below_drewN {B : Nat} {a w : World} (h : Below B a w) (n : Nat) : Below B a (w.drewN n) := ⟨h.os, h.tape, h.output, h.size, h.block⟩
end Go.Proofs.YtjmglgcifekhgaaDoor
/- Lists that rise: one more at the end; the last is the greatest. And slices.Equal over ints. -/
namespace Go.Proofs.YtjmglgcifekhgaaDoor
open Go Go.RowKit
namespace Cod
theorem riseFrom_snoc (acc : List Int) (x : Int) : ∀ last : Int, riseFrom last acc = acc.length → acc.getLastD last < x → riseFrom last (acc ++ [x]) = acc.length + 1 := by
  induction acc with
  | nil => intro last _ h; simp at h; simp [riseFrom, h]
  | cons y r ih =>
    intro last h1 h2
    simp only [riseFrom, List.length_cons] at h1
    simp only [List.cons_append, riseFrom, List.length_cons]
    split at h1
    · rename_i hy
      rw [if_pos hy, ih y (by omega) (by rw [List.getLastD_cons] at h2; exact h2)]
    · omega
theorem last_getD (acc : List Int) : acc.getLastD (-1) = lastOf acc acc.length := by
  unfold lastOf
  rw [List.getLastD_eq_getLast?, List.getLast?_eq_getElem?, List.getD]
  split
  · rename_i h; simp [h]
  · rename_i h
    rw [List.getElem?_eq_getElem (by omega)]; rfl
theorem rise_snoc (acc : List Int) (x : Int) (h : riseN acc = acc.length) (hx : lastOf acc acc.length < x) : riseN (acc ++ [x]) = (acc ++ [x]).length := by
  unfold riseN at h ⊢
  rw [riseFrom_snoc acc x (-1) h (by rw [last_getD]; exact hx), List.length_append]; rfl
theorem rise_up (l : List Int) (h : riseN l = l.length) (i d : Nat) (hi : i + d < l.length) : l.getD i 0 ≤ l.getD (i + d) 0 := by
  induction d with
  | zero => exact Int.le_refl _
  | succ d ih =>
    have h1 := ih (by omega)
    have h2 := rise_lt l (i + d + 1) (by rw [h]; omega)
    have h3 : lastOf l (i + d + 1) = l.getD (i + d) 0 := by simp [lastOf]
    rw [h3] at h2
    show l.getD i 0 ≤ l.getD (i + d + 1) 0
    omega
/-- no number of a list is above one -/
def Top (top : Int) (l : List Int) : Prop := (-1 ≤ top ∧ top ≤ 9223372036854775807) ∧ ∀ i, i < l.length → l.getD i 0 ≤ top
theorem top_nil : Top 0 [] := ⟨by omega, fun i hi => by simp at hi⟩
theorem top_last (l : List Int) (h : riseN l = l.length) (h0 : 0 < l.length) (hw : -9223372036854775808 ≤ l.getD (l.length - 1) 0 ∧ l.getD (l.length - 1) 0 ≤ 9223372036854775807) : Top (l.getD (l.length - 1) 0) l := by
  have h2 := rise_lt l (l.length - 1) (by rw [h]; omega)
  have h3 := last_ge l (l.length - 1) (by rw [h]; omega)
  refine ⟨⟨by omega, hw.2⟩, fun i hi => ?_⟩
  have := rise_up l h i (l.length - 1 - i) (by omega)
  rwa [show i + (l.length - 1 - i) = l.length - 1 from by omega] at this
end Cod

end Go.Proofs.YtjmglgcifekhgaaDoor
/- A vector's bytes: its places that are not 0, as numbers that rise, and what stands there; what reading any bytes comes to. No function of a program stands here. -/
namespace Go.Proofs.YtjmglgcifekhgaaDoor
open Go Go.RowKit
set_option linter.unusedVariables false

namespace Cod
/-! ### reading what was written -/
theorem ofNat_mod (n : Nat) : (UInt8.ofNat n).toNat = n % 256 := by simp
theorem fold_dig (x k : Nat) : fold (x / 256 ^ k) (dig k x) = x := by
  induction k with
  | zero => simp [dig, fold]
  | succ k ih =>
    simp only [dig, fold, ofNat_mod]
    have h : x / 256 ^ (k + 1) * 256 + x / 256 ^ k % 256 = x / 256 ^ k := by
      rw [Nat.pow_succ, ← Nat.div_div_eq_div_mul]
      omega
    rw [h, ih]
theorem next_enc (x : Nat) (hx : x < 18446744073709551616) (m : List UInt8) : next (enc x ++ m) = (x, m, 0) := by
  have h1 := head_lt x hx
  have e : (UInt8.ofNat (head x (bh x))).toNat = head x (bh x) := by rw [ofNat_mod]; omega
  have ho : ones (UInt8.ofNat (head x (bh x))).toNat = bh x := by rw [e]; exact head_ones x hx
  have hf : frst (UInt8.ofNat (head x (bh x))).toNat = x / 256 ^ bh x := by
    unfold frst; rw [ho, e]; exact top_of x hx
  have hl : (dig (bh x) x).length = bh x := dig_length _ _
  unfold enc
  rw [List.cons_append]
  unfold next
  simp only [ho, hf]
  rw [if_neg (by rw [List.length_append, hl]; omega), List.take_left' hl, List.drop_left' hl, fold_dig, if_pos rfl]
theorem numS_enc (x : Nat) (most : Int) (h1 : (x : Int) ≤ most) (h2 : x < 9223372036854775808) (m : List UInt8) : numS most (enc x ++ m, 0) = (x, m, 0) := by
  have e : anyS (enc x ++ m, 0) = (x, m, 0) := by unfold anyS; rw [if_pos rfl]; exact next_enc x (by omega) m
  unfold numS
  rw [e, if_neg (by simp only; omega)]
theorem riseS_back (l : List Int) (top : Int) (m : List UInt8) (hr : riseN l = l.length) (ht : ∀ i, i < l.length → l.getD i 0 ≤ top) (h63 : top ≤ 9223372036854775807) :
    ∀ d k, k + d = l.length → riseS top d (lastOf l k) (l.take k) (rem l l.length k ++ m, 0) = (some l, m, 0) := by
  intro d
  induction d with
  | zero =>
    intro k hk
    obtain rfl : k = l.length := by omega
    unfold riseS
    rw [rem_end, List.take_length, List.nil_append]
  | succ d ih =>
    intro k hk
    have hlt := rise_lt l k (by omega)
    have hge := last_ge l k (by omega)
    have hto := ht k (by omega)
    have hg : ((gap l k : Nat) : Int) = l.getD k 0 - (lastOf l k + 1) := by unfold gap; omega
    have hn : numS (top - 1 - lastOf l k) (rem l l.length k ++ m, 0) = (gap l k, rem l l.length (k + 1) ++ m, 0) := by
      rw [rem_step l l.length k (by omega), List.append_assoc]
      exact numS_enc _ _ (by omega) (by omega) _
    unfold riseS
    rw [hn]
    simp only [if_true]
    have e1 : lastOf l k + 1 + ((gap l k : Nat) : Int) = l.getD k 0 := by omega
    have e2 : lastOf l (k + 1) = l.getD k 0 := by simp [lastOf]
    have e3 : l.take (k + 1) = l.take k ++ [l.getD k 0] := by
      rw [List.take_succ_eq_append_getElem (by omega), List.getD_eq_getElem?_getD, List.getElem?_eq_getElem (by omega)]; rfl
    rw [e1]
    have := ih (k + 1) (by omega)
    rw [e2, e3] at this
    exact this
theorem riseAll_back (l : List Int) (many top : Int) (m : List UInt8) (hr : riseN l = l.length) (hm : (l.length : Int) ≤ many) (hl : l.length < 9223372036854775808) (ht : ∀ i, i < l.length → l.getD i 0 ≤ top) (h63 : top ≤ 9223372036854775807) :
    riseAll many top (rising l ++ m, 0) = (some l, m, 0) := by
  unfold riseAll rising
  rw [hr, List.append_assoc, numS_enc _ _ hm hl]
  simp only
  have := riseS_back l top m hr ht h63 l.length 0 (by omega)
  rw [rem_zero] at this
  exact this
end Cod

/-! ### places that are not 0 -/
def pl (f : Nat → Int) : Nat → List Int
  | 0 => []
  | k + 1 => if f k = 0 then pl f k else pl f k ++ [(k : Int)]
theorem pl_len (f : Nat → Int) (k : Nat) : (pl f k).length ≤ k := by
  induction k with
  | zero => simp [pl]
  | succ k ih =>
    simp only [pl]; split
    · omega
    · rw [List.length_append]; simp; omega
theorem mem_pl (f : Nat → Int) (k : Nat) (x : Int) : x ∈ pl f k ↔ ∃ i : Nat, i < k ∧ f i ≠ 0 ∧ x = i := by
  induction k with
  | zero => simp [pl]
  | succ k ih =>
    simp only [pl]
    by_cases h : f k = 0
    · rw [if_pos h, ih]
      constructor
      · rintro ⟨i, h1, h2, h3⟩; exact ⟨i, by omega, h2, h3⟩
      · rintro ⟨i, h1, h2, h3⟩
        by_cases e : i = k
        · subst e; exact absurd h h2
        · exact ⟨i, by omega, h2, h3⟩
    · rw [if_neg h, List.mem_append, ih]
      constructor
      · rintro (⟨i, h1, h2, h3⟩ | h1)
        · exact ⟨i, by omega, h2, h3⟩
        · simp at h1; exact ⟨k, by omega, h, h1⟩
      · rintro ⟨i, h1, h2, h3⟩
        by_cases e : i = k
        · subst e; right; simp [h3]
        · left; exact ⟨i, by omega, h2, h3⟩
theorem pl_at (f : Nat → Int) (n k : Nat) (h : k < (pl f n).length) : ∃ i : Nat, i < n ∧ f i ≠ 0 ∧ (pl f n).getD k 0 = (i : Int) := by
  have h1 : (pl f n).getD k 0 ∈ pl f n := by rw [List.getD_eq_getElem?_getD, List.getElem?_eq_getElem h]; exact List.getElem_mem h
  exact (mem_pl f n _).1 h1
theorem pl_rise (f : Nat → Int) (n : Nat) : Cod.riseN (pl f n) = (pl f n).length ∧ Cod.lastOf (pl f n) (pl f n).length < n := by
  induction n with
  | zero => simp [pl, Cod.riseN, Cod.riseFrom, Cod.lastOf]
  | succ n ih =>
    simp only [pl]
    split
    · exact ⟨ih.1, by omega⟩
    · refine ⟨Cod.rise_snoc _ _ ih.1 ih.2, ?_⟩
      rw [List.length_append]
      simp [Cod.lastOf]
      omega
theorem pl_in (f : Nat → Int) (n : Nat) (hn : n ≤ 64) : InI (pl f n) := by
  intro k hk
  obtain ⟨i, h1, _, h2⟩ := pl_at f n k hk
  omega
theorem pl_top (f : Nat → Int) (n k : Nat) (hk : k < (pl f n).length) : (pl f n).getD k 0 ≤ (n : Int) - 1 := by
  obtain ⟨i, h1, _, h2⟩ := pl_at f n k hk
  omega

/-! ### a vector's bytes -/
def tls (f : Nat → Int) : List Int → List UInt8
  | [] => []
  | x :: l => Cod.enc (f x.toNat - 1).toNat ++ tls f l
theorem tls_app (f : Nat → Int) (a b : List Int) : tls f (a ++ b) = tls f a ++ tls f b := by
  induction a with
  | nil => rfl
  | cons x a ih => simp [tls, ih]
theorem tls_len (f : Nat → Int) (l : List Int) : (tls f l).length ≤ 9 * l.length := by
  induction l with
  | nil => simp [tls]
  | cons x l ih => have := enc_len (f x.toNat - 1).toNat; simp only [tls, List.length_append, List.length_cons]; omega
theorem take_getD (l : List Int) (k : Nat) (h : k < l.length) : l.take (k + 1) = l.take k ++ [l.getD k 0] := by
  rw [List.take_succ_eq_append_getElem h, List.getD_eq_getElem?_getD, List.getElem?_eq_getElem h]; rfl
theorem tls_step (f : Nat → Int) (l : List Int) (k : Nat) (h : k < l.length) : tls f (l.take (k + 1)) = tls f (l.take k) ++ Cod.enc (f (l.getD k 0).toNat - 1).toNat := by
  rw [take_getD l k h, tls_app]; simp [tls]
def vbytes (f : Nat → Int) : List UInt8 := if goodB f = true then Cod.rising (pl f 64) ++ tls f (pl f 64) else []
theorem rising_len64 (l : List Int) : (Cod.rising l).length ≤ 9 + 9 * l.length := by
  unfold Cod.rising
  have h1 := enc_len (Cod.riseN l)
  have h2 := Cod.gaps_length l (Cod.riseN l)
  have h3 := Cod.riseN_le l
  rw [List.length_append]; omega
theorem vbytes_len (f : Nat → Int) : (vbytes f).length ≤ 1200 := by
  unfold vbytes
  split
  · have h1 := rising_len64 (pl f 64)
    have h2 := tls_len f (pl f 64)
    have h3 := pl_len f 64
    rw [List.length_append]; omega
  · simp

/-! ### a vector of any bytes -/
def fillS : List Int → (Nat → Int) → Cod.S → (Nat → Int) × Cod.S
  | [], f, s => (f, s)
  | x :: l, f, s => fillS l (vset f x.toNat (((Cod.numS 1073741823 s).1 : Int) + 1)) (Cod.numS 1073741823 s).2
theorem fillS_app (a b : List Int) : ∀ (f : Nat → Int) (s : Cod.S), fillS (a ++ b) f s = fillS b (fillS a f s).1 (fillS a f s).2 := by
  induction a with
  | nil => intro f s; rfl
  | cons x a ih => intro f s; exact ih _ _
theorem fillS_step (l : List Int) (f : Nat → Int) (s : Cod.S) (k : Nat) (h : k < l.length) :
    fillS (l.take (k + 1)) f s = (vset (fillS (l.take k) f s).1 (l.getD k 0).toNat (((Cod.numS 1073741823 (fillS (l.take k) f s).2).1 : Int) + 1), (Cod.numS 1073741823 (fillS (l.take k) f s).2).2) := by
  rw [take_getD l k h, fillS_app]; rfl
theorem fillS_len (l : List Int) : ∀ (f : Nat → Int) (s : Cod.S), (fillS l f s).2.1.length ≤ s.1.length := by
  induction l with
  | nil => intro f s; exact Nat.le_refl _
  | cons x l ih => intro f s; exact Nat.le_trans (ih _ _) (Cod.numS_len _ _)
def rdL (s : Cod.S) : List Int := (Cod.riseAll 64 63 s).1.getD []
def rdS (s : Cod.S) : (Nat → Int) × Cod.S := fillS (rdL s) (fun _ => 0) (Cod.riseAll 64 63 s).2
def outS (s : Cod.S) : Cod.S := (rdS s).2
def outV (s : Cod.S) : Nat → Int := if (outS s).2 = 0 then (rdS s).1 else fun _ => 0
/-- the numbers of a place that were read are places -/
def InL (top : Int) (l : List Int) : Prop := ∀ x ∈ l, 0 ≤ x ∧ x ≤ top
theorem riseS_inL (top : Int) (n : Nat) : ∀ (last : Int) (acc : List Int) (s : Cod.S), -1 ≤ last → InL top acc → InL top ((Cod.riseS top n last acc s).1.getD []) := by
  induction n with
  | zero => intro last acc s _ h; exact h
  | succ n ih =>
    intro last acc s h1 h2
    unfold Cod.riseS
    split
    · rename_i h0
      have h3 := (Cod.numS_le h0).1
      refine ih _ _ _ (by omega) ?_
      intro x hx
      rcases List.mem_append.1 hx with h4 | h4
      · exact h2 x h4
      · simp at h4; omega
    · intro x hx; simp at hx
theorem riseS_lenL (top : Int) (n : Nat) : ∀ (last : Int) (acc : List Int) (s : Cod.S), ((Cod.riseS top n last acc s).1.getD []).length ≤ acc.length + n := by
  induction n with
  | zero => intro last acc s; unfold Cod.riseS; simp
  | succ n ih =>
    intro last acc s
    unfold Cod.riseS
    split
    · refine Nat.le_trans (ih _ _ _) ?_
      simp; omega
    · simp
theorem riseS_left (top : Int) (n : Nat) : ∀ (last : Int) (acc : List Int) (s : Cod.S), (Cod.riseS top n last acc s).2.1.length ≤ s.1.length := by
  induction n with
  | zero => intro last acc s; exact Nat.le_refl _
  | succ n ih =>
    intro last acc s
    unfold Cod.riseS
    split
    · exact Nat.le_trans (ih _ _ _) (Cod.numS_len _ _)
    · exact Cod.numS_len _ _
theorem rdL_in (s : Cod.S) : InL 63 (rdL s) := riseS_inL _ _ _ _ _ (by omega) (fun x hx => by simp at hx)
theorem rdL_at (s : Cod.S) (k : Nat) (h : k < (rdL s).length) : ∃ i : Nat, i < 64 ∧ (rdL s).getD k 0 = (i : Int) := by
  have h1 : (rdL s).getD k 0 ∈ rdL s := by rw [List.getD_eq_getElem?_getD, List.getElem?_eq_getElem h]; exact List.getElem_mem h
  obtain ⟨h2, h3⟩ := rdL_in s _ h1
  exact ⟨((rdL s).getD k 0).toNat, by omega, by omega⟩
theorem rdR_len (s : Cod.S) : (Cod.riseAll 64 63 s).2.1.length ≤ s.1.length := Nat.le_trans (riseS_left _ _ _ _ _) (Cod.numS_len _ _)
theorem outS_len (s : Cod.S) : (outS s).1.length ≤ s.1.length := Nat.le_trans (fillS_len _ _ _) (rdR_len s)
theorem fill_back (f : Nat → Int) (hg : ∀ i, i < 64 → 0 ≤ f i ∧ f i ≤ 1073741824) (m : List UInt8) (l : List Int) : (∀ x ∈ l, ∃ i : Nat, i < 64 ∧ f i ≠ 0 ∧ x = i) → ∀ g : Nat → Int,
    (fillS l g (tls f l ++ m, 0)).2 = (m, 0) ∧ ∀ i, (fillS l g (tls f l ++ m, 0)).1 i = if (i : Int) ∈ l then f i else g i := by
  induction l with
  | nil => intro _ g; exact ⟨rfl, fun i => by simp [fillS]⟩
  | cons x l ih =>
    intro h g
    obtain ⟨j, hj, hj0, rfl⟩ := h x (by simp)
    have hgj := hg j hj
    have hn : Cod.numS 1073741823 (tls f ((j : Int) :: l) ++ m, 0) = ((f j - 1).toNat, tls f l ++ m, 0) := by
      show Cod.numS 1073741823 (Cod.enc (f (j : Int).toNat - 1).toNat ++ tls f l ++ m, 0) = _
      rw [List.append_assoc, Int.toNat_natCast]
      exact Cod.numS_enc (f j - 1).toNat 1073741823 (by omega) (by omega) _
    obtain ⟨i1, i2⟩ := ih (fun y hy => h y (by simp [hy])) (vset g j (((f j - 1).toNat : Int) + 1))
    unfold fillS
    rw [hn]
    simp only [Int.toNat_natCast]
    refine ⟨i1, fun i => ?_⟩
    rw [i2 i]
    by_cases h1 : (i : Int) ∈ l
    · rw [if_pos h1, if_pos (by simp [h1])]
    · rw [if_neg h1]
      by_cases h2 : i = j
      · subst h2
        rw [if_pos (by simp)]
        simp only [vset, if_true]
        omega
      · rw [if_neg (by simp [h1]; omega)]
        simp [vset, h2]
/-- what was written is read -/
theorem vec_back (f : Nat → Int) (hg : goodB f = true) (m : List UInt8) : outS (vbytes f ++ m, 0) = (m, 0) ∧ ∀ i, i < 64 → outV (vbytes f ++ m, 0) i = f i := by
  have hg2 := (good_iff f).1 hg
  have h1 : Cod.riseAll 64 63 (vbytes f ++ m, 0) = (some (pl f 64), tls f (pl f 64) ++ m, 0) := by
    unfold vbytes
    rw [if_pos hg, List.append_assoc]
    have := pl_len f 64
    exact Cod.riseAll_back _ _ _ _ (pl_rise f 64).1 (by omega) (by omega) (fun k hk => by have := pl_top f 64 k hk; omega) (by omega)
  obtain ⟨i1, i2⟩ := fill_back f hg2 m (pl f 64) (fun x hx => (mem_pl f 64 x).1 hx) (fun _ => 0)
  have e : rdS (vbytes f ++ m, 0) = fillS (pl f 64) (fun _ => 0) (tls f (pl f 64) ++ m, 0) := by unfold rdS rdL; rw [h1]; rfl
  have e2 : outS (vbytes f ++ m, 0) = (m, 0) := by unfold outS; rw [e]; exact i1
  refine ⟨e2, fun i hi => ?_⟩
  unfold outV
  rw [e2, if_pos rfl, e, i2 i]
  by_cases h : (i : Int) ∈ pl f 64
  · rw [if_pos h]
  · rw [if_neg h]
    by_cases h0 : f i = 0
    · exact h0.symm
    · exact absurd ((mem_pl f 64 i).2 ⟨i, hi, h0, rfl⟩) h
end Go.Proofs.YtjmglgcifekhgaaDoor
/- The contracts of the document's own Text and Rising. -/
namespace Go.Proofs.YtjmglgcifekhgaaDoor
open Go Go.RowKit

theorem lies_row (w : World) (ty : TypeId) (m : Nat × Nat) (l : List UInt8) (cs : Array Value) (hcs : ∀ i, i < l.length → cs[i]? = some (.int .u8 ((l.getD i 0).toNat : Int))) : Lies (w.alloc (.cells cs ty m)) (some ⟨w.heap.size, 0, none⟩) l := by
  intro _
  refine ⟨w.heap.size, 0, rfl, fun i hi => ?_⟩
  rw [Nat.zero_add, cell_of_row (w.alloc _) w.heap.size i _ ty m (heap_alloc_new w _)]
  exact hcs i hi

end Go.Proofs.YtjmglgcifekhgaaDoor
/- A vector's bytes behind any others: as the program writes them, and as the document does. -/
namespace Go.Proofs.YtjmglgcifekhgaaDoor
open Go Go.RowKit
set_option linter.unusedVariables false

theorem wf_small {n : Int} (h : -1000000000000000000 ≤ n ∧ n ≤ 1000000000000000000) : (Lit.int .i64 n).wf = true := by
  simp [Lit.wf, IntKind.min, IntKind.max, IntKind.bits, IntKind.signed]; omega
theorem own_given {w : World} {B : Nat} {ty : TypeId} {v : Value} {n : Nat} {l : List UInt8} (h : w.ownsRow B ty 1 v n (bys l)) : ∃ p c, v = .slice p l.length c ∧ Given w p c l := by
  obtain ⟨hn, p, c, rfl, hle, _, hl, hp⟩ := own_lies h
  exact ⟨p, c, rfl, hl, hle, hp⟩
set_option maxHeartbeats 4000000 in
set_option maxRecDepth 100000 in
theorem written_is (f : Nat → Int) (w : World) : Calls Tryd.prog 69 #[.agg (vf f)] w (RetOwn w 5 (vbytes f)) := by
  have GI := fun W => good_is f W
  by_cases hg : goodB f = true
  · simp only [hg] at GI
    have hv : Hid (vbytes f = Cod.rising (pl f 64) ++ tls f (pl f 64)) := by show vbytes f = _; unfold vbytes; rw [if_pos hg]
    have G := Lib.hid ((good_iff f).1 hg)
    clear hg
    go_enter Tryd.func69, Tryd.ntmps69
    go_wp2_with (refine wpList_vbox vecI rfl _ rfl f rfl ?_)
    intro ga w1 la ra hb1
    have B1 := Lib.hid hb1; have RA1 := Lib.hid ra
    clear hb1 ra
    go_wp2_with (refine wpList_vload vecI rfl _ rfl ga rfl _ f RA1.out ?_)
    go_wp2_with fail
    refine (GI w1).mono ?_
    rintro e w2 ⟨rfl, hb2⟩
    have B2 := Lib.hid (thenBelow B1.out hb2); have RA2 := Lib.hid (RA1.out.later hb2)
    clear hb2 GI
    go_wp2_with (refine wpList_vload vecI rfl _ rfl ga rfl _ f RA2.out ?_)
    go_wp2
    go_loopw [3, 13] (fun v i wr => ∃ k : Nat, k ≤ 64 ∧ i = .int .i64 k ∧ wr.ownsRow w2.heap.size 3 1 v (pl f k).length (ints (pl f k)) ∧ Below w2.heap.size w2 wr) (fun _ i _ => 64 - (intOf i).toNat)
    case atStart => exact ⟨0, by omega, rfl, World.ownsRow_nil _ _ _ _, Below.refl _ _⟩
    case round =>
      obtain ⟨k, hk, rfl, hown, hb⟩ := hrel
      have O := Lib.hid hown; have B := Lib.hid hb
      have hz := hb.size
      have hpl := pl_len f k
      clear hown hb
      by_cases hlt : k < 64
      · have hi := vecI.index f .i64 k k rfl hlt
        have hkI : (k : Int) < 64 := by omega
        by_cases h0 : f k = 0
        · have E : Hid (pl f (k + 1) = pl f k) := by show pl f (k + 1) = _; simp [pl, h0]
          rw [h0] at hi
          clear h0
          go_wp2
          go_roundw
          case rel => exact ⟨k + 1, by omega, by go_num, by rw [E.out]; exact O.out, B.out⟩
          case measure => simp [intOf]; omega
        · have E : Hid (pl f (k + 1) = pl f k ++ [(k : Int)]) := by show pl f (k + 1) = _; simp [pl, h0]
          generalize f k = x at hi h0
          go_wp2_with (at_builtin; refine wpList_int isI64 _ rfl _ _ rfl w2.heap.size (pl f k).length (pl f k) _ rfl O.out _ rfl (by omega) hz ?_)
          intro v3 w3 own3 b3
          have O3 := Lib.hid own3; have B3 := Lib.hid b3
          clear own3 b3
          go_wp2
          go_roundw
          case rel => exact ⟨k + 1, by omega, by go_num, by rw [E.out, List.length_append]; exact O3.out, B.out.trans B3.out⟩
          case measure => simp [intOf]; omega
      · obtain rfl : k = 64 := by omega
        have hO := O.out
        obtain ⟨hln, q, d, rfl, hd, hl2, hq0⟩ := own_liesI hO
        clear hln
        have L2 := Lib.hid hl2
        have B4 := Lib.hid (thenBelow B2.out B.out)
        have RA4 := Lib.hid (RA2.out.later B.out)
        clear hO hl2
        have PA : Hid (∀ k, k < (pl f 64).length → ∃ i : Nat, i < 64 ∧ f i ≠ 0 ∧ (pl f 64).getD k 0 = (i : Int)) := fun k h => pl_at f 64 k h
        have R := Lib.hid (rising_any none q 0 d [] (pl f 64) wr ⟨Lies.nil _ _, Nat.le_refl _, fun _ => ⟨rfl, rfl⟩⟩ L2.out (pl_in f 64 (by omega)) (by simp only [List.length_nil]; omega))
        have TL : Hid (∀ k, k < (pl f 64).length → tls f ((pl f 64).take (k + 1)) = tls f ((pl f 64).take k) ++ Cod.enc (f ((pl f 64).getD k 0).toNat - 1).toNat) := fun k h => tls_step f _ k h
        have TN : Hid (tls f ((pl f 64).take (pl f 64).length) = tls f (pl f 64)) := by show tls f _ = _; rw [List.take_length]
        have TZ : Hid (tls f ((pl f 64).take 0) = []) := rfl
        have RL := Lib.hid (rising_len64 (pl f 64))
        have TLN : Hid (∀ k, (tls f ((pl f 64).take k)).length ≤ 9 * 64) := fun k => by
          have h1 := tls_len f ((pl f 64).take k)
          have h2 : ((pl f 64).take k).length ≤ (pl f 64).length := by simp; omega
          omega
        generalize pl f 64 = l at hv PA R TL TN TZ RL TLN L2 O hpl ⊢
        go_wp2_with fail
        refine R.out.mono ?_
        rintro e w5 ⟨v5, rfl, ho5, hb5⟩
        have hz4 := B4.out.size
        have O5 := Lib.hid (own_mono ho5 hz4); have B5 := Lib.hid (thenBelow B4.out hb5); have RA5 := Lib.hid (RA4.out.later hb5); have L5 := Lib.hid (L2.out.below hb5)
        clear ho5 hb5 R O B RA4 L2 B4
        go_wp2
        go_loopw [6, 28] (fun v i wx => ∃ k : Nat, k ≤ l.length ∧ i = .int .i64 k ∧ wx.ownsRow w.heap.size 5 1 v (Cod.rising l ++ tls f (l.take k)).length (bys (Cod.rising l ++ tls f (l.take k))) ∧ Below w5.heap.size w5 wx) (fun _ i _ => l.length - (intOf i).toNat)
        case atStart => exact ⟨0, by omega, rfl, by rw [TZ.out, List.append_nil]; simpa using O5.out, Below.refl _ _⟩
        case round =>
          obtain ⟨k, hk, rfl, hown, hb⟩ := hrel
          have OX := Lib.hid hown; have BX := Lib.hid hb
          clear hown hb
          by_cases hlt : k < l.length
          · obtain ⟨i, hi64, hi0, hik⟩ := PA.out k hlt
            have hgi := G.out i hi64
            have hT := TL.out k hlt
            rw [hik, Int.toNat_natCast] at hT
            obtain ⟨b, o, rfl, _, hcl⟩ := (L5.out.below BX.out).at (by omega)
            have hck := hcl k hlt
            rw [hik] at hck
            have hc := (RA5.out.later BX.out).cell i hi64
            have hfr := (RA5.out.later BX.out).free i
            have hiI : (i : Int) < 64 := by omega
            have hkI : (k : Int) < l.length := by omega
            generalize hM : Cod.rising l ++ tls f (l.take k) = M at OX
            have HM := Lib.hid hM
            have hML : M.length ≤ 1200 := by rw [← hM]; have h1 := TLN.out k; have h2 := RL.out; simp only [List.length_append]; omega
            clear hM
            obtain ⟨p, c, rfl, hgv⟩ := own_given OX.out
            have NM := Lib.hid (num_any p c M (f i - 1) _ hgv.lies (fun e => (hgv.none e).1) hgv.le (wf_small (by omega)) (by omega))
            have HT := Lib.hid hT
            clear hcl hT hgv OX hik
            generalize f i = x at hc hgi hi0 NM HT
            go_wp2_with fail
            refine NM.out.mono ?_
            rintro e w6 ⟨v6, rfl, ho6, hb6⟩
            have hz6 := Nat.le_trans B5.out.size BX.out.size
            have O6 := Lib.hid (own_mono ho6 hz6); have B6 := Lib.hid (thenBelow BX.out hb6)
            clear ho6 hb6 NM hc hck
            go_wp2
            go_roundw
            case rel => exact ⟨k + 1, by omega, by go_num, by rw [HT.out, ← List.append_assoc, HM.out]; exact O6.out, B6.out⟩
            case measure => simp [intOf]; omega
          · obtain rfl : k = l.length := by omega
            have hO := OX.out
            rw [TN.out, ← hv.out] at hO
            have HO := Lib.hid hO
            have BB := Lib.hid (thenBelow B5.out BX.out)
            clear hO OX
            go_wp2
            go_ret
            exact ⟨_, rfl, HO.out, BB.out⟩
  · have hg2 : goodB f = false := by simpa using hg
    simp only [hg2] at GI
    have hv : Hid (vbytes f = []) := by show vbytes f = _; unfold vbytes; rw [if_neg hg]
    clear hg hg2
    go_enter Tryd.func69, Tryd.ntmps69
    go_wp2_with (refine wpList_vbox vecI rfl _ rfl f rfl ?_)
    intro ga w1 la ra hb1
    have B1 := Lib.hid hb1; have RA1 := Lib.hid ra
    clear hb1 ra
    go_wp2_with (refine wpList_vload vecI rfl _ rfl ga rfl _ f RA1.out ?_)
    go_wp2_with fail
    refine (GI w1).mono ?_
    rintro e w2 ⟨rfl, hb2⟩
    have B2 := Lib.hid (thenBelow B1.out hb2)
    clear hb2 GI
    go_wp2
    go_ret
    rw [hv.out]
    exact ⟨_, rfl, World.ownsRow_nil _ _ _ _, B2.out⟩
set_option maxHeartbeats 1000000 in
set_option maxRecDepth 100000 in
theorem vput_is (p : Option Addr) (c : Nat) (b : List UInt8) (f : Nat → Int) (w : World) (h : Given w p c b) (hlen : b.length ≤ 140737488352000) :
    Calls Tryd.prog 41 #[.slice p b.length c, .agg (vf f)] w (RetOwn w 5 (b ++ vbytes f)) := by
  have H := Lib.hid h
  have VL := Lib.hid (vbytes_len f)
  clear h
  go_enter Tryd.func41, Tryd.ntmps41
  go_wp2_with (refine wpList_vbox vecI rfl _ rfl f rfl ?_)
  intro ga w1 la ra hb1
  have B1 := Lib.hid hb1; have RA1 := Lib.hid ra
  clear hb1 ra
  go_wp2_with (refine wpList_vload vecI rfl _ rfl ga rfl _ f RA1.out ?_)
  go_wp2_with fail
  refine (written_is f w1).mono ?_
  intro e w2 hr
  obtain ⟨p2, c2, rfl, hg2, hb2⟩ := hr.given
  have B2 := Lib.hid (thenBelow B1.out hb2); have G2 := Lib.hid hg2
  clear hb2 hg2 hr
  go_wp2_with fail
  have al := below_alloc w2 (.cells #[.slice p b.length c, .slice p2 (vbytes f).length c2] 41)
  have r0 := heap_alloc_new w2 (.cells #[.slice p b.length c, .slice p2 (vbytes f).length c2] 41)
  refine (concatB w2.heap.size 2 c c2 p p2 b (vbytes f) _ ((H.out.below B2.out).below al).lies (G2.out.below al).lies H.out.none G2.out.none (by have := VL.out; omega) (cell_of_row _ _ 0 _ _ _ r0) (cell_of_row _ _ 1 _ _ _ r0)).mono ?_
  intro e w3 hr3
  have R3 := Lib.hid (hr3.after (thenBelow B2.out al))
  obtain ⟨v3, rfl, _, _⟩ := hr3
  go_wp2
  go_ret
  exact R3.out
end Go.Proofs.YtjmglgcifekhgaaDoor
/- A state's bytes behind others. -/
namespace Go.Proofs.YtjmglgcifekhgaaDoor
open Go Go.RowKit
set_option linter.unusedVariables false
set_option maxRecDepth 1000000

/-- a state's bytes -/
def stB (F : Nat → Int) (L : List Wr) : List UInt8 := vbytes F ++ (Cod.enc L.length ++ L.flatMap wtB)
theorem wts_take (L : List Wr) (k : Nat) (h : k < L.length) : (L.take (k + 1)).flatMap wtB = (L.take k).flatMap wtB ++ wtB L[k] := by
  rw [List.take_succ_eq_append_getElem h, List.flatMap_append]; simp
set_option maxHeartbeats 8000000 in
theorem docPut_is (p : Option Addr) (c : Nat) (b : List UInt8) (F : Nat → Int) (q : Option Addr) (d : Nat) (L : List Wr) (w : World) (hb : Given w p c b) (hL : WrsAt w q L) (hc : canB F L = true) (hT : Shapes w) (hlen : b.length ≤ 1000000) :
    Calls Tryd.prog 14 #[.slice p b.length c, .agg (scs F (.slice q L.length d))] w (RetOwn w 5 (b ++ stB F L)) := by
  have HW := Lib.hid hL; have HT := Lib.hid hT; have HG := Lib.hid hb
  have CP := can_iff.1 hc
  have SM : Hid (∀ y ∈ L, Small1 y) := Lib.hid fun y hy => small_of (CP.fine y hy).1
  have L4 : Hid (L.length ≤ 4096) := Lib.hid CP.len
  have CC : Hid (canB F L = true) := Lib.hid hc
  have VL := Lib.hid (vbytes_len F)
  have EL := Lib.hid (enc_len L.length)
  have WN : Hid ((Lit.int .i64 (L.length : Int)).wf = true) := Lib.hid (wf_ok (by have := L4.out; omega))
  clear hb hL hc hT CP
  obtain ⟨X, hX⟩ : ∃ X, b ++ stB F L = X := ⟨_, rfl⟩
  rw [hX]
  have HX : Hid (b ++ vbytes F ++ Cod.enc L.length ++ L.flatMap wtB = X) := Lib.hid (by rw [← hX]; unfold stB; simp only [List.append_assoc])
  clear hX
  go_enter Tryd.func14, Tryd.ntmps14
  go_wp2_with (refine wpList_gbox rfl _ rfl (scs F (.slice q L.length d)) rfl ?_)
  intro g3 w1 l1 h1 hb1
  have S1 : Hid (Sx w1 g3 F (.slice q L.length d)) := Lib.hid h1
  have B1 := Lib.hid hb1
  clear h1 hb1
  have SW := Lib.hid (S1.out.whole)
  have CN : Hid (Calls Tryd.prog 12 #[.agg (scs F (.slice q L.length d))] w1 (RetBool w1 true)) := Lib.hid (by have := docCan_is F q d L w1 (HW.out.below B1.out) (HT.out.below B1.out); rw [CC.out] at this; exact this)
  go_wp2_with (refine wpList_gload rfl _ rfl g3 0 rfl _ SW.out _ Tryd.underlying26 rfl (sizeStl _ _) ?_)
  refine CN.out.mono ?_
  rintro e w2 ⟨rfl, hb2⟩
  have S2 := Lib.hid (S1.out.later hb2); have B2 := Lib.hid (thenBelow B1.out hb2)
  clear hb2 S1 SW CN
  go_wp2_with fail
  rename_i K2 hK2
  have m0 : Below w2.heap.size w2 w2.drew := (Below.refl _ _).drew
  refine rg_calm (by kernel_rfl) rfl (S := fun U => Below w2.heap.size w2 U) ?_
  refine rgd_pure 0 (some 12) rfl rfl (.slice p b.length c) (by kernel_rfl) (by kernel_rfl) (by kernel_rfl) (fun _ _ _ _ h => h) (by kernel_rfl) (fun w => by kernel_rfl) m0 ?_
  refine rgd_pure 1 (some 13) rfl rfl (.pointer (some ⟨g3, 0, none⟩)) (by kernel_rfl) (by kernel_rfl) (by kernel_rfl) (fun _ _ _ _ h => h) (by kernel_rfl) (fun w => by kernel_rfl) m0 ?_
  refine rgd_pureS 2 (some 14) rfl rfl (.agg (vf F)) (by kernel_rfl) (by kernel_rfl) (by kernel_rfl) (fun _ _ _ _ h => h) (by kernel_rfl) (fun U hU => exec_gload 23 _ rfl g3 0 (by kernel_rfl) _ (S2.out.later hU).vec Tryd.underlying23 rfl (sizeVcl F)) m0 ?_
  refine rgd_pure 4 (some 16) rfl rfl (.pointer (some ⟨g3, 64, none⟩)) (by kernel_rfl) (by kernel_rfl) (by kernel_rfl) (fun _ _ _ _ h => h) (by kernel_rfl) (fun w => by kernel_rfl) m0 ?_
  refine rgd_pureS 5 (some 17) rfl rfl (.slice q L.length d) (by kernel_rfl) (by kernel_rfl) (by kernel_rfl) (fun _ _ _ _ h => h) (by kernel_rfl) (fun U hU => exec_load1 _ _ rfl Tryd.underlying24 rfl ⟨g3, 64, none⟩ _ (by kernel_rfl) (S2.out.later hU).slot) m0 ?_
  refine rgd_pure 6 (some 18) rfl rfl (.int .i64 (L.length : Int)) (by kernel_rfl) (by kernel_rfl) (by kernel_rfl) (fun _ _ _ _ h => h) (by kernel_rfl) (fun w => by kernel_rfl) m0 ?_
  refine rgd_call 3 (some 15) (by kernel_rfl) rfl rfl (by kernel_rfl) 41 (#[.slice p b.length c, .agg (vf F)]) (by kernel_rfl) (vput_is p c b F _ (HG.out.below (thenBelow B2.out m0)) (by omega)) ?_
  rintro e U1 hr1
  obtain ⟨LA, hLA⟩ : ∃ X, b ++ vbytes F = X := ⟨_, rfl⟩
  have nA : LA.length ≤ 1100000 := by rw [← hLA]; have := VL.out; simp only [List.length_append]; omega
  rw [hLA] at hr1
  have HLA := Lib.hid hLA
  clear hLA
  obtain ⟨p1, q1, rfl, k1, b1⟩ := hr1.given
  have m1 := thenBelow m0 b1
  refine ⟨_, rfl, m1, ?_⟩
  refine rgd_call 7 (some 19) (by kernel_rfl) rfl rfl (by kernel_rfl) 40 (#[.slice p1 LA.length q1, .int .i64 (L.length : Int)]) (by kernel_rfl) (num_any p1 q1 LA (L.length : Int) _ k1.lies (fun e => (k1.none e).1) k1.le WN.out (by omega)) ?_
  rintro e U2 hr2
  obtain ⟨LB, hLB⟩ : ∃ X, LA ++ Cod.enc (L.length : Int).toNat = X := ⟨_, rfl⟩
  have nB : LB.length ≤ 1200000 := by rw [← hLB]; have := EL.out; simp only [List.length_append, Int.toNat_natCast]; omega
  rw [hLB] at hr2
  have HLB := Lib.hid hLB
  clear hLB
  obtain ⟨p2, q2, rfl, k2, b2⟩ := hr2.given
  have m2 := thenBelow m1 b2
  refine ⟨_, rfl, m2, ?_⟩
  refine rgd_pure 8 (some 0) rfl rfl (.slice p2 LB.length q2) (by kernel_rfl) (by kernel_rfl) (by kernel_rfl) (fun _ _ _ _ h => h) (by kernel_rfl) (fun w => by kernel_rfl) m2 ?_
  have KE : K2 { tmps := #[.slice p2 LB.length q2, .agg (scs F (.slice q L.length d)), undef, .pointer (some ⟨g3, 0, none⟩), .slice none 0 0, undef, undef, .agg (scs F (.slice q L.length d)), .bool true, .bool false, undef, undef, .slice p b.length c, .pointer (some ⟨g3, 0, none⟩), .agg (vf F), .slice p1 LA.length q1, .pointer (some ⟨g3, 64, none⟩), .slice q L.length d, .int .i64 (L.length : Int), .slice p2 LB.length q2, undef, undef, undef, undef, undef, undef, undef, undef, undef, undef, undef, undef, undef], defers := [] } U2 := by
    refine hK2 _ _ ?_
    have B4 := Lib.hid (thenBelow B2.out m2)
    obtain ⟨v2, e2, hO2, _⟩ := hr2.after (thenBelow B2.out m1)
    obtain rfl : _ = v2 := by injection e2
    have O2 := Lib.hid hO2
    have k64 := (S2.out.later m2).slot
    have HB : Hid (LB = b ++ vbytes F ++ Cod.enc L.length) := Lib.hid (by rw [← HLB.out, ← HLA.out]; simp only [Int.toNat_natCast])
    clear e2 hO2 hK2 m0 m1 m2 k1 k2 hr1 hr2 b1 b2 S2
    go_wp2
    clear k64
    go_loopw [0, 23] (fun v i wr => ∃ (k : Nat) (LJ : List UInt8), k ≤ L.length ∧ i = .int .i64 k ∧ Hid (LJ = LB ++ (L.take k).flatMap wtB) ∧ LJ.length ≤ 1200000 + 2100 * k ∧ wr.ownsRow w.heap.size 5 1 v LJ.length (bys LJ) ∧ Below w.heap.size w wr) (fun _ i _ => L.length - (RowKit.intOf i).toNat)
    case atStart => exact ⟨0, LB, Nat.zero_le _, rfl, Lib.hid (by simp), by omega, O2.out, B4.out⟩
    case round =>
      obtain ⟨k, LJ, hk, rfl, HJ, hj, hown, hb⟩ := hrel
      have BB := Lib.hid hb; have OO := Lib.hid hown
      have hL4 : L.length ≤ 4096 := L4.out
      clear hown hb
      by_cases hkl : k < L.length
      · have hkl' : (k : Int) < L.length := by omega
        have HWr := Lib.hid (HW.out.below BB.out)
        obtain ⟨b9, o9, rfl, hlt, hq⟩ := HWr.out.at hkl
        obtain ⟨y, hy⟩ : ∃ y, L[k] = y := ⟨_, rfl⟩
        rw [hy] at hq
        have YC := Lib.hid hy
        have YS : Small1 y := by rw [← hy]; exact SM.out _ (List.getElem_mem hkl)
        clear hy
        obtain ⟨c0, c1, c2, c3, c4, c5⟩ := wr_cells hq
        clear hq
        have yl := wtB_len YS
        obtain ⟨LW, hLW⟩ : ∃ X, wtB y = X := ⟨_, rfl⟩
        have DW := Lib.hid (fun V : World => docWritten_is y V YS)
        rw [hLW] at DW yl
        have HJ2 : Hid (LJ ++ LW = LB ++ (L.take (k + 1)).flatMap wtB) := Lib.hid (by rw [wts_take L k hkl, HJ.out, YC.out, hLW, List.append_assoc])
        clear hLW YS YC HJ
        obtain ⟨yr, yn, yt, yd, yf, ytx⟩ := y
        simp only at c0 c1 c2 c3 c4 c5
        have ba := below_alloc wr (.cells #[.int .i64 yr, .int .i64 yn, .int .i64 yt, .string yd, .int .i64 yf, .string ytx] 50)
        have na := heap_alloc_new wr (.cells #[.int .i64 yr, .int .i64 yn, .int .i64 yt, .string yd, .int .i64 yf, .string ytx] 50)
        have R4 : Hid ((wr.alloc (.cells #[.int .i64 yr, .int .i64 yn, .int .i64 yt, .string yd, .int .i64 yf, .string ytx] 50)).rangeAt wr.heap.size 0 (Wr.cells ⟨yr, yn, yt, yd, yf, ytx⟩)) := Lib.hid (range_of_block na)
        have B5 := Lib.hid (thenBelow BB.out ba); have O5 := Lib.hid (own_later OO.out ba)
        clear ba na OO
        go_wp2_with (refine wpList_gload rfl _ rfl wr.heap.size 0 rfl _ R4.out _ Tryd.underlying50 rfl (sizeWr ⟨yr, yn, yt, yd, yf, ytx⟩) ?_)
        refine (DW.out _).mono ?_
        intro e w6 hr6
        obtain ⟨p6, q6, rfl, g6, b6⟩ := hr6.given
        have G6 := Lib.hid g6; have B6 := Lib.hid (thenBelow B5.out b6); have O6 := Lib.hid (own_later O5.out b6)
        have hz := B6.out.size
        clear hr6 g6 b6 DW R4 O5 c0 c1 c2 c3 c4 c5
        go_wp2_with (at_builtin; refine wpList_bytes isU8 _ rfl _ _ rfl w.heap.size LJ.length LJ _ rfl O6.out p6 LW.length q6 LW rfl G6.out.lies rfl (fun e => ⟨by rw [(G6.out.none e).1]; rfl, (G6.out.none e).2⟩) (by have := L4.out; omega) hz ?_)
        intro v7 w7 o7 b7
        have O7 : Hid (w7.ownsRow w.heap.size 5 1 v7 (LJ ++ LW).length (bys (LJ ++ LW))) := Lib.hid (by rw [List.length_append]; exact o7)
        have B7 := Lib.hid (B6.out.trans b7)
        have nJ : Hid ((LJ ++ LW).length ≤ 1200000 + 2100 * (k + 1)) := Lib.hid (by rw [List.length_append]; omega)
        clear o7 b7 hz
        go_wp2
        go_roundw
        case rel => exact ⟨k + 1, LJ ++ LW, by omega, by go_num, HJ2, nJ.out, O7.out, B7.out⟩
        case measure => simp [RowKit.intOf]; omega
      · obtain rfl : k = L.length := by omega
        have hkl' : ¬ ((L.length : Nat) : Int) < L.length := by omega
        have HJ2 : Hid (LJ = X) := Lib.hid (by rw [HJ.out, List.take_length, HB.out]; exact HX.out)
        have FO : Hid (RetOwn w 5 X (.returned u0) wr) := Lib.hid (by rw [← HJ2.out]; exact ⟨u0, rfl, OO.out, BB.out⟩)
        clear HJ HJ2 OO hj
        go_wp2
        go_ret
        exact FO.out
  exact wpAnyH_done (by kernel_rfl) (Eq.mp (by kernel_rfl) KE) _
end Go.Proofs.YtjmglgcifekhgaaDoor
/- A reader of any bytes: Read, Err, Left, Fail, take, number, Num, Rising. -/
namespace Go.Proofs.YtjmglgcifekhgaaDoor
open Go Go.RowKit
set_option linter.unusedVariables false

def endObj (e : Nat) : Obj := .cells #[.slice none 0 0, .int .i64 (e : Int), .bool true] 70 (0, 0)
/-- the reader at B has the bytes and the error of a state -/
def RdA (w : World) (B : Nat) (s : Cod.S) : Prop := (s.2 = 0 ∧ Rd w B s.1) ∨ (s.1 = [] ∧ w.heap[B]? = some (endObj s.2))
theorem RdA.ok {w : World} {B : Nat} {s : Cod.S} (h : RdA w B s) : Cod.Ok s := fun e => by
  rcases h with ⟨h1, _⟩ | ⟨h1, _⟩
  · exact absurd h1 e
  · exact h1
theorem RdA.lt {w : World} {B : Nat} {s : Cod.S} (h : RdA w B s) : B < w.heap.size := by
  rcases h with ⟨_, h⟩ | ⟨_, h⟩
  · exact h.lt
  · exact (Array.getElem?_eq_some_iff.1 h).1
theorem RdA.below {w w' : World} {B : Nat} {s : Cod.S} (h : RdA w B s) (hb : Below w.heap.size w w') : RdA w' B s := by
  have hlt := h.lt
  rcases h with ⟨h1, h⟩ | ⟨h1, h⟩
  · exact .inl ⟨h1, h.below hb⟩
  · exact .inr ⟨h1, (hb.block B hlt).trans h⟩
theorem RdA.under {w w' : World} {B T : Nat} {s : Cod.S} (h : RdA w B s) (hT : B < T) (hb : Below T w w') : RdA w' B s := by
  rcases h with ⟨h1, h⟩ | ⟨h1, h⟩
  · exact .inl ⟨h1, h.under hT hb⟩
  · exact .inr ⟨h1, (hb.block B hT).trans h⟩
theorem end_cells {w : World} {B e : Nat} (h : w.heap[B]? = some (endObj e)) : w.cell? ⟨B, 0, none⟩ = some (.slice none 0 0) ∧ w.cell? ⟨B, 1, none⟩ = some (.int .i64 (e : Int)) ∧ w.cell? ⟨B, 2, none⟩ = some (.bool true) := by
  unfold endObj at h
  exact ⟨by rw [cell_of_row w B 0 _ _ _ h]; rfl, by rw [cell_of_row w B 1 _ _ _ h]; rfl, by rw [cell_of_row w B 2 _ _ _ h]; rfl⟩
theorem end_frozen {w : World} {B e : Nat} (h : w.heap[B]? = some (endObj e)) (i : Nat) : w.frozen? ⟨B, i, none⟩ = false := by
  unfold endObj at h; exact frozen_of_row w B i _ _ h
theorem in_frozen {w : World} {B : Nat} {v : Value} (h : w.heap[B]? = some (inObj v)) (i : Nat) : w.frozen? ⟨B, i, none⟩ = false := by
  unfold inObj at h; exact frozen_of_row w B i _ _ h
set_option maxHeartbeats 1000000 in
theorem err_any (B : Nat) (s : Cod.S) (w : World) (h : RdA w B s) : Calls Tryd.prog 17 #[.pointer (some ⟨B, 0, none⟩)] w fun e w' => e = .returned (.int .i64 (s.2 : Int)) ∧ w = w' := by
  obtain ⟨l, e⟩ := s
  rcases h with ⟨h1, h⟩ | ⟨h1, h⟩
  · simp only at h1 h
    subst h1
    exact err_live B l w h
  · simp only at h1 h
    obtain ⟨c0, c1, c2⟩ := end_cells h
    clear h
    go_enter Tryd.func17, Tryd.ntmps17
    go_wp2
    go_ret
    exact ⟨rfl, rfl⟩
set_option maxHeartbeats 1000000 in
theorem left_any (B : Nat) (s : Cod.S) (w : World) (h : RdA w B s) : Calls Tryd.prog 18 #[.pointer (some ⟨B, 0, none⟩)] w fun e w' => e = .returned (.int .i64 s.1.length) ∧ w = w' := by
  obtain ⟨l, e⟩ := s
  rcases h with ⟨h1, h⟩ | ⟨h1, h⟩
  · exact left_live B l w h
  · simp only at h1 h
    subst h1
    obtain ⟨c0, c1, c2⟩ := end_cells h
    clear h
    go_enter Tryd.func18, Tryd.ntmps18
    go_wp2
    go_ret
    exact ⟨rfl, rfl⟩
/-- Read of any bytes -/
theorem read_all (p : Option Addr) (c : Nat) (l : List UInt8) (w : World) (h : Given w p c l) (hn : l.length ≤ 140737488355328) :
    Calls Tryd.prog 13 #[.slice p l.length c] w fun e w' => ∃ B, e = .returned (.pointer (some ⟨B, 0, none⟩)) ∧ w.heap.size ≤ B ∧ RdA w' B (l, 0) ∧ Below w.heap.size w w' := by
  by_cases h0 : 0 < l.length
  · exact (read_any p c l w h h0 (by omega)).mono fun e w' ⟨B, h1, h2, h3, h4⟩ => ⟨B, h1, h2, .inl ⟨rfl, h3⟩, h4⟩
  · obtain rfl : l = [] := List.eq_nil_of_length_eq_zero (by omega)
    have H := Lib.hid h; clear h
    go_enter Tryd.func13, Tryd.ntmps13
    go_wp2_with (at_builtin; refine wpList_bytes isU8 _ rfl _ _ rfl w.heap.size 0 [] _ rfl (World.ownsRow_nil _ _ _ _) p 0 c [] rfl H.out.lies rfl (fun e => ⟨rfl, (H.out.none e).2⟩) (by simp) (Nat.le_refl _) ?_)
    intro v w1 hown hb
    have hb1 := Lib.hid hb
    have hv : v = .slice none 0 0 ∨ ∃ g cap, v = .slice (some ⟨g, 0, none⟩) 0 cap ∧ g < w1.heap.size := by
      rcases hown.2 with ⟨h1, _⟩ | ⟨g, cap, cur, h1, _, h3, _⟩
      · exact .inl h1
      · exact .inr ⟨g, cap, by simpa using h1, (Array.getElem?_eq_some_iff.1 h3).1⟩
    clear hown hb
    rcases hv with rfl | ⟨g, cap, rfl, hg⟩
    · go_wp2
      go_ret
      refine ⟨w1.heap.size, rfl, hb1.out.size, .inr ⟨rfl, ?_⟩, hb1.out.alloc hb1.out.size _⟩
      exact heap_alloc_new w1 _
    · have HG := Lib.hid hg
      clear hg
      go_wp2
      go_ret
      refine ⟨w1.heap.size, rfl, hb1.out.size, .inl ⟨rfl, g, 0, cap, ?_, fun i hi => by simp at hi, by simp, HG.out⟩, hb1.out.alloc hb1.out.size _⟩
      exact heap_alloc_new w1 _
/-- what reading comes to -/
def GotA (w : World) (B : Nat) (v : Value) (s : Cod.S) (e : Ending) (w' : World) : Prop := e = .returned v ∧ RdA w' B s ∧ w.grownBy w' (some B)
theorem grownA_refl (w : World) (row : Option Nat) : w.grownBy w row := ⟨rfl, rfl, rfl, Nat.le_refl _, fun _ _ _ => rfl⟩
theorem fail_mk {w : World} {B c : Nat} {cs : Array Value} (hs : cs.size = 3) (h2 : cs[2]? = some (.bool true)) (h : w.heap[B]? = some (.cells cs 70 (0, 0))) :
    ((w.setCell ⟨B, 1, none⟩ (.int .i64 (c : Int))).setCell ⟨B, 0, none⟩ (.slice none 0 0)).heap[B]? = some (endObj c) := by
  have h1 := heap_setCell_same w B 1 _ _ (.int .i64 (c : Int)) h
  rw [heap_setCell_same _ B 0 _ _ (.slice none 0 0) h1]
  unfold endObj
  congr 2
  apply Array.ext_getElem?
  intro i
  match i with
  | 0 => simp [hs]
  | 1 => simp [hs]
  | 2 => simpa using h2
  | k + 3 => simp [hs]
theorem fail_grown (w : World) (B c : Nat) : w.grownBy ((w.setCell ⟨B, 1, none⟩ (.int .i64 (c : Int))).setCell ⟨B, 0, none⟩ (.slice none 0 0)) (some B) :=
  ⟨rfl, rfl, rfl, by simp [World.setCell], fun k _ hne => by
    rw [Below.heap_setCell _ _ _ _ (fun e => hne (by rw [e])), Below.heap_setCell _ _ _ _ (fun e => hne (by rw [e]))]⟩
set_option maxHeartbeats 1000000 in
/-- Fail, by an error that is one -/
theorem fail_any (B c : Nat) (s : Cod.S) (w : World) (h : RdA w B s) (hc : 0 < c) :
    Calls Tryd.prog 47 #[.pointer (some ⟨B, 0, none⟩), .int .i64 (c : Int)] w (GotA w B (.tuple #[]) (Cod.failS c s)) := by
  have E := Lib.hid (err_any B s w h)
  obtain ⟨l, e⟩ := s
  by_cases he : e = 0
  · subst he
    rw [Cod.failS_zero]
    have hc' : ¬ (c : Int) = 0 := by omega
    have F := Lib.hid (fail_grown w B c)
    obtain ⟨M, c0, c1, f0, f1⟩ : Hid (((w.setCell ⟨B, 1, none⟩ (.int .i64 (c : Int))).setCell ⟨B, 0, none⟩ (.slice none 0 0)).heap[B]? = some (endObj c)) ∧ (∃ v, w.cell? ⟨B, 0, none⟩ = some v) ∧ w.cell? ⟨B, 1, none⟩ = some (.int .i64 0) ∧ w.frozen? ⟨B, 0, none⟩ = false ∧ w.frozen? ⟨B, 1, none⟩ = false := by
      rcases h with ⟨_, b, o, cc, hh, _⟩ | ⟨_, hh⟩
      · obtain ⟨c0, c1, c2, _⟩ := in_cells hh
        exact ⟨fail_mk rfl rfl hh, ⟨_, c0⟩, c1, in_frozen hh 0, in_frozen hh 1⟩
      · obtain ⟨c0, c1, c2⟩ := end_cells hh
        exact ⟨fail_mk rfl rfl hh, ⟨_, c0⟩, c1, end_frozen hh 0, end_frozen hh 1⟩
    obtain ⟨v, c0⟩ := c0
    clear h
    simp only at E
    go_enter Tryd.func47, Tryd.ntmps47
    go_wp2_with fail
    refine E.out.mono ?_
    rintro e w' ⟨rfl, rfl⟩
    go_wp2
    exact bodyPost_ret (results_none rfl _ _ _) rfl ⟨rfl, .inr ⟨rfl, M.out⟩, F.out⟩
  · rw [show Cod.failS c (l, e) = (l, e) from if_neg he]
    have H := Lib.hid h
    have he' : ¬ (e : Int) = 0 := by omega
    clear h
    simp only at E
    go_enter Tryd.func47, Tryd.ntmps47
    go_wp2_with fail
    refine E.out.mono ?_
    rintro e w' ⟨rfl, rfl⟩
    go_wp2
    exact bodyPost_ret (results_none rfl _ _ _) rfl ⟨rfl, H.out, grownA_refl _ _⟩
end Go.Proofs.YtjmglgcifekhgaaDoor
/- A reader of any bytes: take, number, Num. -/
namespace Go.Proofs.YtjmglgcifekhgaaDoor
open Go Go.RowKit
set_option linter.unusedVariables false

set_option maxHeartbeats 1000000 in
theorem take_none (B : Nat) (n : Int) (s : Cod.S) (w : World) (h : RdA w B s) (hs : s.2 ≠ 0) :
    Calls Tryd.prog 89 #[.pointer (some ⟨B, 0, none⟩), .int .i64 n] w fun e w' => e = .returned (.slice none 0 0) ∧ w = w' := by
  have E := Lib.hid (err_any B s w h)
  have hs' : ¬ (s.2 : Int) = 0 := by omega
  generalize s.2 = e at E hs'
  clear h hs
  go_enter Tryd.func89, Tryd.ntmps89
  go_wp2_with fail
  refine E.out.mono ?_
  rintro e w' ⟨rfl, rfl⟩
  go_wp2
  go_ret
  exact ⟨rfl, rfl⟩
set_option maxHeartbeats 1000000 in
theorem take_short (B n : Nat) (l : List UInt8) (w : World) (h : RdA w B (l, 0)) (hn : l.length < n) (hn2 : n ≤ 1000000) :
    Calls Tryd.prog 89 #[.pointer (some ⟨B, 0, none⟩), .int .i64 n] w (GotA w B (.slice none 0 0) ([], 4)) := by
  have E := Lib.hid (err_any B _ w h)
  have F := Lib.hid (fail_any B 4 _ w h (by omega))
  rw [Cod.failS_zero] at F
  have hn' : (n : Int) > l.length := by omega
  obtain ⟨p, c, c0⟩ : ∃ p c, w.cell? ⟨B, 0, none⟩ = some (.slice p l.length c) := by
    rcases h with ⟨_, b, o, cc, hh, _⟩ | ⟨h1, hh⟩
    · exact ⟨_, _, (in_cells hh).1⟩
    · simp only at h1
      subst h1
      exact ⟨_, _, (end_cells hh).1⟩
  clear h hn
  go_enter Tryd.func89, Tryd.ntmps89
  go_wp2_with fail
  refine E.out.mono ?_
  rintro e w' ⟨rfl, rfl⟩
  go_wp2_with fail
  refine F.out.mono ?_
  rintro e w1 ⟨rfl, h1, h2⟩
  have H1 := Lib.hid h1; have H2 := Lib.hid h2
  clear h1 h2 F E
  go_wp2
  go_ret
  exact ⟨rfl, H1.out, H2.out⟩

set_option maxHeartbeats 4000000 in
set_option maxRecDepth 100000 in
theorem number_all (B : Nat) (s : Cod.S) (w : World) (h : RdA w B s) (hl : s.1.length ≤ 149000000000000) :
    Calls Tryd.prog 73 #[.pointer (some ⟨B, 0, none⟩)] w (GotA w B (.int .u64 (Cod.anyS s).1) (Cod.anyS s).2) := by
  obtain ⟨l, e⟩ := s
  by_cases he : e = 0
  · subst he
    have hA : Cod.anyS (l, 0) = Cod.next l := by unfold Cod.anyS; rw [if_pos rfl]
    rw [hA]
    clear hA
    match l, h, hl with
    | [], h, hl =>
      have T := Lib.hid (take_short B 1 [] w h (by simp) (by omega))
      clear h hl
      go_enter Tryd.func73, Tryd.ntmps73
      go_wp2_with fail
      refine T.out.mono ?_
      rintro e w1 ⟨rfl, h1, h2⟩
      have H1 := Lib.hid h1; have H2 := Lib.hid h2
      clear h1 h2 T
      go_wp2
      go_ret
      exact ⟨rfl, H1.out, H2.out⟩
    | b :: t, h, hl =>
      have hrd : Rd w B (b :: t) := by
        rcases h with ⟨_, h⟩ | ⟨h1, _⟩
        · exact h
        · cases h1
      clear h
      have h8 := Cod.ones_le b.toNat
      have hb := b.toNat_lt
      have hz : 8 - Lib.bitLen (255 - b.toNat) = Cod.ones b.toNat := rfl
      have hfs := fun j (hj : j ≤ Cod.ones b.toNat) => Cod.fold_small b t j hj
      have hfr : b.toNat &&& (127 / 2 ^ Cod.ones b.toNat) = Cod.frst b.toNat := rfl
      have t1 := take_live B 1 _ w hrd (by simp) (Nat.le_trans hl (by decide))
      have hnx : Cod.next (b :: t) = if t.length < Cod.ones b.toNat then (0, [], 4) else if Cod.bh (Cod.fold (Cod.frst b.toNat) (t.take (Cod.ones b.toNat))) = Cod.ones b.toNat then (Cod.fold (Cod.frst b.toNat) (t.take (Cod.ones b.toNat)), t.drop (Cod.ones b.toNat), 0) else (0, [], 3) := rfl
      generalize Cod.ones b.toNat = k at *
      generalize Cod.frst b.toNat = f0 at *
      have NX := Lib.hid hnx; have FS := Lib.hid hfs; have FR := Lib.hid hfr; have HL := Lib.hid hl
      have HZ := Lib.hid hz
      clear hrd hnx hfs hfr hl hz
      have s1 := shr_127 Tryd.prog k h8
      have hxor := xor_255 b.toNat hb
      go_enter Tryd.func73, Tryd.ntmps73
      go_wp2_with fail
      refine t1.mono ?_
      rintro e w1 ⟨b1, o1, rfl, hc1, hr1, hg1⟩
      have c1 : w1.cell? ⟨b1, o1, none⟩ = some (.int .u8 (b.toNat : Int)) := by
        have := hc1.at 0 (by simp) b (by simp)
        simpa using this
      have hr1' : Rd w1 B t := by simpa using hr1
      have R1 := Lib.hid hr1'; have G1 := Lib.hid hg1; have C1 := Lib.hid hc1
      clear hr1 hr1' hg1 hc1 t1
      have z1 := lz8_any (255 - b.toNat) w1 (by omega)
      rw [HZ.out] at z1
      by_cases hk : t.length < k
      · have T2 := Lib.hid (take_short B k t w1 (.inl ⟨rfl, R1.out⟩) hk (by omega))
        rw [if_pos hk] at NX
        have hk0 : (0 : Int) < k := by omega
        go_wp2_with fail
        refine z1.mono ?_
        rintro e w' ⟨rfl, rfl⟩
        clear z1 hxor s1
        go_wp2_with fail
        refine T2.out.mono ?_
        rintro e w2 ⟨rfl, h2, g2⟩
        have H2 := Lib.hid h2; have G2 := Lib.hid (grown_trans G1.out g2)
        clear h2 g2 T2 c1
        go_wp2
        go_ret
        rw [NX.out]
        exact ⟨rfl, H2.out, G2.out⟩
      · rw [if_neg hk] at NX
        have hkt : k ≤ t.length := by omega
        have hL2 := HL.out
        simp only [List.length_cons] at hL2
        have t2 := take_live B k t w1 R1.out hkt (by omega)
        have HK := Lib.hid hkt
        clear hk hkt
        go_wp2_with fail
        refine z1.mono ?_
        rintro e w' ⟨rfl, rfl⟩
        clear z1 hxor
        go_wp2_with fail
        refine t2.mono ?_
        rintro e w2 ⟨b2, o2, rfl, hc2, hr2, hg2⟩
        have c2 : w2.cell? ⟨b1, o1, none⟩ = some (.int .u8 (b.toNat : Int)) := by
          have := (R1.out.carry C1.out hg2).at 0 (by simp) b (by simp)
          simpa using this
        have R2 := Lib.hid hr2; have G2 := Lib.hid (grown_trans G1.out hg2); have C2 := Lib.hid hc2
        clear hr2 hg2 hc2 t2 c1 R1 G1 C1
        have hand : bits BinOp.and IntKind.u8 (b.toNat : Int) ((127 / 2 ^ k : Nat) : Int) = (f0 : Int) := by
          rw [u8_and_nat _ _ hb (Nat.lt_of_le_of_lt (Nat.div_le_self _ _) (by omega)), FR.out]
        have hf0 : f0 < 256 := by rw [← FR.out]; exact Nat.lt_of_le_of_lt Nat.and_le_left hb
        go_wp2
        go_quiet (fail)
        have hu0 : IntKind.u64.wrap (bits BinOp.and IntKind.u8 (b.toNat : Int) (127 / 2 ^ k)) = ((Cod.fold f0 (t.take 0) : Nat) : Int) := by
          rw [show ((127 : Int) / 2 ^ k) = ((127 / 2 ^ k : Nat) : Int) from by simp, hand]
          show IntKind.u64.wrap (f0 : Int) = (f0 : Int)
          simp [IntKind.wrap, IntKind.bits, IntKind.signed]
          omega
        rw [hu0]
        clear hand hu0 c2 s1 hf0
        go_wp2
        go_loop [6, 33] (fun u i => ∃ j : Nat, j ≤ k ∧ i = .int .i64 j ∧ u = .int .u64 (Cod.fold f0 (t.take j) : Nat)) (fun _ i => k - (intOf i).toNat)
        case atStart => exact ⟨0, Nat.zero_le _, rfl, rfl⟩
        case round =>
          obtain ⟨j, hj, rfl, rfl⟩ := hrel
          by_cases hjk : j < k
          · have hjt : j < t.length := by have := HK.out; omega
            have hc : w2.cell? ⟨b2, o2 + j, none⟩ = some (.int .u8 ((t.getD j 0).toNat : Int)) := C2.out.at j (by rw [List.length_take]; omega) _ (by simp [List.getD, hjk])
            have hst := Cod.fold_take f0 t j hjt
            have hub := (FS.out j hj).2 hjk
            have HST := Lib.hid hst
            clear hst
            generalize t.getD j 0 = c at hc HST
            generalize Cod.fold f0 (t.take j) = u at hub HST ⊢
            have hcb := c.toNat_lt
            have hor : bits BinOp.or IntKind.u64 ((u : Int) * 256) (c.toNat : Int) = ((u * 256 + c.toNat : Nat) : Int) := by
              rw [show ((u : Int) * 256) = ((u * 256 : Nat) : Int) from by simp, u64_or_nat _ _ (by omega) (by omega)]
              have := Nat.two_pow_add_eq_or_of_lt (i := 8) (b := c.toNat) (by omega) u
              rw [show u * 256 = 2 ^ 8 * u from by omega, ← this]
            have hub2 : u * 256 < 18446744073709551616 := by omega
            generalize hy : u * 256 + c.toNat = y at hor HST
            clear hy hub
            go_wp2
            go_round
            case rel => exact ⟨j + 1, by omega, by go_num, by rw [HST.out]⟩
            case measure => simp [intOf]; omega
          · obtain rfl : j = k := by omega
            have hb0 := behind_any (Cod.fold f0 (t.take j)) (w2.drewN nq)
            have hx := (FS.out j (Nat.le_refl _)).1
            have R3 : Hid (Rd (w2.drewN nq) B (t.drop j)) := R2.out.below ⟨rfl, rfl, rfl, Nat.le_refl _, fun _ _ => rfl⟩
            have G3 : Hid (w.grownBy (w2.drewN nq) (some B)) := ⟨G2.out.os, G2.out.tape, G2.out.output, G2.out.size, G2.out.block⟩
            generalize hxx : Cod.fold f0 (t.take j) = x at hb0 hx NX ⊢
            have HXX := Lib.hid hxx
            generalize w2.drewN nq = w3 at R3 G3 hb0 ⊢
            clear hxx C2 R2 G2
            by_cases hbh : Cod.bh x = j
            · rw [if_pos hbh] at NX
              rw [hbh] at hb0
              clear hbh
              go_wp2_with fail
              refine hb0.mono ?_
              rintro e w' ⟨rfl, rfl⟩
              go_wp2
              go_ret
              rw [NX.out]
              exact ⟨rfl, .inl ⟨rfl, R3.out⟩, G3.out⟩
            · rw [if_neg hbh] at NX
              have hbh' : ¬ ((Cod.bh x : Nat) : Int) = (j : Int) := by omega
              have F := Lib.hid (fail_any B 3 (t.drop j, 0) w3 (.inl ⟨rfl, R3.out⟩) (by omega))
              rw [Cod.failS_zero] at F
              clear hbh
              generalize Cod.bh x = q at hb0 hbh'
              go_wp2_with fail
              refine hb0.mono ?_
              rintro e w' ⟨rfl, rfl⟩
              go_wp2_with fail
              refine F.out.mono ?_
              rintro e w4 ⟨rfl, h4, g4⟩
              have H4 := Lib.hid h4; have G4 := Lib.hid (grown_trans G3.out g4)
              clear h4 g4 F
              go_wp2
              go_ret
              rw [NX.out]
              exact ⟨rfl, H4.out, G4.out⟩
  · have T := Lib.hid (take_none B 1 (l, e) w h he)
    have H := Lib.hid h
    have hA : Cod.anyS (l, e) = (0, (l, e)) := Cod.anyS_err he
    rw [hA]
    clear h hA
    go_enter Tryd.func73, Tryd.ntmps73
    go_wp2_with fail
    refine T.out.mono ?_
    rintro e w' ⟨rfl, rfl⟩
    go_wp2
    go_ret
    exact ⟨rfl, H.out, grownA_refl _ _⟩
set_option maxHeartbeats 1000000 in
theorem num_all (B : Nat) (most : Int) (s : Cod.S) (w : World) (h : RdA w B s) (hl : s.1.length ≤ 149000000000000) (hm : -9223372036854775808 ≤ most ∧ most ≤ 9223372036854775807) :
    Calls Tryd.prog 45 #[.pointer (some ⟨B, 0, none⟩), .int .i64 most] w (GotA w B (.int .i64 (Cod.numS most s).1) (Cod.numS most s).2) := by
  have N := Lib.hid (number_all B s w h hl)
  have hx := Cod.anyS_lt s
  have hz := fun e => Cod.anyS_zero (s := s) e
  unfold Cod.numS
  generalize Cod.anyS s = r at N hx hz ⊢
  obtain ⟨x, t⟩ := r
  simp only at N hx hz ⊢
  obtain ⟨m1, m2⟩ := hm
  clear h hl
  by_cases hbig : 9223372036854775808 ≤ x
  · rw [if_pos (.inl hbig)]
    have hq : (x : Int) / 9223372036854775808 = 1 := by omega
    clear hbig
    go_enter Tryd.func45, Tryd.ntmps45
    go_wp2_with fail
    refine N.out.mono ?_
    rintro e w1 ⟨rfl, h1, g1⟩
    have F := Lib.hid (fail_any B 5 t w1 h1 (by omega))
    have G1 := Lib.hid g1
    clear h1 g1 N
    go_wp2_with fail
    refine F.out.mono ?_
    rintro e w2 ⟨rfl, h2, g2⟩
    have H2 := Lib.hid h2; have G2 := Lib.hid (grown_trans G1.out g2)
    clear h2 g2 F
    go_wp2
    go_ret
    exact ⟨rfl, H2.out, G2.out⟩
  · have hq : (x : Int) / 9223372036854775808 = 0 := by omega
    by_cases hgt : most < (x : Int)
    · rw [if_pos (.inr hgt)]
      have hgt' : (x : Int) > most := hgt
      clear hbig
      go_enter Tryd.func45, Tryd.ntmps45
      go_wp2_with fail
      refine N.out.mono ?_
      rintro e w1 ⟨rfl, h1, g1⟩
      have F := Lib.hid (fail_any B 5 t w1 h1 (by omega))
      have G1 := Lib.hid g1
      clear h1 g1 N
      go_wp2_with fail
      refine F.out.mono ?_
      rintro e w2 ⟨rfl, h2, g2⟩
      have H2 := Lib.hid h2; have G2 := Lib.hid (grown_trans G1.out g2)
      clear h2 g2 F
      go_wp2
      go_ret
      exact ⟨rfl, H2.out, G2.out⟩
    · rw [if_neg (by omega)]
      have hgt' : ¬ (x : Int) > most := hgt
      go_enter Tryd.func45, Tryd.ntmps45
      go_wp2_with fail
      refine N.out.mono ?_
      rintro e w1 ⟨rfl, h1, g1⟩
      have H1 := Lib.hid h1; have G1 := Lib.hid g1
      clear h1 g1 N
      go_wp2
      go_ret
      exact ⟨rfl, H1.out, G1.out⟩
/-- what reading numbers that rise comes to -/
def GotRise (w : World) (B : Nat) (r : Option (List Int) × Cod.S) (e : Ending) (w' : World) : Prop :=
  ∃ v, e = .returned v ∧ w'.ownsRow w.heap.size 3 1 v (r.1.getD []).length (ints (r.1.getD [])) ∧ RdA w' B r.2 ∧ w.grownBy w' (some B)
theorem ownI_stays {w w' : World} {T R : Nat} {ty : TypeId} {n : Nat} {v : Value} {xs : List Value} (h : w.ownsRow T ty 1 v n xs) (hg : w.grownBy w' (some R)) (hR : R < T) : w'.ownsRow T ty 1 v n xs := own_stays h hg hR
theorem numS_small {many : Int} {s : Cod.S} (h0 : 0 ≤ many) : ((Cod.numS many s).1 : Int) ≤ many := by
  by_cases h : (Cod.numS many s).2.2 = 0
  · exact (Cod.numS_le h).1
  · rw [Cod.numS_zero h]; exact h0

set_option maxHeartbeats 4000000 in
set_option maxRecDepth 100000 in
theorem rising_all (B : Nat) (many top : Int) (s : Cod.S) (w : World) (h : RdA w B s) (hl : s.1.length ≤ 149000000000000) (hm : 0 ≤ many ∧ many ≤ 100000) (ht : -1 ≤ top ∧ top ≤ 9223372036854775807) :
    Calls Tryd.prog 72 #[.pointer (some ⟨B, 0, none⟩), .int .i64 many, .int .i64 top] w (GotRise w B (Cod.riseAll many top s)) := by
  have hBw := h.lt
  have N1 := Lib.hid (num_all B many s w h hl (by omega))
  have hn := numS_small (s := s) hm.1
  obtain ⟨R, hR⟩ : ∃ R, R = Cod.riseAll many top s := ⟨_, rfl⟩
  rw [← hR]
  have HR : Hid (Cod.riseS top (Cod.numS many s).1 (-1) [] (Cod.numS many s).2 = R) := by show Cod.riseS _ _ _ _ _ = R; rw [hR]; rfl
  have hlen := Cod.numS_len many s
  generalize Cod.numS many s = q at N1 hn HR hlen
  obtain ⟨n, s1⟩ := q
  simp only at N1 hn HR hlen
  have HL : Hid (s1.1.length ≤ 149000000000000) := Nat.le_trans hlen hl
  obtain ⟨hm1, hm2⟩ := hm
  obtain ⟨ht1, ht2⟩ := ht
  have hn5 : n ≤ 100000 := by omega
  clear h hl hR hlen hn
  go_enter Tryd.func72, Tryd.ntmps72
  go_wp2_with fail
  refine N1.out.mono ?_
  rintro e w1 ⟨rfl, r1, g1⟩
  have R1 := Lib.hid r1; have G1 := Lib.hid g1
  clear r1 g1 N1
  go_wp2
  go_loopw [8, 9, 17] (fun v u i wr => ∃ (k : Nat) (last : Int) (acc : List Int) (st : Cod.S), k ≤ n ∧ i = .int .i64 k ∧ u = .int .i64 last ∧ -1 ≤ last ∧ last ≤ top ∧ acc.length = k ∧ Cod.riseS top (n - k) last acc st = R ∧ st.1.length ≤ 149000000000000 ∧ wr.ownsRow w.heap.size 3 1 v k (ints acc) ∧ RdA wr B st ∧ w.grownBy wr (some B)) (fun _ _ i _ => n - (intOf i).toNat)
  case atStart => exact ⟨0, -1, [], s1, Nat.zero_le _, rfl, rfl, by omega, ht1, rfl, by rw [Nat.sub_zero]; exact HR.out, HL.out, World.ownsRow_nil _ _ _ _, R1.out, G1.out⟩
  case round =>
    obtain ⟨k, last, acc, st, hk, rfl, rfl, hl1, hl2, hacc, hrs, hst, hown, hrd, hgr⟩ := hrel
    have OW := Lib.hid hown; have RD := Lib.hid hrd; have GR := Lib.hid hgr; have RS := Lib.hid hrs; have AC := Lib.hid hacc; have ST := Lib.hid hst
    clear hown hrd hgr hrs hacc hst
    by_cases hkn : k < n
    · have NU := Lib.hid (num_all B (top - 1 - last) st wr RD.out ST.out (by omega))
      have hrs := RS.out
      rw [show n - k = (n - (k + 1)) + 1 by omega] at hrs
      have hrs : (if (Cod.numS (top - 1 - last) st).2.2 = 0 then Cod.riseS top (n - (k + 1)) (last + 1 + (Cod.numS (top - 1 - last) st).1) (acc ++ [last + 1 + ((Cod.numS (top - 1 - last) st).1 : Int)]) (Cod.numS (top - 1 - last) st).2 else (none, (Cod.numS (top - 1 - last) st).2)) = R := hrs
      have hle := fun e => Cod.numS_le (s := st) (most := top - 1 - last) e
      have hln := Cod.numS_len (top - 1 - last) st
      generalize Cod.numS (top - 1 - last) st = q at NU hrs hle hln
      obtain ⟨d, s2⟩ := q
      simp only at NU hrs hle hln
      have hln2 : Hid (s2.1.length ≤ 149000000000000) := Nat.le_trans hln ST.out
      have hkn' : (k : Int) < n := by omega
      clear hln
      by_cases he : s2.2 = 0
      · rw [if_pos he] at hrs
        obtain ⟨hd1, hd2⟩ := hle he
        have HS := Lib.hid hrs
        have HE := Lib.hid he
        clear hle hrs he RS
        go_wp2_with fail
        refine NU.out.mono ?_
        rintro e w2 ⟨rfl, r2, g2⟩
        have ER := Lib.hid (err_any B _ w2 r2)
        rw [HE.out] at ER
        have R2 := Lib.hid r2; have G2 := Lib.hid (grown_trans GR.out g2); have O2 := Lib.hid (ownI_stays OW.out g2 hBw)
        clear r2 g2 NU OW RD GR
        go_wp2_with fail
        refine ER.out.mono ?_
        rintro e w' ⟨rfl, rfl⟩
        clear ER
        have hsz := G2.out.size
        go_wp2_with (at_builtin; refine wpList_int isI64 _ rfl _ _ rfl w.heap.size k acc _ rfl O2.out _ rfl (by omega) hsz ?_)
        intro v3 w3 own3 b3
        have O3 := Lib.hid own3; have B3 := Lib.hid b3
        clear own3 b3
        go_wp2
        go_roundw
        case rel => exact ⟨k + 1, last + 1 + d, acc ++ [last + 1 + (d : Int)], s2, by omega, by go_num, rfl, by omega, by omega, by rw [List.length_append, AC.out]; rfl, HS.out, hln2.out, O3.out, R2.out.under hBw B3.out, grown_carry G2.out B3.out⟩
        case measure => simp [intOf]; omega
      · rw [if_neg he] at hrs
        have he' : ¬ (s2.2 : Int) = 0 := by omega
        subst hrs
        clear hle he RS HR
        go_wp2_with fail
        refine NU.out.mono ?_
        rintro e w2 ⟨rfl, r2, g2⟩
        have ER := Lib.hid (err_any B _ w2 r2)
        have R2 := Lib.hid r2; have G2 := Lib.hid (grown_trans GR.out g2)
        generalize (s2.2 : Int) = ee at ER he'
        clear r2 g2 NU OW RD GR
        go_wp2_with fail
        refine ER.out.mono ?_
        rintro e w' ⟨rfl, rfl⟩
        clear ER
        go_wp2
        go_ret
        exact ⟨_, rfl, World.ownsRow_nil _ _ _ _, R2.out, G2.out⟩
    · obtain rfl : k = n := by omega
      have hkn' : ¬ (k : Int) < k := by omega
      have hrs := RS.out
      rw [Nat.sub_self] at hrs
      have HS : Hid ((some acc, st) = R) := hrs
      clear hrs RS HR
      go_wp2
      go_ret
      rw [← HS.out]
      refine ⟨_, rfl, ?_, RD.out, GR.out⟩
      show _
      have := OW.out
      rw [← AC.out] at this
      exact this
end Go.Proofs.YtjmglgcifekhgaaDoor
/- The document's reader of any bytes: Fail, any, Num. -/
namespace Go.Proofs.YtjmglgcifekhgaaDoor
open Go Go.RowKit
set_option linter.unusedVariables false

section
variable {P : Program} {o : Oper} {a : Act}
theorem exec_eqlF (t yt : TypeId) (x y : Operand) (ho : o.op = .binOp .eql t x y yt) (X Y : Int) (hne : X ≠ Y) (hx : a.eval x = .int .i64 X) (hy : a.eval y = .int .i64 Y) (w : World) :
    (execOp a.eval o).run P w = .ok (.value (.bool false)) w := by
  unfold execOp
  simp only [ho, hx, hy]
  have : (X == Y) = false := by simpa using hne
  go_simp
theorem exec_neq0 (t yt : TypeId) (x y : Operand) (ho : o.op = .binOp .neq t x y yt) (n : Nat) (v : Bool) (hv : v = !decide (n = 0)) (hx : a.eval x = .int .u8 (n : Int)) (hy : a.eval y = .int .u8 0) (w : World) :
    (execOp a.eval o).run P w = .ok (.value (.bool v)) w := by
  subst hv
  unfold execOp
  simp only [ho, hx, hy]
  by_cases h : n = 0
  · subst h; go_simp
  · have h1 : ((n : Int) == 0) = false := by simp; omega
    have h2 : ((n : Int) != 0) = true := by simp; omega
    have h3 : (!decide (n = 0)) = true := by simp [h]
    rw [h3]
    go_simp
theorem exec_and8 (t yt : TypeId) (x y : Operand) (ho : o.op = .binOp .and t x y yt) (X Y : Nat) (hX : X < 256) (hY : Y < 256) (hx : a.eval x = .int .u8 (X : Int)) (hy : a.eval y = .int .u8 (Y : Int)) (w : World) :
    (execOp a.eval o).run P w = .ok (.value (.int .u8 ((X &&& Y : Nat) : Int))) w := by
  rw [← u8_and_nat X Y hX hY]
  unfold execOp
  simp only [ho, hx, hy]
  rfl
theorem exec_shr8 (t yt : TypeId) (x y : Operand) (ho : o.op = .binOp .shr t x y yt) (k : Nat) (hk : k ≤ 8) (hx : a.eval x = .int .u8 128) (hy : a.eval y = .int .i64 (k : Int)) (w : World) :
    (execOp a.eval o).run P w = .ok (.value (.int .u8 ((128 / 2 ^ k : Nat) : Int))) w := by
  have s : Sem.run P (Op.shift BinOp.shr IntKind.u8 128 IntKind.i64 (k : Int)) w = .ok (.int .u8 ((128 / 2 ^ k : Nat) : Int)) w := by
    unfold Op.shift
    rw [if_neg (by omega)]
    have e2 : min k IntKind.u8.bits = k := by simp [IntKind.bits]; omega
    simp only [Int.toNat_natCast, e2]
    rw [Sem.run_pure]
    have : (128 : Int).fdiv (2 ^ k) = ((128 / 2 ^ k : Nat) : Int) := by
      rw [show ((2 : Int) ^ k) = ((2 ^ k : Nat) : Int) from by simp, Int.fdiv_eq_ediv_of_nonneg _ (Int.natCast_nonneg _)]; simp
    simp only [this]
  unfold execOp
  simp only [ho, hx, hy]
  exact run_value_of s
theorem exec_shr64 (t yt : TypeId) (x y : Operand) (ho : o.op = .binOp .shr t x y yt) (X k : Nat) (hk : k ≤ 64) (hx : a.eval x = .int .u64 (X : Int)) (hy : a.eval y = .int .i64 (k : Int)) (w : World) :
    (execOp a.eval o).run P w = .ok (.value (.int .u64 ((X / 2 ^ k : Nat) : Int))) w := by
  have s := shr_nat P X k hk w
  unfold execOp
  simp only [ho, hx, hy]
  exact run_value_of s
theorem exec_rem64 (t yt : TypeId) (x y : Operand) (ho : o.op = .binOp .rem t x y yt) (X Y : Nat) (hY : Y < 256) (hY0 : 0 < Y) (hx : a.eval x = .int .u64 (X : Int)) (hy : a.eval y = .int .u64 (Y : Int)) (w : World) :
    (execOp a.eval o).run P w = .ok (.value (.int .u64 ((X % Y : Nat) : Int))) w := by
  have h0 : ¬ (Y : Int) = 0 := by omega
  have h1 : (X : Int).tmod (Y : Int) = ((X % Y : Nat) : Int) := by rw [Int.tmod_eq_emod_of_nonneg (by omega)]; simp
  unfold execOp
  simp only [ho, hx, hy]
  go_simp
  omega
end
end Go.Proofs.YtjmglgcifekhgaaDoor
/- The document's reader of any bytes: Fail, any, Num. -/
namespace Go.Proofs.YtjmglgcifekhgaaDoor
open Go Go.RowKit
set_option linter.unusedVariables false

theorem sizeU8 (w : World) : (sizeOf (Tryd.prog.elem 41)).run Tryd.prog w = .ok 1 w := by kernel_rfl
theorem shr_128 (P : Program) (k : Nat) (hk : k ≤ 8) (w : World) : Sem.run P (Op.shift BinOp.shr IntKind.u8 128 IntKind.i64 (k : Int)) w = .ok (.int .u8 ((128 / 2 ^ k : Nat) : Int)) w := by
  unfold Op.shift
  rw [if_neg (by omega)]
  have e2 : min k IntKind.u8.bits = k := by simp [IntKind.bits]; omega
  simp only [Int.toNat_natCast, e2]
  rw [Sem.run_pure]
  have : (128 : Int).fdiv (2 ^ k) = ((128 / 2 ^ k : Nat) : Int) := by
    rw [show ((2 : Int) ^ k) = ((2 ^ k : Nat) : Int) from by simp, Int.fdiv_eq_ediv_of_nonneg _ (Int.natCast_nonneg _)]; simp
  simp only [this]
end Go.Proofs.YtjmglgcifekhgaaDoor
/- The document's reader of any bytes: Num. -/
namespace Go.Proofs.YtjmglgcifekhgaaDoor
open Go Go.RowKit
set_option linter.unusedVariables false

end Go.Proofs.YtjmglgcifekhgaaDoor
/- A vector of any bytes: as the program reads it, and as the document does. -/
namespace Go.Proofs.YtjmglgcifekhgaaDoor
open Go Go.RowKit
set_option linter.unusedVariables false

theorem RdA.beside {w w' : World} {B A : Nat} {s : Cod.S} (h : RdA w B s) (hg : w.grownBy w' (some A)) (hA : B < A) : RdA w' B s := by
  have hlt := h.lt
  have hB : w'.heap[B]? = w.heap[B]? := hg.block B hlt (fun e => by have e2 : B = A := Option.some.inj e; omega)
  rcases h with ⟨h1, b, o, c, h2, h3, h4, h5⟩ | ⟨h1, h2⟩
  · exact .inl ⟨h1, b, o, c, hB.trans h2, fun i hi => hg.cell (h3 i hi) (fun e => by have e2 : b = A := Option.some.inj e; omega), h4, h5⟩
  · exact .inr ⟨h1, hB.trans h2⟩
def GotV (w : World) (B : Nat) (f : Nat → Int) (s : Cod.S) (e : Ending) (w' : World) : Prop := e = .returned (.agg (vf f)) ∧ RdA w' B s ∧ w.grownBy w' (some B)
theorem vec_post {P : Program} {t e : TypeId} (V : Vec P t e) {fn : Func} {p : Tmp} (h : fn.results = #[.cell p t]) {a : Act} {w : World} {g : Nat} {ty : TypeId} {f : Nat → Int} {Q : Ending → World → Prop} (hp : a.tmps.getD p undef = .pointer (some ⟨g, 0, none⟩)) (hd : a.defers = []) (hr : Row w g ty f)
    (hQ : Q (.returned (.agg (vf f))) w) : bodyPost P fn Q .ret a w :=
  bodyPost_ret (v := .agg (vf f)) (results_cell_row h a.tmps w g ty (vf f) (0, 0) _ hp hr V.array rfl (by rw [vf_size]; exact V.whole)) hd hQ
theorem built0 (w : World) : (Instr.build 23 #[]).run Tryd.prog w = .ok (.agg (vf fun _ => 0)) w := by rw [vf_zero]; kernel_rfl

set_option maxHeartbeats 4000000 in
set_option maxRecDepth 100000 in
theorem vread_is (B : Nat) (s : Cod.S) (w : World) (h : RdA w B s) (hl : s.1.length ≤ 149000000000000) :
    Calls Tryd.prog 44 #[.pointer (some ⟨B, 0, none⟩)] w (GotV w B (outV s) (outS s)) := by
  have hBw := h.lt
  have H := Lib.hid h
  clear h
  obtain ⟨OVv, hOVv⟩ : ∃ x, x = outV s := ⟨_, rfl⟩
  obtain ⟨OSv, hOSv⟩ : ∃ x, x = outS s := ⟨_, rfl⟩
  rw [← hOVv, ← hOSv]
  go_enter Tryd.func44, Tryd.ntmps44
  go_wp2_with (refine wpList_valloc vecI zeroV rfl rfl ?_)
  intro gr w1 lr rr hb1
  have B1 := Lib.hid hb1; have RR1 := Lib.hid rr
  clear hb1 rr
  go_wp2_with (refine wpList_valloc vecI zeroV rfl rfl ?_)
  intro gv w2 lv rv hb2
  have hrv : gr < gv := Nat.lt_of_lt_of_le RR1.out.lt lv
  have B2 := Lib.hid (thenBelow B1.out hb2); have RR2 := Lib.hid (RR1.out.later hb2); have RV2 := Lib.hid rv
  have hlow := Nat.le_trans B1.out.size lv
  have H2 := Lib.hid (H.out.below B2.out)
  have hgv2 := rv.lt
  have hz2 := B2.out.size
  clear hb2 rv H B1 RR1
  have R := Lib.hid (rising_all B 64 63 s w2 H2.out hl (by omega) (by omega))
  have hr1 := rdR_len s
  have AT : Hid (∀ k, k < (rdL s).length → ∃ i : Nat, i < 64 ∧ (rdL s).getD k 0 = (i : Int)) := rdL_at s
  have ST : Hid (∀ k, k < (rdL s).length → fillS ((rdL s).take (k + 1)) (fun _ => 0) (Cod.riseAll 64 63 s).2 = (vset (fillS ((rdL s).take k) (fun _ => 0) (Cod.riseAll 64 63 s).2).1 ((rdL s).getD k 0).toNat (((Cod.numS 1073741823 (fillS ((rdL s).take k) (fun _ => 0) (Cod.riseAll 64 63 s).2).2).1 : Int) + 1), (Cod.numS 1073741823 (fillS ((rdL s).take k) (fun _ => 0) (Cod.riseAll 64 63 s).2).2).2)) := fun k hk => fillS_step _ _ _ k hk
  have OS : Hid (OSv = (fillS ((rdL s).take (rdL s).length) (fun _ => 0) (Cod.riseAll 64 63 s).2).2) := by show OSv = _; rw [hOSv, List.take_length]; rfl
  have OV : Hid (OVv = if OSv.2 = 0 then (fillS ((rdL s).take (rdL s).length) (fun _ => 0) (Cod.riseAll 64 63 s).2).1 else fun _ => 0) := by show OVv = _; rw [hOVv, hOSv, List.take_length]; rfl
  have LN : Hid (∀ k, (fillS ((rdL s).take k) (fun _ => 0) (Cod.riseAll 64 63 s).2).2.1.length ≤ 149000000000000) := fun k => Nat.le_trans (fillS_len _ _ _) (Nat.le_trans hr1 hl)
  have L64 : Hid ((rdL s).length < 9223372036854775807) := by
    show (rdL s).length < _
    have h1 := riseS_lenL 63 (Cod.numS 64 s).1 (-1) [] (Cod.numS 64 s).2
    have h2 := numS_small (s := s) (many := 64) (by omega)
    have h3 : (rdL s).length ≤ [].length + (Cod.numS 64 s).1 := h1
    simp only [List.length_nil] at h3
    omega
  have eL : (Cod.riseAll 64 63 s).1.getD [] = rdL s := rfl
  clear hOVv hOSv
  unfold GotRise at R
  rw [eL] at R
  generalize rdL s = l at R AT ST OS OV LN L64
  generalize (Cod.riseAll 64 63 s).2 = s1 at R ST OS OV LN
  clear hr1 eL hl
  go_wp2_with fail
  refine R.out.mono ?_
  rintro e w3 ⟨v3, rfl, ho3, hr3, hg3⟩
  obtain ⟨hkk, q, d, rfl, _, _, _⟩ := own_liesI ho3
  clear hkk
  have O3 := Lib.hid ho3; have D3 := Lib.hid hr3
  have RR3 := Lib.hid (RR2.out.kept hg3 (fun e => by have e2 : gr = B := Option.some.inj e; omega))
  have RV3 := Lib.hid (RV2.out.kept hg3 (fun e => by have e2 : gv = B := Option.some.inj e; omega))
  have G3 := Lib.hid (grown_trans (grown_of_below B2.out (r := some B)) hg3)
  have hz3 := hg3.size
  clear ho3 hr3 hg3 R RR2 RV2 H2
  have hL := L64.out
  go_wp2
  go_loopw [9] (fun i wr => ∃ k : Nat, k ≤ l.length ∧ i = .int .i64 k ∧ wr.ownsRow w2.heap.size 3 1 (.slice q l.length d) l.length (ints l) ∧ RdA wr B (fillS (l.take k) (fun _ => 0) s1).2 ∧ Row wr gv 23 (fillS (l.take k) (fun _ => 0) s1).1 ∧ Row wr gr 23 (fun _ => 0) ∧ w.grownBy wr (some B)) (fun i _ => l.length - (intOf i).toNat)
  case atStart => exact ⟨0, by omega, rfl, O3.out, D3.out, RV3.out, RR3.out, G3.out⟩
  case round =>
    obtain ⟨k, hk, rfl, ho, hd, hv, hr, hg⟩ := hrel
    have O := Lib.hid ho; have D := Lib.hid hd; have RV := Lib.hid hv; have RR := Lib.hid hr; have GG := Lib.hid hg
    clear ho hd hv hr hg O3 D3 RV3 RR3 G3
    by_cases hlt : k < l.length
    · obtain ⟨i, hi64, hik⟩ := AT.out k hlt
      have hS := ST.out k hlt
      rw [hik, Int.toNat_natCast] at hS
      have hln := LN.out k
      generalize fillS (l.take k) (fun _ => 0) s1 = z at D RV hS hln
      obtain ⟨f, st⟩ := z
      simp only at D RV hS hln
      have NM := Lib.hid (num_all B 1073741823 st _ D.out hln (by omega))
      obtain ⟨hkk, q2, d2, hvv, hld, hli, _⟩ := own_liesI O.out
      simp only [Value.slice.injEq] at hvv
      obtain ⟨hq2, _, hd2⟩ := hvv
      subst hq2 hd2
      obtain ⟨b, o, rfl, _, hcl⟩ := hli.at (by omega)
      have hck := hcl k hlt
      rw [hik] at hck
      have hkI : (k : Int) < l.length := by omega
      have hle : (Cod.numS 1073741823 st).2.2 = 0 → ((Cod.numS 1073741823 st).1 : Int) ≤ 1073741823 := fun e => (Cod.numS_le e).1
      have hze : (Cod.numS 1073741823 st).2.2 ≠ 0 → (Cod.numS 1073741823 st).1 = 0 := fun e => Cod.numS_zero e
      have hnb : ((Cod.numS 1073741823 st).1 : Int) ≤ 1073741823 := by
        by_cases e : (Cod.numS 1073741823 st).2.2 = 0
        · exact hle e
        · rw [hze e]; omega
      generalize Cod.numS 1073741823 st = y at NM hS hnb
      obtain ⟨m, s2⟩ := y
      simp only at NM hS hnb
      have HS := Lib.hid hS
      have hiI : (i : Int) < 64 := by omega
      clear hkk hli hcl hS hle hze hln hik
      go_wp2_with fail
      refine NM.out.mono ?_
      rintro e w5 ⟨rfl, hr5, hg5⟩
      have O5 := Lib.hid (ownI_stays O.out hg5 (by omega))
      have RV5 := Lib.hid (RV.out.kept hg5 (fun e => by have e2 : gv = B := Option.some.inj e; omega))
      have RR5 := Lib.hid (RR.out.kept hg5 (fun e => by have e2 : gr = B := Option.some.inj e; omega))
      have G5 := Lib.hid (grown_trans GG.out hg5)
      have D5 := Lib.hid hr5
      have hz5 := G5.out.size
      clear hr5 hg5 NM O RV RR D GG hck
      have hfr := RV5.out.free i
      have hcc := RV5.out.cell i hi64
      have SG := grown_cell w5 gv i (.int .i64 ((m : Int) + 1))
      have O6 := Lib.hid (ownI_stays O5.out SG (by omega))
      have RV6 := Lib.hid (RV5.out.set i ((m : Int) + 1))
      have RR6 := Lib.hid (RR5.out.kept SG (fun e => by have e2 : gr = gv := Option.some.inj e; omega))
      have D6 := Lib.hid (D5.out.beside SG (by omega))
      have G6 := Lib.hid (grown_carry G5.out (grown_below SG hz5 (by omega)))
      clear SG O5 RR5 D5 RV5 G5
      go_wp2
      go_roundw
      case rel => exact ⟨k + 1, by omega, by go_num, O6.out, by rw [HS.out]; exact D6.out, by rw [HS.out]; exact RV6.out, RR6.out, G6.out⟩
      case measure => simp [intOf]; omega
    · obtain rfl : k = l.length := by omega
      have hkI : ¬ ((l.length : Int) < l.length) := by omega
      rw [← OS.out] at D
      have E := Lib.hid (err_any B OSv wr D.out)
      generalize fillS (l.take l.length) (fun _ => 0) s1 = z at RV OV OS
      obtain ⟨f, st⟩ := z
      simp only at RV OV OS
      by_cases he : OSv.2 = 0
      · have ov := OV.out
        rw [if_pos he] at ov
        subst ov
        rw [he] at E
        go_wp2_with fail
        refine E.out.mono ?_
        rintro e w' ⟨rfl, rfl⟩
        go_wp2_with (first | refine wpList_vload vecI rfl _ rfl gv rfl _ _ RV.out ?_ | refine wpList_vstore vecI rfl _ _ rfl gr rfl _ rfl _ _ RR.out ?_)
        intro w7 r7 g7 _
        have R7 := Lib.hid r7
        have D7 := Lib.hid (D.out.beside g7 (by omega))
        have hz7 := GG.out.size
        have G7 := Lib.hid (grown_carry GG.out (grown_below g7 hz7 (by omega)))
        clear r7 g7
        go_wp2
        exact vec_post vecI rfl rfl rfl R7.out ⟨rfl, D7.out, G7.out⟩
      · have ov := OV.out
        rw [if_neg he] at ov
        subst ov
        have he2 : ¬ ((OSv.2 : Nat) : Int) = 0 := by omega
        generalize ((OSv.2 : Nat) : Int) = ee at E he2
        go_wp2_with fail
        refine E.out.mono ?_
        rintro e w' ⟨rfl, rfl⟩
        go_wp2_with (first | refine wpList_vbuild (by rfl) _ rfl (fun _ => 0) (by simp only [List.map_toArray, List.map_nil]; exact built0 _) ?_ | refine wpList_vstore vecI rfl _ _ rfl gr rfl _ rfl _ _ RR.out ?_)
        intro w7 r7 g7 _
        have R7 := Lib.hid r7
        have D7 := Lib.hid (D.out.beside g7 (by omega))
        have hz7 := GG.out.size
        have G7 := Lib.hid (grown_carry GG.out (grown_below g7 hz7 (by omega)))
        clear r7 g7
        go_wp2
        exact vec_post vecI rfl rfl rfl R7.out ⟨rfl, D7.out, G7.out⟩
end Go.Proofs.YtjmglgcifekhgaaDoor
/- docs: a state that was written is read. -/
namespace Go.Proofs.YtjmglgcifekhgaaDoor
open Go Go.RowKit
set_option linter.unusedVariables false
set_option maxRecDepth 1000000

/-- what reading a state comes to -/
def GotSt (w : World) (B : Nat) (F : Nat → Int) (L : List Wr) (l : List UInt8) (e : Ending) (w' : World) : Prop := ∃ p c, e = .returned (.agg (scs F (.slice p L.length c))) ∧ WrsAt w' p L ∧ (∀ a, p = some a → ∃ b o, a = ⟨b, o, none⟩) ∧ Rd w' B l ∧ w.grownBy w' (some B)
theorem RdA.live {w : World} {B : Nat} {m : List UInt8} (h : RdA w B (m, 0)) (hm : 0 < m.length) : Rd w B m := by
  rcases h with ⟨_, h⟩ | ⟨h, _⟩
  · exact h
  · have h' : m = [] := h
    subst h'; simp at hm
theorem wts_drop (L : List Wr) (k : Nat) (h : k < L.length) : (L.drop k).flatMap wtB = wtB L[k] ++ (L.drop (k + 1)).flatMap wtB := by
  rw [List.drop_eq_getElem_cons h, List.flatMap_cons]
theorem wcl_step (L : List Wr) (k : Nat) (h : k < L.length) : wcl (L.take (k + 1)) = wcl (L.take k) ++ L[k].cells := by
  rw [List.take_succ_eq_append_getElem h, wcl_append]; simp [wcl]
theorem wts_len (L : List Wr) (h : ∀ y ∈ L, Small1 y) : (L.flatMap wtB).length ≤ 2100 * L.length := by
  induction L with
  | nil => simp
  | cons y L ih =>
    have h1 := wtB_len (h y (by simp))
    have h2 := ih fun z hz => h z (by simp [hz])
    rw [List.flatMap_cons, List.length_append, List.length_cons]; omega
set_option maxHeartbeats 8000000 in
theorem readState_live (B : Nat) (F : Nat → Int) (L : List Wr) (l : List UInt8) (w : World) (h : Rd w B (stB F L ++ l)) (hc : canB F L = true) (hT : ∀ w', w.grownBy w' (some B) → Shapes w') (hl : l.length ≤ 141000000000000) :
    Calls Tryd.prog 16 #[.pointer (some ⟨B, 0, none⟩)] w (GotSt w B F L l) := by
  have CP := can_iff.1 hc
  have CC : Hid (canB F L = true) := Lib.hid hc
  have HB := Lib.hid h.lt'
  have HT := Lib.hid hT
  have hB := h.lt'
  have FG : Hid (∀ y ∈ L, chk (putE y) = 0) := Lib.hid fun y hy => (CP.fine y hy).1
  have SM : Hid (∀ y ∈ L, Small1 y) := Lib.hid fun y hy => small_of (FG.out y hy)
  have L4 : Hid (L.length ≤ 4096) := Lib.hid CP.len
  have HGd : Hid (goodB F = true) := Lib.hid CP.good
  clear hc hT CP
  have e6 := enc_len L.length
  have e7 : 0 < (Cod.enc L.length).length := by rw [Cod.enc_length]; omega
  obtain ⟨T2, q2⟩ : ∃ X, L.flatMap wtB ++ l = X := ⟨_, rfl⟩
  obtain ⟨T1, q1⟩ : ∃ X, Cod.enc L.length ++ T2 = X := ⟨_, rfl⟩
  have hR : stB F L ++ l = vbytes F ++ T1 := by rw [← q1, ← q2]; unfold stB; simp only [List.append_assoc]
  rw [hR] at h
  have n2 : T2.length ≤ l.length + 8700000 := by rw [← q2, List.length_append]; have := wts_len L SM.out; have := L4.out; omega
  have n1 : T1.length ≤ l.length + 8700010 := by rw [← q1, List.length_append]; omega
  have p1 : 0 < T1.length := by rw [← q1, List.length_append]; omega
  have Q2 := Lib.hid q2; have Q1 := Lib.hid q1
  have VB := Lib.hid (vec_back F HGd.out T1)
  have VL := vbytes_len F
  clear q2 q1 hR
  have H := Lib.hid h
  clear h
  go_enter Tryd.func16, Tryd.ntmps16
  go_wp2_with (refine wpList_galloc _ zeroSt rfl rfl ?_)
  intro g2 w1 l2 h2 hb1
  have K1 : Hid (Sx w1 g2 (fun _ => 0) (.slice none 0 0)) := Lib.hid h2
  have V1 := Lib.hid (vread_is B (vbytes F ++ T1, 0) w1 (.inl ⟨rfl, H.out.on hb1⟩) (by simp only [List.length_append]; omega))
  have G1 := Lib.hid (grown_less (R := some B) hb1)
  clear hb1 h2
  have VE : Hid (vf (outV (vbytes F ++ T1, 0)) = vf F) := Lib.hid (vf_congr VB.out.2)
  have SE : Hid (outS (vbytes F ++ T1, 0) = (T1, 0)) := Lib.hid VB.out.1
  have V2 : Hid (Calls Tryd.prog 44 #[.pointer (some ⟨B, 0, none⟩)] w1 fun e w' => e = .returned (.agg (vf F)) ∧ Rd w' B T1 ∧ w1.grownBy w' (some B)) := Lib.hid (V1.out.mono fun e w' ⟨h1, h2, h3⟩ => ⟨by rw [h1, VE.out], by rw [SE.out] at h2; exact h2.live p1, h3⟩)
  clear V1 VE SE VB
  go_wp2_with fail
  refine V2.out.mono ?_
  rintro e w2 ⟨rfl, hr, hg⟩
  have G2 := Lib.hid (grown_trans G1.out hg)
  have K2 : Hid (Sx w2 g2 (fun _ => 0) (.slice none 0 0)) := Lib.hid (grown_step G1.out hg HB.out l2 K1.out)
  have R2 := Lib.hid hr
  clear hr hg V2 K1
  go_wp2_with (first | refine wpList_pbuild (by rfl) _ rfl (scs F (.slice none 0 0)) (by simp only [List.map_toArray, List.map_cons, List.map_nil]; exact builtSt1 F _) ?_ | refine wpList_galloc _ zeroSt rfl rfl ?_)
  intro g3 w8 l8 h8 hb8
  have hl3 : w.heap.size ≤ g3 := Nat.le_trans G2.out.size l8
  have G8 := Lib.hid (grown_on G2.out (hb8.mono G2.out.size))
  have K8 : Hid (Sx w8 g2 (fun _ => 0) (.slice none 0 0)) := Lib.hid (K2.out.later hb8)
  have R8 := Lib.hid (R2.out.on hb8)
  have h23 : g2 ≠ g3 := by have := K2.out.lt; omega
  have H8 := Lib.hid h8
  clear hb8 h8 R2 K2 l8
  go_wp2_with (refine wpList_gstore rfl _ _ rfl g3 rfl (scs F (.slice none 0 0)) rfl _ _ H8.out (sizeSt _ _) (by rw [scs_size, scs_size]) (scs_one F rfl) ?_)
  intro w9 h9 g9
  have B9 : Below w.heap.size w8 w9 := grown_below g9 G8.out.size hl3
  have G9 := Lib.hid (grown_onE G8.out g9 hl3)
  have K9 : Hid (Sx w9 g2 (fun _ => 0) (.slice none 0 0)) := Lib.hid ((g9.block _ K8.out.lt (by simpa using h23)).trans K8.out)
  have R9 := Lib.hid (R8.out.under' HB.out B9)
  have H9 : Hid (Sx w9 g3 F (.slice none 0 0)) := Lib.hid h9
  clear h9 g9 B9 H8 K8 R8
  rw [← Q1.out] at R9
  have N9 := Lib.hid (numIn_live B L.length 4096 T2 w9 R9.out (by have := L4.out; omega) (by omega) (by simp only [List.length_append]; omega))
  obtain ⟨AG, hAG⟩ : ∃ v, Value.agg (scs F (.slice none 0 0)) = v := ⟨_, rfl⟩
  rw [hAG]
  clear hAG
  go_wp2_with fail
  refine N9.out.mono ?_
  rintro e w10 ⟨rfl, hr, hg⟩
  have G10 := Lib.hid (grown_trans G9.out hg)
  have K10 : Hid (Sx w10 g2 (fun _ => 0) (.slice none 0 0)) := Lib.hid (grown_step G9.out hg HB.out l2 K9.out)
  have H10 : Hid (Sx w10 g3 F (.slice none 0 0)) := Lib.hid (grown_step G9.out hg HB.out hl3 H9.out)
  have R10 := Lib.hid hr
  clear hr hg N9 K9 H9 R9
  go_wp2
  go_loopw [9] (fun i wr => ∃ (j : Nat) (u : Value) (xs : List Value) (TJ : List UInt8), j ≤ L.length ∧ i = .int .i64 j ∧ Hid (xs = wcl (L.take j)) ∧ Hid (TJ = (L.drop j).flatMap wtB ++ l) ∧ Sx wr g3 F u ∧ wr.ownsRow w.heap.size 50 6 u j xs ∧ Rd wr B TJ ∧ w.grownBy wr (some B) ∧ Sx wr g2 (fun _ => 0) (.slice none 0 0)) (fun i _ => L.length - (intOf i).toNat)
  case atStart => exact ⟨0, _, [], T2, Nat.zero_le _, rfl, Lib.hid rfl, Lib.hid (by simpa using Q2.out.symm), H10.out, World.ownsRow_nil _ _ _ _, R10.out, G10.out, K10.out⟩
  case round =>
    clear Q2 H10 R10 G10 K10
    obtain ⟨j, u, xs, TJ, hj, rfl, HXS, HTJ, hh, hown, hrd, hgr, hk⟩ := hrel
    have H0 := Lib.hid hh; have OW := Lib.hid hown; have RD := Lib.hid hrd; have GR := Lib.hid hgr; have KK := Lib.hid hk
    clear hh hown hrd hgr hk
    by_cases hjk : j < L.length
    · have hjk' : (j : Int) < L.length := by omega
      have hL4 : L.length ≤ 4096 := L4.out
      have nT : TJ.length ≤ l.length + 8700000 := by
        rw [HTJ.out, List.length_append]
        have := wts_len (L.drop j) fun y hy => SM.out y (List.mem_of_mem_drop hy)
        have h1 : (L.drop j).length ≤ L.length := by rw [List.length_drop]; omega
        have := L4.out
        omega
      have FD := Lib.hid (wts_drop L j hjk); have DT := Lib.hid (wcl_step L j hjk)
      have hvl := FG.out _ (List.getElem_mem hjk)
      obtain ⟨y, hz⟩ : ∃ z, L[j] = z := ⟨_, rfl⟩
      rw [hz] at FD DT hvl
      clear hz
      obtain ⟨TK, hTK⟩ : ∃ X, (L.drop (j + 1)).flatMap wtB ++ l = X := ⟨_, rfl⟩
      have HTK := Lib.hid hTK.symm
      have hTJ : TJ = wtB y ++ TK := by rw [HTJ.out, FD.out, List.append_assoc, hTK]
      clear hTK
      have nK : TK.length ≤ l.length + 8700000 := by rw [hTJ, List.length_append] at nT; omega
      have HTJ2 := Lib.hid hTJ
      clear hTJ
      have RDT : Hid (∀ W, Below wr.heap.size wr W → Calls Tryd.prog 46 #[.pointer (some ⟨B, 0, none⟩)] W (GotW W B (.agg y.cells.toArray) TK)) := Lib.hid fun W hW => readWrite_live B y TK W (by rw [← HTJ2.out]; exact RD.out.on hW) hvl (by omega)
      have XN : Hid (xs ++ y.cells = wcl (L.take (j + 1))) := Lib.hid (by rw [HXS.out, DT.out])
      have YO : ∀ v ∈ y.cells, v.oneCell' = true := y.cells_one
      obtain ⟨yr, yn, yt, yd, yf, ytx⟩ := y
      have RDT : Hid (∀ W, Below wr.heap.size wr W → Calls Tryd.prog 46 #[.pointer (some ⟨B, 0, none⟩)] W (GotW W B (.agg #[.int .i64 yr, .int .i64 yn, .int .i64 yt, .string yd, .int .i64 yf, .string ytx]) TK)) := RDT
      have XN : Hid (xs ++ [.int .i64 yr, .int .i64 yn, .int .i64 yt, .string yd, .int .i64 yf, .string ytx] = wcl (L.take (j + 1))) := XN
      have YO : Hid (∀ v ∈ ([.int .i64 yr, .int .i64 yn, .int .i64 yt, .string yd, .int .i64 yf, .string ytx] : List Value), v.oneCell' = true) := Lib.hid YO
      go_wp2_with fail
      rename_i K2 hK2
      have SZ : ∀ w : World, (sizeOf 24).run Tryd.prog w = .ok 1 w := fun w => by kernel_rfl
      have FIN : ∀ (X15 v' : Value) (W : World), Sx W g3 F v' → W.ownsRow w.heap.size 50 6 v' (j + 1) (xs ++ [.int .i64 yr, .int .i64 yn, .int .i64 yt, .string yd, .int .i64 yf, .string ytx]) → Rd W B TK → w.grownBy W (some B) → Sx W g2 (fun _ => 0) (.slice none 0 0) → K2 { tmps := #[.pointer (some ⟨B, 0, none⟩), undef, .pointer (some ⟨g2, 0, none⟩), .pointer (some ⟨g3, 0, none⟩), .pointer (some ⟨B, 0, none⟩), .agg (vf F), AG, .pointer (some ⟨B, 0, none⟩), .int .i64 (L.length : Int), .int .i64 (j : Int), .bool true, .pointer (some ⟨g3, 64, none⟩), u, .pointer (some ⟨B, 0, none⟩), .agg #[.int .i64 yr, .int .i64 yn, .int .i64 yt, .string yd, .int .i64 yf, .string ytx], X15, v', .pointer (some ⟨g3, 64, none⟩), u18, undef, undef, undef, undef, undef, undef, undef, undef, undef, undef, undef, undef, undef, undef, undef], defers := [] } W := by
        intro X15 v' W q1 q2 q3 q4 q5
        refine hK2 _ _ ?_
        clear hK2
        have P1 := Lib.hid q1; have P2 := Lib.hid q2; have P3 := Lib.hid q3; have P4 := Lib.hid q4; have P5 := Lib.hid q5
        clear q1 q2 q3 q4 q5 RDT
        go_wp2
        go_roundw
        case rel => exact ⟨j + 1, v', _, TK, by omega, by go_num, XN, HTK, P1.out, P2.out, P3.out, P4.out, P5.out⟩
        case measure => simp [intOf]; omega
      have GD := Lib.hid (grown_on GR.out (to_drew (Below.refl w.heap.size wr)))
      have HD : Hid (Sx wr.drew g3 F u) := Lib.hid H0.out
      have KD : Hid (Sx wr.drew g2 (fun _ => 0) (.slice none 0 0)) := Lib.hid KK.out
      have OD := Lib.hid (own_later OW.out (to_drew (Below.refl wr.heap.size wr)))
      obtain ⟨i0, hi, hz0, hz1, hz2⟩ := info_parts infoWr
      refine rg_last (by kernel_rfl) rfl (S := fun _ => True) ?_
      refine rgd_pure 0 (some 11) rfl rfl (.pointer (some ⟨g3, 64, none⟩)) (by kernel_rfl) (by kernel_rfl) (by kernel_rfl) (fun _ _ _ _ h => h) (by kernel_rfl) (fun w => by kernel_rfl) trivial ?_
      refine rgd_pure 2 (some 13) rfl rfl (.pointer (some ⟨B, 0, none⟩)) (by kernel_rfl) (by kernel_rfl) (by kernel_rfl) (fun _ _ _ _ h => h) (by kernel_rfl) (fun w => by kernel_rfl) trivial ?_
      refine rgd_two 1 3 (some 12) (some 14) (by kernel_rfl) rfl rfl (by kernel_rfl) u wr.drew (exec_load1 _ _ rfl Tryd.underlying24 rfl ⟨g3, 64, none⟩ u (by kernel_rfl) (Sx.slot HD.out)) rfl rfl (by kernel_rfl) 46 #[.pointer (some ⟨B, 0, none⟩)] (by kernel_rfl) (RDT.out wr.drew (to_drew (Below.refl _ _))) trivial ?_ ?_
      · refine rgd_call 3 (some 14) (by kernel_rfl) rfl rfl (by kernel_rfl) 46 #[.pointer (some ⟨B, 0, none⟩)] (by kernel_rfl) (RDT.out wr.drew (to_drew (Below.refl _ _))) ?_
        rintro e U1 ⟨rfl, r1, g1⟩
        refine ⟨_, rfl, trivial, ?_⟩
        have hU : Sx U1 g3 F u := grown_step GD.out g1 HB.out hl3 HD.out
        have kU : Sx U1 g2 (fun _ => 0) (.slice none 0 0) := grown_step GD.out g1 HB.out l2 KD.out
        have oU := own_keep OD.out g1 (own_above OD.out HB.out)
        have gU := grown_trans GD.out g1
        have bA := below_alloc U1 (.cells #[.int .i64 yr, .int .i64 yn, .int .i64 yt, .string yd, .int .i64 yf, .string ytx] 50)
        have rA := r1.on bA
        have hA : Sx (U1.alloc (.cells #[.int .i64 yr, .int .i64 yn, .int .i64 yt, .string yd, .int .i64 yf, .string ytx] 50)) g3 F u := hU.later bA
        have kA : Sx (U1.alloc (.cells #[.int .i64 yr, .int .i64 yn, .int .i64 yt, .string yd, .int .i64 yf, .string ytx] 50)) g2 (fun _ => 0) (.slice none 0 0) := kU.later bA
        have oA := own_later oU bA
        have gA := grown_on gU (bA.mono gU.size)
        have nA := heap_alloc_new U1 (.cells #[.int .i64 yr, .int .i64 yn, .int .i64 yt, .string yd, .int .i64 yf, .string ytx] 50)
        obtain ⟨v1, w1', hrun, o1, q1, _⟩ := run_append_own (P := Tryd.prog) (w := U1.alloc (.cells #[.int .i64 yr, .int .i64 yn, .int .i64 yt, .string yd, .int .i64 yf, .string ytx] 50)) w.heap.size 24 24 50 i0 _ 6 64 Tryd.underlying24 hi hz0 hz1 hz2 rfl (by decide) u j xs oA ⟨U1.heap.size, 0, none⟩ 1 1 [.int .i64 yr, .int .i64 yn, .int .i64 yt, .string yd, .int .i64 yf, .string ytx] rfl (fun k y hy => by rw [Addr.add_lit, Nat.zero_add, cell_of_row _ U1.heap.size k _ _ _ nA]; simpa using hy) YO.out (by unfold maxLen; have := L4.out; omega) (by have := L4.out; omega) gA.size
        have bW : Below w.heap.size (U1.alloc (.cells #[.int .i64 yr, .int .i64 yn, .int .i64 yt, .string yd, .int .i64 yf, .string ytx] 50)) w1' := (Below.refl _ _).grown q1 gA.size (fun k hk => (oA.lt k hk).1)
        have hW : Sx w1' g3 F u := (q1.block g3 hA.lt (own_not oA hA (by decide))).trans hA
        have kW : Sx w1' g2 (fun _ => 0) (.slice none 0 0) := (q1.block g2 kA.lt (own_not oA kA (by decide))).trans kA
        have rW := rA.under' HB.out bW
        have gW := grown_on gA bW
        obtain ⟨pv, cv, hv1⟩ := own_slice o1
        subst hv1
        have gS := grown_cell w1' g3 64 (.slice pv (j + 1) cv)
        have hS := hW.setSlot (.slice pv (j + 1) cv)
        have kS : Sx _ g2 (fun _ => 0) (.slice none 0 0) := (gS.block g2 kW.lt (by simpa using h23)).trans kW
        have oS := own_keep o1 gS (.inr fun e => own_not o1 hW (by decide) e.symm)
        have rS := rW.under' HB.out (grown_below gS gW.size hl3)
        have gE := grown_onE gW gS hl3
        have KE := FIN (.slice (some ⟨U1.heap.size, 0, none⟩) 1 1) (.slice pv (j + 1) cv) _ hS oS rS gE kS
        refine rgd_run 4 (some 15) (by kernel_rfl) rfl rfl (by kernel_rfl) (.slice (some ⟨U1.heap.size, 0, none⟩) 1 1) (U1.alloc (.cells #[.int .i64 yr, .int .i64 yn, .int .i64 yt, .string yd, .int .i64 yf, .string ytx] 50)) (by kernel_rfl) trivial ?_
        refine rgd_run 5 (some 16) (by kernel_rfl) rfl rfl (by kernel_rfl) (.slice pv (j + 1) cv) w1' (exec_appendV _ _ rfl _ _ (by kernel_rfl) (by kernel_rfl) hrun) trivial ?_
        refine rgd_pure 6 (some 17) rfl rfl (.pointer (some ⟨g3, 64, none⟩)) (by kernel_rfl) (by kernel_rfl) (by kernel_rfl) (fun _ _ _ _ h => h) (by kernel_rfl) (fun w => by kernel_rfl) trivial ?_
        refine rgd_do 7 none (by kernel_rfl) rfl rfl (by kernel_rfl) _ (exec_storeV _ _ _ rfl SZ ⟨g3, 64, none⟩ pv (j + 1) cv u (by kernel_rfl) (by kernel_rfl) hW.slot (frozen_of_row _ g3 64 _ _ hW)) trivial ?_
        exact wpAnyH_done (by kernel_rfl) (Eq.mp (by kernel_rfl) KE) _
      · rintro e U1 ⟨rfl, r1, g1⟩
        refine ⟨_, rfl, trivial, ?_⟩
        have hU : Sx U1 g3 F u := grown_step GD.out g1 HB.out hl3 HD.out
        have kU : Sx U1 g2 (fun _ => 0) (.slice none 0 0) := grown_step GD.out g1 HB.out l2 KD.out
        have oU := own_keep OD.out g1 (own_above OD.out HB.out)
        have gU := grown_trans GD.out g1
        have bA := below_alloc U1 (.cells #[.int .i64 yr, .int .i64 yn, .int .i64 yt, .string yd, .int .i64 yf, .string ytx] 50)
        have rA := r1.on bA
        have hA : Sx (U1.alloc (.cells #[.int .i64 yr, .int .i64 yn, .int .i64 yt, .string yd, .int .i64 yf, .string ytx] 50)) g3 F u := hU.later bA
        have kA : Sx (U1.alloc (.cells #[.int .i64 yr, .int .i64 yn, .int .i64 yt, .string yd, .int .i64 yf, .string ytx] 50)) g2 (fun _ => 0) (.slice none 0 0) := kU.later bA
        have oA := own_later oU bA
        have gA := grown_on gU (bA.mono gU.size)
        have nA := heap_alloc_new U1 (.cells #[.int .i64 yr, .int .i64 yn, .int .i64 yt, .string yd, .int .i64 yf, .string ytx] 50)
        obtain ⟨v1, w1', hrun, o1, q1, _⟩ := run_append_own (P := Tryd.prog) (w := U1.alloc (.cells #[.int .i64 yr, .int .i64 yn, .int .i64 yt, .string yd, .int .i64 yf, .string ytx] 50)) w.heap.size 24 24 50 i0 _ 6 64 Tryd.underlying24 hi hz0 hz1 hz2 rfl (by decide) u j xs oA ⟨U1.heap.size, 0, none⟩ 1 1 [.int .i64 yr, .int .i64 yn, .int .i64 yt, .string yd, .int .i64 yf, .string ytx] rfl (fun k y hy => by rw [Addr.add_lit, Nat.zero_add, cell_of_row _ U1.heap.size k _ _ _ nA]; simpa using hy) YO.out (by unfold maxLen; have := L4.out; omega) (by have := L4.out; omega) gA.size
        have bW : Below w.heap.size (U1.alloc (.cells #[.int .i64 yr, .int .i64 yn, .int .i64 yt, .string yd, .int .i64 yf, .string ytx] 50)) w1' := (Below.refl _ _).grown q1 gA.size (fun k hk => (oA.lt k hk).1)
        have hW : Sx w1' g3 F u := (q1.block g3 hA.lt (own_not oA hA (by decide))).trans hA
        have kW : Sx w1' g2 (fun _ => 0) (.slice none 0 0) := (q1.block g2 kA.lt (own_not oA kA (by decide))).trans kA
        have rW := rA.under' HB.out bW
        have gW := grown_on gA bW
        obtain ⟨pv, cv, hv1⟩ := own_slice o1
        subst hv1
        have gS := grown_cell w1' g3 64 (.slice pv (j + 1) cv)
        have hS := hW.setSlot (.slice pv (j + 1) cv)
        have kS : Sx _ g2 (fun _ => 0) (.slice none 0 0) := (gS.block g2 kW.lt (by simpa using h23)).trans kW
        have oS := own_keep o1 gS (.inr fun e => own_not o1 hW (by decide) e.symm)
        have rS := rW.under' HB.out (grown_below gS gW.size hl3)
        have gE := grown_onE gW gS hl3
        have KE := FIN (.slice (some ⟨U1.heap.size, 0, none⟩) 1 1) (.slice pv (j + 1) cv) _ hS oS rS gE kS
        refine rgd_acts 1 4 (some 12) (some 15) (by kernel_rfl) rfl rfl (by kernel_rfl) u U1 (exec_load1 _ _ rfl Tryd.underlying24 rfl ⟨g3, 64, none⟩ u (by kernel_rfl) (Sx.slot hU)) trivial rfl rfl (by kernel_rfl) (.slice (some ⟨U1.heap.size, 0, none⟩) 1 1) (U1.alloc (.cells #[.int .i64 yr, .int .i64 yn, .int .i64 yt, .string yd, .int .i64 yf, .string ytx] 50)) (by kernel_rfl) trivial ?_ ?_
        · refine rgd_run 4 (some 15) (by kernel_rfl) rfl rfl (by kernel_rfl) (.slice (some ⟨U1.heap.size, 0, none⟩) 1 1) (U1.alloc (.cells #[.int .i64 yr, .int .i64 yn, .int .i64 yt, .string yd, .int .i64 yf, .string ytx] 50)) (by kernel_rfl) trivial ?_
          refine rgd_run 5 (some 16) (by kernel_rfl) rfl rfl (by kernel_rfl) (.slice pv (j + 1) cv) w1' (exec_appendV _ _ rfl _ _ (by kernel_rfl) (by kernel_rfl) hrun) trivial ?_
          refine rgd_pure 6 (some 17) rfl rfl (.pointer (some ⟨g3, 64, none⟩)) (by kernel_rfl) (by kernel_rfl) (by kernel_rfl) (fun _ _ _ _ h => h) (by kernel_rfl) (fun w => by kernel_rfl) trivial ?_
          refine rgd_do 7 none (by kernel_rfl) rfl rfl (by kernel_rfl) _ (exec_storeV _ _ _ rfl SZ ⟨g3, 64, none⟩ pv (j + 1) cv u (by kernel_rfl) (by kernel_rfl) hW.slot (frozen_of_row _ g3 64 _ _ hW)) trivial ?_
          exact wpAnyH_done (by kernel_rfl) (Eq.mp (by kernel_rfl) KE) _
        · refine rgd_run 1 (some 12) (by kernel_rfl) rfl rfl (by kernel_rfl) u _ (exec_load1 _ _ rfl Tryd.underlying24 rfl ⟨g3, 64, none⟩ u (by kernel_rfl) (Sx.slot hA)) trivial ?_
          refine rgd_run 5 (some 16) (by kernel_rfl) rfl rfl (by kernel_rfl) (.slice pv (j + 1) cv) w1' (exec_appendV _ _ rfl _ _ (by kernel_rfl) (by kernel_rfl) hrun) trivial ?_
          refine rgd_pure 6 (some 17) rfl rfl (.pointer (some ⟨g3, 64, none⟩)) (by kernel_rfl) (by kernel_rfl) (by kernel_rfl) (fun _ _ _ _ h => h) (by kernel_rfl) (fun w => by kernel_rfl) trivial ?_
          refine rgd_do 7 none (by kernel_rfl) rfl rfl (by kernel_rfl) _ (exec_storeV _ _ _ rfl SZ ⟨g3, 64, none⟩ pv (j + 1) cv u (by kernel_rfl) (by kernel_rfl) hW.slot (frozen_of_row _ g3 64 _ _ hW)) trivial ?_
          exact wpAnyH_done (by kernel_rfl) (Eq.mp (by kernel_rfl) KE) _
    · obtain rfl : j = L.length := by omega
      have hjk' : ¬ ((L.length : Nat) : Int) < L.length := by omega
      have hTL : TJ = l := by rw [HTJ.out]; simp
      have hXL : xs = wcl L := by rw [HXS.out, List.take_length]
      subst hTL
      subst hXL
      obtain ⟨pu, cu, hu, _, wat, off⟩ := own_wat OW.out
      subst hu
      have WA := Lib.hid wat; have OF := Lib.hid off
      clear wat off
      have ER := Lib.hid (err_live B TJ wr RD.out)
      have R0 := Lib.hid (H0.out.whole)
      have CK : Hid (Calls Tryd.prog 12 #[.agg (scs F (.slice pu L.length cu))] wr (RetBool wr true)) := Lib.hid (by have := docCan_is F pu cu L wr WA.out (HT.out wr GR.out); rw [CC.out] at this; exact this)
      clear HXS HTJ
      go_wp2_with fail
      refine ER.out.mono ?_
      rintro e w11 ⟨rfl, rfl⟩
      go_wp2_with (refine wpList_gloadG (by rfl) _ rfl g3 0 rfl _ R0.out _ Tryd.underlying26 rfl (sizeStl _ _) ?_)
      refine CK.out.mono ?_
      rintro e w12 ⟨rfl, hb12⟩
      have E12 := Lib.hid (err_live B TJ w12 (RD.out.on hb12))
      have R12 := Lib.hid (range_below R0.out hb12)
      have K12 : Hid (Sx w12 g2 (fun _ => 0) (.slice none 0 0)) := Lib.hid (KK.out.later hb12)
      have G12 := Lib.hid (grown_on GR.out (hb12.mono GR.out.size))
      have RD12 := Lib.hid (RD.out.on hb12)
      have OW12 := Lib.hid (own_later OW.out hb12)
      clear hb12
      go_wp2_with fail
      refine E12.out.mono ?_
      rintro e w13 ⟨rfl, rfl⟩
      go_wp2_with (first | refine wpList_gload rfl _ rfl g3 0 rfl _ R12.out _ Tryd.underlying26 rfl (sizeStl _ _) ?_ | refine wpList_gstore rfl _ _ rfl g2 rfl (scs F (.slice pu L.length cu)) rfl _ _ K12.out (sizeSt _ _) (by rw [scs_size, scs_size]) (scs_one F rfl) ?_)
      intro w14 h14 g14
      have H14 := Lib.hid h14
      have G14 := Lib.hid (grown_onE G12.out g14 l2)
      have B14 := grown_below g14 G12.out.size l2
      have R14 := Lib.hid (RD12.out.under' HB.out B14)
      have O14 := own_keep OW12.out g14 (.inr fun e => own_not OW12.out K12.out (by decide) e.symm)
      obtain ⟨p9, c9, e9, _, wat9, _⟩ := own_wat O14
      injection e9 with e9 _ _
      subst e9
      have W14 := Lib.hid wat9
      clear h14 g14 B14 O14 wat9
      go_wp2
      exact bodyPost_ret (v := .agg (scs F (.slice pu L.length cu))) (results_cell_row rfl _ w14 g2 _ _ (0, 0) _ rfl H14.out Tryd.underlying26 rfl (sizeSt _ _)) rfl ⟨pu, cu, rfl, W14.out, OF.out, R14.out, G14.out⟩
end Go.Proofs.YtjmglgcifekhgaaDoor
/- docs.Same of equal states. -/
namespace Go.Proofs.YtjmglgcifekhgaaDoor
open Go Go.RowKit
set_option linter.unusedVariables false
set_option maxRecDepth 1000000

set_option maxHeartbeats 8000000 in
theorem equalWr_is (p q : Option Addr) (c d : Nat) (L : List Wr) (w : World) (h : WrsAt w p L) (h2 : WrsAt w q L) (hn : L.length ≤ 10000) :
    Calls Tryd.prog 43 #[.slice p L.length c, .slice q L.length d] w (Yes w) := by
  have HP := Lib.hid h; have HQ := Lib.hid h2
  clear h h2
  go_enter Tryd.func43, Tryd.ntmps43
  go_wp2
  go_loopw [13] (fun i wr => ∃ k : Nat, k ≤ L.length ∧ i = .int .i64 k ∧ Below w.heap.size w wr) (fun i _ => L.length - (RowKit.intOf i).toNat)
  case atStart => exact ⟨0, Nat.zero_le _, rfl, Below.refl _ _⟩
  case round =>
    obtain ⟨k, hk, rfl, hb⟩ := hrel
    have BB := Lib.hid hb
    clear hb
    by_cases hkl : k < L.length
    · have hkl' : (k : Int) < L.length := by omega
      obtain ⟨b, o, rfl, hlt, hq⟩ := (HP.out.below BB.out).at hkl
      obtain ⟨b2, o2, rfl, hlt2, hq2⟩ := (HQ.out.below BB.out).at hkl
      obtain ⟨y, hy⟩ : ∃ y, L[k] = y := ⟨_, rfl⟩
      rw [hy] at hq hq2
      clear hy
      have M := Lib.hid (And.intro (show wr.drew.rangeAt b (o + k * 6) y.cells from hq) (And.intro (show wr.drew.rangeAt b2 (o2 + k * 6) y.cells from hq2) (to_drew BB.out)))
      clear hq hq2
      go_wp2_with fail
      rename_i K2 hK2
      have m0 := M.out
      refine rg_calm (by kernel_rfl) rfl (S := fun U => U.rangeAt b (o + k * 6) y.cells ∧ U.rangeAt b2 (o2 + k * 6) y.cells ∧ Below w.heap.size w U) ?_
      refine rgd_pure 0 (some 16) rfl rfl (.slice (some ⟨b, o, none⟩) L.length c) (by kernel_rfl) (by kernel_rfl) (by kernel_rfl) (fun _ _ _ _ h => h) (by kernel_rfl) (fun w => by kernel_rfl) m0 ?_
      refine rgd_pure 1 (some 17) rfl rfl (.int .i64 (k : Int)) (by kernel_rfl) (by kernel_rfl) (by kernel_rfl) (fun _ _ _ _ h => h) (by kernel_rfl) (fun w => by kernel_rfl) m0 ?_
      refine rgd_pure 2 (some 18) rfl rfl (.pointer (some ⟨b, o + k * 6, none⟩)) (by kernel_rfl) (by kernel_rfl) (by kernel_rfl) (fun _ _ _ _ h => h) (by kernel_rfl) (exec_idxW _ _ rfl b o L.length c k (by kernel_rfl) (by kernel_rfl) hkl) m0 ?_
      refine rgd_pureS 3 (some 19) rfl rfl (.agg y.cells.toArray) (by kernel_rfl) (by kernel_rfl) (by kernel_rfl) (fun _ _ _ _ h => h) (by kernel_rfl) (fun U hU => exec_gload 50 _ rfl b (o + k * 6) (by kernel_rfl) _ hU.1 Tryd.underlying50 rfl (sizeWr y)) m0 ?_
      refine rgd_pure 4 (some 20) rfl rfl (.slice (some ⟨b2, o2, none⟩) L.length d) (by kernel_rfl) (by kernel_rfl) (by kernel_rfl) (fun _ _ _ _ h => h) (by kernel_rfl) (fun w => by kernel_rfl) m0 ?_
      refine rgd_pure 5 (some 21) rfl rfl (.int .i64 (k : Int)) (by kernel_rfl) (by kernel_rfl) (by kernel_rfl) (fun _ _ _ _ h => h) (by kernel_rfl) (fun w => by kernel_rfl) m0 ?_
      refine rgd_pure 6 (some 22) rfl rfl (.pointer (some ⟨b2, o2 + k * 6, none⟩)) (by kernel_rfl) (by kernel_rfl) (by kernel_rfl) (fun _ _ _ _ h => h) (by kernel_rfl) (exec_idxW _ _ rfl b2 o2 L.length d k (by kernel_rfl) (by kernel_rfl) hkl) m0 ?_
      refine rgd_pureS 7 (some 23) rfl rfl (.agg y.cells.toArray) (by kernel_rfl) (by kernel_rfl) (by kernel_rfl) (fun _ _ _ _ h => h) (by kernel_rfl) (fun U hU => exec_gload 50 _ rfl b2 (o2 + k * 6) (by kernel_rfl) _ hU.2.1 Tryd.underlying50 rfl (sizeWr y)) m0 ?_
      refine rgd_pure 8 (some 24) rfl rfl (.bool false) (by kernel_rfl) (by kernel_rfl) (by kernel_rfl) (fun _ _ _ _ h => h) (by kernel_rfl) (exec_neqW _ _ _ rfl y (by kernel_rfl) (by kernel_rfl)) m0 ?_
      have KE : K2 { tmps := #[.slice (some ⟨b, o, none⟩) L.length c, .slice (some ⟨b2, o2, none⟩) L.length d, undef, undef, u4, .int .i64 (k : Int), .slice (some ⟨b, o, none⟩) L.length c, .int .i64 (L.length : Int), .slice (some ⟨b2, o2, none⟩) L.length d, .int .i64 (L.length : Int), .bool false, .slice (some ⟨b, o, none⟩) L.length c, .int .i64 (L.length : Int), .int .i64 (k : Int), .bool true, .int .i64 (k : Int), .slice (some ⟨b, o, none⟩) L.length c, .int .i64 (k : Int), .pointer (some ⟨b, o + k * 6, none⟩), .agg y.cells.toArray, .slice (some ⟨b2, o2, none⟩) L.length d, .int .i64 (k : Int), .pointer (some ⟨b2, o2 + k * 6, none⟩), .agg y.cells.toArray, .bool false, u25], defers := [] } wr.drew := by
        refine hK2 _ _ ?_
        have B7 := Lib.hid m0.2.2
        clear hK2 m0
        go_wp2
        go_roundw
        case rel => exact ⟨k + 1, by omega, by go_num, B7.out⟩
        case measure => simp [RowKit.intOf]; omega
      exact wpAnyH_done (by kernel_rfl) (Eq.mp (by kernel_rfl) KE) _
    · obtain rfl : k = L.length := by omega
      have hkl' : ¬ ((L.length : Nat) : Int) < L.length := by omega
      go_wp2
      go_ret
      exact ⟨rfl, BB.out⟩
set_option maxHeartbeats 8000000 in
theorem docSame_is (F G : Nat → Int) (hFG : veq F G = true) (p q : Option Addr) (c d : Nat) (L : List Wr) (w : World) (h : WrsAt w p L) (h2 : WrsAt w q L) (hn : L.length ≤ 10000) :
    Calls Tryd.prog 15 #[.agg (scs F (.slice p L.length c)), .agg (scs G (.slice q L.length d))] w (Yes w) := by
  have HP := Lib.hid h; have HQ := Lib.hid h2
  clear h h2
  go_enter Tryd.func15, Tryd.ntmps15
  go_wp2_with (refine wpList_gbox rfl _ rfl (scs F (.slice p L.length c)) rfl ?_)
  intro g2 w1 l2 h2 hb1
  have S1 : Hid (Sx w1 g2 F (.slice p L.length c)) := Lib.hid h2
  have B1 := Lib.hid hb1
  clear h2 hb1
  go_wp2_with (refine wpList_gbox rfl _ rfl (scs G (.slice q L.length d)) rfl ?_)
  intro g3 w2 l3 h3 hb2
  have S2 := Lib.hid (S1.out.later hb2); have T2 : Hid (Sx w2 g3 G (.slice q L.length d)) := Lib.hid h3
  have B2 := Lib.hid (thenBelow B1.out hb2)
  clear h3 hb2 S1
  have k2 := S2.out.slot; have k3 := T2.out.slot
  have V2 := Lib.hid (S2.out.vec); have V3 := Lib.hid (T2.out.vec)
  have EQ : Hid (∀ V : World, (binOp .eql 23 (.agg (vf F)) (.agg (vf G))).run Tryd.prog V = .ok (.bool true) V) := Lib.hid fun V => by rw [vecI.eql F G V, hFG]
  have EW := Lib.hid (equalWr_is p q c d L w2 (HP.out.below B2.out) (HQ.out.below B2.out) hn)
  have EQ' := EQ.out
  go_wp2_with (first | refine wpList_gload rfl _ rfl g2 0 rfl _ V2.out _ Tryd.underlying23 rfl (sizeVcl F) ?_ | refine wpList_gload rfl _ rfl g3 0 rfl _ V3.out _ Tryd.underlying23 rfl (sizeVcl G) ?_)
  refine EW.out.mono ?_
  rintro e w3 ⟨rfl, hb3⟩
  have B3 := Lib.hid (thenBelow B2.out hb3)
  clear hb3 k2 k3 EQ'
  go_wp2
  go_ret
  exact ⟨rfl, B3.out⟩
end Go.Proofs.YtjmglgcifekhgaaDoor
