/- SortedNobody: the walk. -/
import Derived.Test.YtlajceamjodcjaaSrtTake
import Derived.Test.YtlajceamjodcjaaSrtAwake
namespace Go.Proofs.Ytlajceamjodcjaa
open Go Go.RowKit Hp
set_option linter.unusedVariables false

set_option maxHeartbeats 4000000
set_option maxRecDepth 100000
theorem sortedNobody_walk (x k : Int) (w : World) (_ : (Lit.int .i64 x).wf = true) (_ : (Lit.int .i64 k).wf = true) : Calls Try.prog 8 #[.int .i64 x, .int .i64 k] w fun e w' => e = .returned (.bool true) ∧ Below w.heap.size w w' := by
  have SK := Lib.hid (seek_nil x w); have GT := Lib.hid (get_nil x w)
  go_enter Try.func8, Try.ntmps8
  go_wp2_with fail
  refine SK.out.mono ?_
  rintro e w1 ⟨rfl, rfl⟩
  go_wp2_with fail
  refine GT.out.mono ?_
  rintro e w1 ⟨rfl, rfl⟩
  go_wp2_with fail
  refine (put_nil x k w1).mono ?_
  rintro e w1 ⟨rfl, rfl⟩
  go_wp2_with fail
  refine (cut_nil x w1).mono ?_
  rintro e w1 ⟨rfl, rfl⟩
  go_wp2_with fail
  refine (tlen_nil w1).mono ?_
  rintro e w1 ⟨rfl, rfl⟩
  go_wp2_with fail
  refine (tkeys_nil w1).mono ?_
  rintro e w1 ⟨rfl, rfl⟩
  go_wp2_with fail
  refine (newHeap_nil _).mono ?_
  rintro e w2 ⟨rfl, rfl⟩
  have g1 := heap_alloc_new w1 (.cells #[.nilFunc, .slice none 0 0, .int .i64 0] 74)
  have hb0 : Below w1.heap.size w1 (w1.alloc (.cells #[.nilFunc, .slice none 0 0, .int .i64 0] 74)) := (Below.refl _ w1).alloc (Nat.le_refl _) _
  generalize hA : w1.alloc (.cells #[.nilFunc, .slice none 0 0, .int .i64 0] 74) = wA at g1 hb0 ⊢
  clear hA
  have g2 := heap_alloc_new wA (.cells #[.nilFunc, .slice none 0 0, .int .i64 0] 74)
  have hb1 : Below wA.heap.size wA (wA.alloc (.cells #[.nilFunc, .slice none 0 0, .int .i64 0] 74)) := (Below.refl _ wA).alloc (Nat.le_refl _) _
  generalize hB : wA.alloc (.cells #[.nilFunc, .slice none 0 0, .int .i64 0] 74) = wB at g2 hb1 ⊢
  clear hB
  have g1B := (hb1.block w1.heap.size (Array.getElem?_eq_some_iff.1 g1).1).trans g1
  have HB := Lib.hid (thenBelow hb0 hb1); have G1 := Lib.hid g1B; have G2 := Lib.hid g2
  clear g1 g1B g2 hb0 hb1
  go_wp2_with fail
  have g3 := heap_alloc_new wB (.cells #[.pointer none, .pointer (some ⟨w1.heap.size, 0, none⟩), .pointer (some ⟨wA.heap.size, 0, none⟩)] 53)
  have hb3 : Below wB.heap.size wB (wB.alloc (.cells #[.pointer none, .pointer (some ⟨w1.heap.size, 0, none⟩), .pointer (some ⟨wA.heap.size, 0, none⟩)] 53)) := (Below.refl _ wB).alloc (Nat.le_refl _) _
  generalize hC : wB.alloc (.cells #[.pointer none, .pointer (some ⟨w1.heap.size, 0, none⟩), .pointer (some ⟨wA.heap.size, 0, none⟩)] 53) = wC at g3 hb3 ⊢
  clear hC
  have n0 : HNil wC (.pointer none) := .inl rfl
  have n1 : HNil wC (.pointer (some ⟨w1.heap.size, 0, none⟩)) := .inr ⟨_, rfl, (hb3.block _ (Array.getElem?_eq_some_iff.1 G1.out).1).trans G1.out⟩
  have n2 : HNil wC (.pointer (some ⟨wA.heap.size, 0, none⟩)) := .inr ⟨_, rfl, (hb3.block _ (Array.getElem?_eq_some_iff.1 G2.out).1).trans G2.out⟩
  have HC := Lib.hid (thenBelow HB.out hb3)
  have RL := Lib.hid (show ∀ j, j < 3 → ∃ v, wC.cell? ⟨wB.heap.size, j, none⟩ = some v ∧ HNil wC v from fun j hj => by
    match j, hj with
    | 0, _ => exact ⟨_, (cell_of_row wC _ 0 _ _ _ g3).trans rfl, n0⟩
    | 1, _ => exact ⟨_, (cell_of_row wC _ 1 _ _ _ g3).trans rfl, n1⟩
    | 2, _ => exact ⟨_, (cell_of_row wC _ 2 _ _ _ g3).trans rfl, n2⟩)
  clear g3 hb3 n0 n1 n2 HB G1 G2 SK GT
  go_loopw [65] (fun i wr => ∃ j : Nat, j ≤ 3 ∧ i = .int .i64 j ∧ wr = wC) (fun i _ => 3 - (intOf i).toNat)
  case atStart => exact ⟨0, by omega, rfl, rfl⟩
  case round =>
    obtain ⟨j, hj, rfl, rfl⟩ := hrel
    by_cases hlt : j < 3
    · obtain ⟨v, hv, hn⟩ := RL.out j hlt
      have hlt' : (j : Int) < 3 := by omega
      have HN := Lib.hid hn
      clear hn
      go_wp2_with fail
      refine (push_nil v x wr HN.out).mono ?_
      rintro e wr ⟨rfl, rfl⟩
      go_wp2_with fail
      refine (pop_nil v wr HN.out).mono ?_
      rintro e wr ⟨rfl, rfl⟩
      go_wp2_with fail
      refine (hlen_nil v wr HN.out).mono ?_
      rintro e wr ⟨rfl, rfl⟩
      go_wp2_with fail
      go_roundw
      case rel => exact ⟨j + 1, by omega, by go_num, trivial⟩
      case measure => simp [intOf]; omega
    · obtain rfl : j = 3 := by omega
      have BC := HC
      clear hj hlt HC RL
      go_wp2_with fail
      have g1 := heap_alloc_new wr (.cells #[.int .i64 0, .nilFunc, .slice none 0 0, .int .i64 0] 77)
      have hb0 : Below wr.heap.size wr (wr.alloc (.cells #[.int .i64 0, .nilFunc, .slice none 0 0, .int .i64 0] 77)) := (Below.refl _ wr).alloc (Nat.le_refl _) _
      generalize hA : wr.alloc (.cells #[.int .i64 0, .nilFunc, .slice none 0 0, .int .i64 0] 77) = wD at g1 hb0 ⊢
      clear hA
      have g2 := heap_alloc_new wD (.cells #[.int .i64 0, .nilFunc, .slice none 0 0, .int .i64 0] 77)
      have hb1 : Below wD.heap.size wD (wD.alloc (.cells #[.int .i64 0, .nilFunc, .slice none 0 0, .int .i64 0] 77)) := (Below.refl _ wD).alloc (Nat.le_refl _) _
      refine (newBest_nil k wD).mono ?_
      rintro e wE ⟨rfl, rfl⟩
      generalize hB : wD.alloc (.cells #[.int .i64 0, .nilFunc, .slice none 0 0, .int .i64 0] 77) = wE at g2 hb1 ⊢
      clear hB
      have g1B := (hb1.block wr.heap.size (Array.getElem?_eq_some_iff.1 g1).1).trans g1
      have HB := Lib.hid (thenBelow BC.out (thenBelow hb0 hb1)); have G1 := Lib.hid g1B; have G2 := Lib.hid g2
      clear g1 g1B g2 hb0 hb1 BC
      go_wp2_with fail
      have g3 := heap_alloc_new wE (.cells #[.pointer none, .pointer (some ⟨wr.heap.size, 0, none⟩), .pointer (some ⟨wD.heap.size, 0, none⟩)] 62)
      have hb3 : Below wE.heap.size wE (wE.alloc (.cells #[.pointer none, .pointer (some ⟨wr.heap.size, 0, none⟩), .pointer (some ⟨wD.heap.size, 0, none⟩)] 62)) := (Below.refl _ wE).alloc (Nat.le_refl _) _
      generalize hC : wE.alloc (.cells #[.pointer none, .pointer (some ⟨wr.heap.size, 0, none⟩), .pointer (some ⟨wD.heap.size, 0, none⟩)] 62) = wF at g3 hb3 ⊢
      clear hC
      have n0 : BNil wF (.pointer none) := .inl rfl
      have n1 : BNil wF (.pointer (some ⟨wr.heap.size, 0, none⟩)) := .inr ⟨_, rfl, (hb3.block _ (Array.getElem?_eq_some_iff.1 G1.out).1).trans G1.out⟩
      have n2 : BNil wF (.pointer (some ⟨wD.heap.size, 0, none⟩)) := .inr ⟨_, rfl, (hb3.block _ (Array.getElem?_eq_some_iff.1 G2.out).1).trans G2.out⟩
      have HC := Lib.hid (thenBelow HB.out hb3)
      have RL := Lib.hid (show ∀ j, j < 3 → ∃ v, wF.cell? ⟨wE.heap.size, j, none⟩ = some v ∧ BNil wF v from fun j hj => by
        match j, hj with
        | 0, _ => exact ⟨_, (cell_of_row wF _ 0 _ _ _ g3).trans rfl, n0⟩
        | 1, _ => exact ⟨_, (cell_of_row wF _ 1 _ _ _ g3).trans rfl, n1⟩
        | 2, _ => exact ⟨_, (cell_of_row wF _ 2 _ _ _ g3).trans rfl, n2⟩)
      have hEF : wE.heap.size < wF.heap.size := (Array.getElem?_eq_some_iff.1 g3).1
      clear g3 hb3 n0 n1 n2 HB G1 G2
      go_loopw [94] (fun i wq => ∃ j : Nat, j ≤ 3 ∧ i = .int .i64 j ∧ Below wF.heap.size wF wq) (fun i _ => 3 - (intOf i).toNat)
      case atStart => exact ⟨0, by omega, rfl, Below.refl _ _⟩
      case round =>
        obtain ⟨j, hj, rfl, hbw⟩ := hrel
        by_cases hlt : j < 3
        · obtain ⟨v, hv0, hn0⟩ := RL.out j hlt
          have hlt' : (j : Int) < 3 := by omega
          have hv : wr.cell? ⟨wE.heap.size, j, none⟩ = some v := (hbw.cell (p := ⟨wE.heap.size, j, none⟩) hEF).trans hv0
          have HN := Lib.hid (show BNil wr v from hn0.imp id fun ⟨H, h1, h2⟩ => ⟨H, h1, (hbw.block H (Array.getElem?_eq_some_iff.1 h2).1).trans h2⟩)
          have BW := Lib.hid hbw
          clear hn0 hv0 hbw hEF
          go_wp2_with fail
          refine (offer_nil v x wr HN.out).mono ?_
          rintro e wr ⟨rfl, rfl⟩
          go_wp2_with fail
          refine (take_nil v wr HN.out).mono ?_
          rintro e wG ⟨⟨p, c, rfl⟩, hbG⟩
          have BG := Lib.hid (thenBelow BW.out hbG)
          clear hbG BW HN hv
          go_wp2_with fail
          go_roundw
          case rel => exact ⟨j + 1, by omega, by go_num, BG.out⟩
          case measure => simp [intOf]; omega
        · obtain rfl : j = 3 := by omega
          have BW := Lib.hid hbw
          clear hbw hEF RL
          go_wp2_with fail
          have hb5 : Below wr.heap.size wr ((wr.alloc (.cells #[.int .i64 x] 3)).alloc (.cells #[.slice (some ⟨wr.heap.size, 0, none⟩) 1 1] 24)) := ((Below.refl _ wr).alloc (Nat.le_refl _) _).alloc (by simp) _
          generalize hA : (wr.alloc (.cells #[.int .i64 x] 3)).alloc (.cells #[.slice (some ⟨wr.heap.size, 0, none⟩) 1 1] 24) = wH at hb5 ⊢
          clear hA
          refine (merge_nil _ _ _ wH).mono ?_
          rintro e wI ⟨rfl, hbI⟩
          have BI := Lib.hid (thenBelow (thenBelow (thenBelow HC.out BW.out) hb5) hbI)
          clear hb5 hbI HC BW
          go_wp2_with fail
          refine (awake6 wI).mono ?_
          rintro e wJ ⟨rfl, hbJ⟩
          have BJ := Lib.hid (thenBelow BI.out hbJ)
          clear hbJ BI
          go_wp2_with fail
          go_ret
          exact ⟨ret_bool rfl, BJ.out⟩
end Go.Proofs.Ytlajceamjodcjaa
