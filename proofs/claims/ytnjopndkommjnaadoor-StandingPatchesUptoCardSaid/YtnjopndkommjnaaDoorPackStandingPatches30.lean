/- The statement StandingPatches, proved for every input that its row reads: part 30 of 54. -/
import Derived.Test.YtnjopndkommjnaaDoorCellsG
import Derived.Test.YtnjopndkommjnaaDoorPackStandingPatches10
/- The document's find: the first hit of a name. -/
namespace Go.Proofs.YtnjopndkommjnaaDoor
open Go Go.RowKit
set_option linter.unusedVariables false
set_option maxRecDepth 1000000

theorem zeroHt (w : World) : (zeroValue 28).run Tryd.prog w = .ok (.agg #[.string ByteArray.empty, .int .i64 0]) w := by kernel_rfl
/-- the first hit of a name -/
def FindR (w : World) (sc : List Int) (e : Ending) (w' : World) : Prop := ∃ (xi : ByteArray) (xs : Int), e = .returned (.tuple #[.agg #[.string xi, .int .i64 xs], .bool (!sc.isEmpty)]) ∧ (∀ s t, sc = s :: t → xs = s) ∧ Below w.heap.size w w'
theorem scores_found {L : List Ht} {j : Nat} (h : j < L.length) {id : ByteArray} (h0 : scoresOf (L.take j) id = []) (he : L[j].id = id) : scoresOf L id = L[j].score :: scoresOf (L.drop (j + 1)) id := by
  have e1 : L = L.take j ++ L[j] :: L.drop (j + 1) := by rw [← List.drop_eq_getElem_cons h, List.take_append_drop]
  rw [show scoresOf L id = scoresOf (L.take j ++ L[j] :: L.drop (j + 1)) id from congrArg (scoresOf · id) e1, scoresOf_app, h0, List.nil_append]
  simp only [scoresOf]
  rw [if_pos he]
theorem scores_next {L : List Ht} {j : Nat} (h : j < L.length) {id : ByteArray} (h0 : scoresOf (L.take j) id = []) (he : L[j].id ≠ id) : scoresOf (L.take (j + 1)) id = [] := by
  rw [List.take_succ_eq_append_getElem h, scoresOf_app, h0]
  simp only [scoresOf]
  rw [if_neg he]; rfl
set_option maxHeartbeats 4000000 in
theorem refFind_is (p : Option Addr) (c : Nat) (L : List Ht) (id : ByteArray) (w : World) (h : HtsAt w p L) (hn : L.length ≤ 10000) :
    Calls Tryd.prog 24 #[.slice p L.length c, .string id] w (FindR w (scoresOf L id)) := by
  have HM := Lib.hid h
  clear h
  go_enter Tryd.func24, Tryd.ntmps24
  go_wp2_with (refine wpList_galloc _ zeroHt rfl rfl ?_)
  intro g4 w1 l4 h4 hb1
  have Z1 : Hid (w1.heap[g4]? = some (.cells #[.string ByteArray.empty, .int .i64 0] 28 (0, 0))) := Lib.hid h4
  have B1 := Lib.hid hb1
  have M1 := Lib.hid (HM.out.below hb1)
  clear h4 hb1 HM
  go_wp2_with fail
  go_loopw [10] (fun i wr => ∃ j : Nat, j ≤ L.length ∧ i = .int .i64 j ∧ Hid (scoresOf (L.take j) id = []) ∧ Hid (Below w1.heap.size w1 wr)) (fun i _ => L.length - (intOf i).toNat)
  case atStart => exact ⟨0, Nat.zero_le _, rfl, Lib.hid rfl, Lib.hid (Below.refl _ _)⟩
  case round =>
    obtain ⟨j, hj, rfl, HA, BB⟩ := hrel
    by_cases hjl : j < L.length
    · have hjl' : (j : Int) < L.length := by omega
      obtain ⟨b, o, rfl, hlt, hr⟩ := (M1.out.below BB.out).at hjl
      obtain ⟨k0, k1⟩ := ht_cells hr
      have NX := Lib.hid (fun he => scores_next hjl HA.out he)
      have FD := Lib.hid (fun he => scores_found hjl HA.out he)
      clear hr hlt
      obtain ⟨y, hy⟩ : ∃ y, L[j] = y := ⟨_, rfl⟩
      rw [hy] at k0 k1 NX FD
      clear hy
      obtain ⟨yi, ys⟩ := y
      simp only at k0 k1 NX FD
      have b7 := below_alloc wr (.cells #[.string yi, .int .i64 ys] 28)
      have B7 := Lib.hid (thenBelow BB.out b7)
      have R7 : Hid ((wr.alloc (.cells #[.string yi, .int .i64 ys] 28)).rangeAt wr.heap.size 0 [.string yi, .int .i64 ys]) := Lib.hid (range_of_block (heap_alloc_new wr (.cells #[.string yi, .int .i64 ys] 28)))
      have Z7 := Lib.hid ((B7.out.block g4 (Array.getElem?_eq_some_iff.1 Z1.out).1).trans Z1.out)
      clear b7
      by_cases he : yi = id
      · subst he
        have SC := Lib.hid (FD.out rfl)
        clear NX FD
        go_wp2_with (first | refine wpList_gload rfl _ rfl wr.heap.size 0 rfl _ R7.out _ Tryd.underlying28 rfl (sizeHt ⟨yi, ys⟩) ?_ | refine wpList_gstore rfl _ _ rfl g4 rfl #[.string yi, .int .i64 ys] rfl _ _ Z7.out (sizeHt ⟨yi, ys⟩) rfl (Ht.cells_one ⟨yi, ys⟩) ?_)
        intro w9 h9 g9
        have B9 := Lib.hid ((thenBelow B1.out B7.out).grown g9 (thenBelow B1.out B7.out).size (fun k hk => by cases hk; exact l4))
        have H9 := Lib.hid h9
        clear h9 g9 Z7 R7
        go_wp2
        refine bodyPost_ret (v := .tuple #[.agg #[.string yi, .int .i64 ys], .bool true]) (results_cell_two (p := 4) (q := 5) rfl _ w9 g4 _ _ (0, 0) _ rfl H9.out Tryd.underlying28 rfl (sizeHt ⟨yi, ys⟩) (.bool true) rfl) rfl ?_
        rw [SC.out]
        exact ⟨yi, ys, rfl, fun s t e => by injection e, B9.out⟩
      · have hne : (yi.toList == id.toList) = false := by
          rw [beq_eq_false_iff_ne]
          exact fun e => he (toList_eq e)
        have NA := Lib.hid (NX.out he)
        clear NX FD Z7 R7
        go_wp2
        go_roundw
        case rel => exact ⟨j + 1, by omega, by go_num, NA, B7⟩
        case measure => simp [intOf]; omega
    · obtain rfl : j = L.length := by omega
      have hjl' : ¬ ((L.length : Nat) : Int) < L.length := by omega
      rw [List.take_length] at HA
      have Z7 := Lib.hid ((BB.out.block g4 (Array.getElem?_eq_some_iff.1 Z1.out).1).trans Z1.out)
      go_wp2_with (refine wpList_gstore rfl _ _ rfl g4 rfl #[.string ByteArray.empty, .int .i64 0] rfl _ _ Z7.out (sizeHt ⟨ByteArray.empty, 0⟩) rfl (Ht.cells_one ⟨ByteArray.empty, 0⟩) ?_)
      intro w9 h9 g9
      have B9 := Lib.hid ((thenBelow B1.out BB.out).grown g9 (thenBelow B1.out BB.out).size (fun k hk => by cases hk; exact l4))
      have H9 := Lib.hid h9
      clear h9 g9 Z7
      go_wp2
      refine bodyPost_ret (v := .tuple #[.agg #[.string ByteArray.empty, .int .i64 0], .bool false]) (results_cell_two (p := 4) (q := 5) rfl _ w9 g4 _ _ (0, 0) _ rfl H9.out Tryd.underlying28 rfl (sizeHt ⟨ByteArray.empty, 0⟩) (.bool false) rfl) rfl ?_
      rw [HA.out]
      exact ⟨_, _, rfl, fun s t e => (by cases e), B9.out⟩
end Go.Proofs.YtnjopndkommjnaaDoor
