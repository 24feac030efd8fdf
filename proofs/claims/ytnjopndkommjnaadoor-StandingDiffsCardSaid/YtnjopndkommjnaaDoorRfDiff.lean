/- The document's Diff. -/
import Derived.Test.YtnjopndkommjnaaDoorRfFind
import Derived.Test.YtnjopndkommjnaaDoorRfPut34
namespace Go.Proofs.YtnjopndkommjnaaDoor
open Go Go.RowKit
set_option linter.unusedVariables false
set_option maxRecDepth 1000000

theorem putC_len (l : List Chg) (c : Chg) : (putC l c).length = l.length + 1 := by
  unfold putC
  rw [List.length_append, List.length_cons, List.length_take, List.length_drop]; omega
def cameStep (sc : List Int) (acc : List Chg) (h : Ht) : List Chg := match sc with
  | [] => putC acc ⟨1, h⟩
  | s :: _ => if s = h.score then acc else putC acc ⟨3, h⟩
theorem refCame_eq (old : List Ht) (acc : List Chg) (h : Ht) : refCame old acc h = cameStep (scoresOf old h.id) acc h := rfl
set_option maxHeartbeats 4000000 in
theorem refDiff34_is (p q : Option Addr) (c d : Nat) (old now : List Ht) (w : World) (h : HtsAt w p old) (hn : old.length ≤ 1000) (h2 : HtsAt w q now) (hn2 : now.length ≤ 1000) :
    Calls Tryd.prog 11 #[.slice p old.length c, .slice q now.length d] w (RetPut w (diffL old now)) := by
  have HO := Lib.hid h; have HN := Lib.hid h2
  clear h h2
  go_enter Tryd.func11, Tryd.ntmps11
  go_wp2_with fail
  go_loopw [5, 16] (fun v i wr => ∃ (j : Nat) (D : List Chg), j ≤ old.length ∧ i = .int .i64 j ∧ Hid (D = (old.take j).foldl (refWent now) []) ∧ D.length ≤ j ∧ Hid (wr.ownsRow w.heap.size 30 3 v D.length (ccl D)) ∧ Hid (Below w.heap.size w wr)) (fun _ i _ => old.length - (intOf i).toNat)
  case atStart => exact ⟨0, [], Nat.zero_le _, rfl, Lib.hid rfl, Nat.le_refl _, Lib.hid ⟨rfl, .inl ⟨rfl, rfl⟩⟩, Lib.hid (Below.refl _ _)⟩
  case round =>
    obtain ⟨j, D, hj, rfl, HD, hDj, OD, BB⟩ := hrel
    obtain ⟨p4, c4, rfl⟩ := own_slice OD.out
    by_cases hjl : j < old.length
    · have hjl' : (j : Int) < old.length := by omega
      obtain ⟨b, o, rfl, hlt, hr⟩ := (HO.out.below BB.out).at hjl
      obtain ⟨k0, k1⟩ := ht_cells hr
      have TK : Hid (old.take (j + 1) = old.take j ++ [old[j]]) := Lib.hid (List.take_succ_eq_append_getElem hjl)
      clear hr hlt
      obtain ⟨y, hy⟩ : ∃ y, old[j] = y := ⟨_, rfl⟩
      rw [hy] at k0 k1 TK
      clear hy
      obtain ⟨yi, ys⟩ := y
      simp only at k0 k1
      have b7 := below_alloc wr (.cells #[.string yi, .int .i64 ys] 28)
      have B7 := Lib.hid (thenBelow BB.out b7)
      have O7 := Lib.hid (own_later OD.out b7)
      have R7 : Hid ((wr.alloc (.cells #[.string yi, .int .i64 ys] 28)).rangeAt wr.heap.size 0 [.string yi, .int .i64 ys]) := Lib.hid (range_of_block (heap_alloc_new wr (.cells #[.string yi, .int .i64 ys] 28)))
      have KD : Hid (refWent now D ⟨yi, ys⟩ = (old.take (j + 1)).foldl (refWent now) []) := Lib.hid (by rw [TK.out, List.foldl_append, ← HD.out]; rfl)
      have FI := Lib.hid (fun (V : World) (hV : Below w.heap.size w V) => refFind_is q d now yi V (HN.out.below hV) (by omega))
      clear b7 TK HD
      go_wp2_with fail
      refine (FI.out _ B7.out).mono ?_
      rintro e w8 ⟨xi, xs, rfl, hxs, b8⟩
      have B8 := Lib.hid (thenBelow B7.out b8); have O8 := Lib.hid (own_later O7.out b8); have R8 := Lib.hid (range_below R7.out b8)
      clear b8 FI hxs R7 O7 B7
      obtain ⟨sc, hsc⟩ : ∃ sc, scoresOf now yi = sc := ⟨_, rfl⟩
      have e1 : refWent now D ⟨yi, ys⟩ = if sc = [] then putC D ⟨2, ⟨yi, ys⟩⟩ else D := by unfold refWent; simp only [hsc]
      rw [e1] at KD
      rw [hsc]
      clear e1 hsc
      cases sc with
      | nil =>
        rw [if_pos rfl] at KD
        have b9 := below_alloc w8 (.cells #[.string xi, .int .i64 xs] 28)
        have B9 := Lib.hid (thenBelow B8.out b9); have O9 := Lib.hid (own_later O8.out b9); have R9 := Lib.hid (range_below R8.out b9)
        have PC := Lib.hid (refPutC_is w.heap.size p4 c4 D ⟨2, ⟨yi, ys⟩⟩ _ O9.out (by omega))
        clear b9 R8
        dsimp only
        go_wp2_with (refine wpList_gload rfl _ rfl wr.heap.size 0 rfl _ R9.out _ Tryd.underlying28 rfl (sizeHt ⟨yi, ys⟩) ?_)
        refine PC.out.mono ?_
        rintro e w10 ⟨v10, rfl, o10, b10⟩
        have B10 := Lib.hid (thenBelow B9.out b10)
        have O10 := Lib.hid (own_base o10 B9.out.size)
        have PL := putC_len D ⟨2, ⟨yi, ys⟩⟩
        clear PC o10 b10 R9
        go_wp2
        go_roundw
        case rel => exact ⟨j + 1, _, by omega, by go_num, KD, by omega, O10, B10⟩
        case measure => simp [intOf]; omega
      | cons s t =>
        rw [if_neg (by simp)] at KD
        have b9 := below_alloc w8 (.cells #[.string xi, .int .i64 xs] 28)
        have B9 := Lib.hid (thenBelow B8.out b9); have O9 := Lib.hid (own_later O8.out b9)
        clear b9 R8
        dsimp only
        go_wp2
        go_roundw
        case rel => exact ⟨j + 1, D, by omega, by go_num, KD, by omega, O9, B9⟩
        case measure => simp [intOf]; omega
    · obtain rfl : j = old.length := by omega
      have hjl' : ¬ ((old.length : Nat) : Int) < old.length := by omega
      rw [List.take_length] at HD
      go_wp2_with fail
      go_loopw [5, 36] (fun v i wr => ∃ (j : Nat) (D : List Chg), j ≤ now.length ∧ i = .int .i64 j ∧ Hid (D = (now.take j).foldl (refCame old) (old.foldl (refWent now) [])) ∧ D.length ≤ old.length + j ∧ Hid (wr.ownsRow w.heap.size 30 3 v D.length (ccl D)) ∧ Hid (Below w.heap.size w wr)) (fun _ i _ => now.length - (intOf i).toNat)
      case atStart => exact ⟨0, D, Nat.zero_le _, rfl, Lib.hid (by rw [HD.out]; rfl), hDj, OD, BB⟩
      case round =>
        clear HD hDj OD BB
        obtain ⟨j, D, hj, rfl, HD, hDj, OD, BB⟩ := hrel
        obtain ⟨p4, c4, rfl⟩ := own_slice OD.out
        by_cases hjl : j < now.length
        · have hjl' : (j : Int) < now.length := by omega
          obtain ⟨b, o, rfl, hlt, hr⟩ := (HN.out.below BB.out).at hjl
          obtain ⟨k0, k1⟩ := ht_cells hr
          have TK : Hid (now.take (j + 1) = now.take j ++ [now[j]]) := Lib.hid (List.take_succ_eq_append_getElem hjl)
          clear hr hlt
          obtain ⟨y, hy⟩ : ∃ y, now[j] = y := ⟨_, rfl⟩
          rw [hy] at k0 k1 TK
          clear hy
          obtain ⟨yi, ys⟩ := y
          simp only at k0 k1
          have b7 := below_alloc wr (.cells #[.string yi, .int .i64 ys] 28)
          have B7 := Lib.hid (thenBelow BB.out b7)
          have O7 := Lib.hid (own_later OD.out b7)
          have R7 : Hid ((wr.alloc (.cells #[.string yi, .int .i64 ys] 28)).rangeAt wr.heap.size 0 [.string yi, .int .i64 ys]) := Lib.hid (range_of_block (heap_alloc_new wr (.cells #[.string yi, .int .i64 ys] 28)))
          have KD : Hid (refCame old D ⟨yi, ys⟩ = (now.take (j + 1)).foldl (refCame old) (old.foldl (refWent now) [])) := Lib.hid (by rw [TK.out, List.foldl_append, ← HD.out]; rfl)
          have FI := Lib.hid (fun (V : World) (hV : Below w.heap.size w V) => refFind_is p c old yi V (HO.out.below hV) (by omega))
          clear b7 TK HD
          go_wp2_with fail
          refine (FI.out _ B7.out).mono ?_
          rintro e w8 ⟨xi, xs, rfl, hxs, b8⟩
          have B8 := Lib.hid (thenBelow B7.out b8); have O8 := Lib.hid (own_later O7.out b8); have R8 := Lib.hid (range_below R7.out b8)
          clear b8 FI R7 O7 B7
          obtain ⟨sc, hsc⟩ : ∃ sc, scoresOf old yi = sc := ⟨_, rfl⟩
          have e1 : refCame old D ⟨yi, ys⟩ = cameStep sc D ⟨yi, ys⟩ := by rw [refCame_eq, hsc]
          rw [e1] at KD
          rw [hsc] at hxs ⊢
          clear e1 hsc
          have b9 := below_alloc w8 (.cells #[.string xi, .int .i64 xs] 28)
          have B9 := Lib.hid (thenBelow B8.out b9); have O9 := Lib.hid (own_later O8.out b9); have R9 := Lib.hid (range_below R8.out b9)
          cases sc with
          | nil =>
            dsimp only [cameStep] at KD
            have PC := Lib.hid (refPutC_is w.heap.size p4 c4 D ⟨1, ⟨yi, ys⟩⟩ _ O9.out (by omega))
            clear b9 R8 hxs
            dsimp only
            go_wp2_with (refine wpList_gload rfl _ rfl wr.heap.size 0 rfl _ R9.out _ Tryd.underlying28 rfl (sizeHt ⟨yi, ys⟩) ?_)
            refine PC.out.mono ?_
            rintro e w10 ⟨v10, rfl, o10, b10⟩
            have B10 := Lib.hid (thenBelow B9.out b10)
            have O10 := Lib.hid (own_base o10 B9.out.size)
            have PL := putC_len D ⟨1, ⟨yi, ys⟩⟩
            clear PC o10 b10 R9
            go_wp2
            go_roundw
            case rel => exact ⟨j + 1, _, by omega, by go_num, KD, by omega, O10, B10⟩
            case measure => simp [intOf]; omega
          | cons s t =>
            dsimp only [cameStep] at KD
            obtain rfl := hxs s t rfl
            have m1 := R9.out 1 _ rfl
            have n1 := cell_of_row _ w8.heap.size 1 _ _ _ (heap_alloc_new w8 (.cells #[.string xi, .int .i64 xs] 28))
            simp only [Nat.zero_add] at m1
            replace n1 : (w8.alloc (.cells #[.string xi, .int .i64 xs] 28)).cell? ⟨w8.heap.size, 1, none⟩ = some (.int .i64 xs) := n1
            by_cases hse : xs = ys
            · subst hse
              rw [if_pos rfl] at KD
              clear b9 R8 hxs R9
              dsimp only
              go_wp2
              go_roundw
              case rel => exact ⟨j + 1, D, by omega, by go_num, KD, by omega, O9, B9⟩
              case measure => simp [intOf]; omega
            · rw [if_neg hse] at KD
              have PC := Lib.hid (refPutC_is w.heap.size p4 c4 D ⟨3, ⟨yi, ys⟩⟩ _ O9.out (by omega))
              clear b9 R8 hxs
              dsimp only
              go_wp2_with (refine wpList_gload rfl _ rfl wr.heap.size 0 rfl _ R9.out _ Tryd.underlying28 rfl (sizeHt ⟨yi, ys⟩) ?_)
              refine PC.out.mono ?_
              rintro e w10 ⟨v10, rfl, o10, b10⟩
              have B10 := Lib.hid (thenBelow B9.out b10)
              have O10 := Lib.hid (own_base o10 B9.out.size)
              have PL := putC_len D ⟨3, ⟨yi, ys⟩⟩
              clear PC o10 b10 R9
              go_wp2
              go_roundw
              case rel => exact ⟨j + 1, _, by omega, by go_num, KD, by omega, O10, B10⟩
              case measure => simp [intOf]; omega
        · obtain rfl : j = now.length := by omega
          have hjl' : ¬ ((now.length : Nat) : Int) < now.length := by omega
          rw [List.take_length] at HD
          go_wp2
          go_ret
          have e1 : diffL old now = D := by rw [← refDiff_is]; unfold refDiffL; rw [HD.out]
          rw [e1]
          exact ⟨_, rfl, OD.out, BB.out⟩
end Go.Proofs.YtnjopndkommjnaaDoor
