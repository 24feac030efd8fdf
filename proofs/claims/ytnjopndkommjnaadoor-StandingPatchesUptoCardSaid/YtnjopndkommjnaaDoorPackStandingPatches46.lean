/- The statement StandingPatches, proved for every input that its row reads: part 46 of 54. -/
import Derived.Test.YtnjopndkommjnaaDoorPackStandingPatches45
import Derived.Test.YtnjopndkommjnaaDoorPackStandingPatches13
import Derived.Test.YtnjopndkommjnaaDoorCellsG
/- The document's lines. -/
namespace Go.Proofs.YtnjopndkommjnaaDoor
open Go Go.RowKit
set_option linter.unusedVariables false
set_option maxRecDepth 1000000

theorem str_more (s : ByteArray) (l : List Chg) (c : Chg) (h : s.data.toList = textL l) (hm : markB c.kind ≠ ⟨#[]⟩) : (s ++ markB c.kind ++ c.hit.id ++ ⟨#[32]⟩ ++ numB c.hit.score ++ ⟨#[10]⟩ : ByteArray).data.toList = textL (l ++ [c]) := by
  rw [textL_snoc, ← h]
  unfold lineL
  rw [if_neg hm]
  unfold lineB
  simp
set_option maxHeartbeats 40000000 in
theorem refText34_is (p : Option Addr) (c : Nat) (l : List Chg) (w : World) (h : ChgsAt w p l) (hn : l.length ≤ 10000) (hs : ∀ x ∈ l, -9223372036854775808 ≤ x.hit.score ∧ x.hit.score ≤ 9223372036854775807) (ht : (textL l).length ≤ 140737488355328) :
    Calls Tryd.prog 18 #[.slice p l.length c] w (DigR w ⟨(textL l).toArray⟩) := by
  have HM := Lib.hid h; have HS := Lib.hid hs; have HT := Lib.hid ht
  clear h hs ht
  go_enter Tryd.func18, Tryd.ntmps18
  go_wp2_with fail
  go_loopw [3, 9] (fun v i wr => ∃ (j : Nat) (s : ByteArray), j ≤ l.length ∧ v = .string s ∧ i = .int .i64 j ∧ Hid (s.data.toList = textL (l.take j)) ∧ Hid (Below w.heap.size w wr)) (fun _ i _ => l.length - (intOf i).toNat)
  case atStart => exact ⟨0, ⟨#[]⟩, Nat.zero_le _, rfl, rfl, Lib.hid rfl, Lib.hid (Below.refl _ _)⟩
  case round =>
    obtain ⟨j, s, hj, rfl, rfl, HD, BB⟩ := hrel
    by_cases hjl : j < l.length
    · have hjl' : (j : Int) < l.length := by omega
      obtain ⟨b, o, rfl, hlt, hr⟩ := (HM.out.below BB.out).at hjl
      obtain ⟨k0, k1, k2⟩ := chg_cells hr
      have TK : Hid (l.take (j + 1) = l.take j ++ [l[j]]) := Lib.hid (List.take_succ_eq_append_getElem hjl)
      have TU := Lib.hid (textL_upto l j hjl)
      have SC := Lib.hid (HS.out _ (List.getElem_mem hjl))
      clear hr hlt
      obtain ⟨y, hy⟩ : ∃ y, l[j] = y := ⟨_, rfl⟩
      rw [hy] at k0 k1 k2 TK TU SC
      clear hy
      have SS : Hid (s.size = (textL (l.take j)).length) := Lib.hid (by rw [← HD.out, Array.length_toList]; rfl)
      have SM := Lib.hid (fun hm => str_more s (l.take j) y HD.out hm)
      have LS := Lib.hid (lineB_size y)
      have EM : Hid (markB y.kind = ⟨#[]⟩ → s.data.toList = textL (l.take (j + 1))) := Lib.hid fun e => by rw [TK.out, textL_snoc]; unfold lineL; rw [if_pos e, List.append_nil]; exact HD.out
      rw [← TK.out] at SM
      obtain ⟨yk, yi, ys⟩ := y
      simp only at k0 k1 k2 TU SC SM LS EM
      have b7 := below_alloc wr (.cells #[.int .i64 yk, .string yi, .int .i64 ys] 30)
      have B7 := Lib.hid (thenBelow BB.out b7)
      have h7 := heap_alloc_new wr (.cells #[.int .i64 yk, .string yi, .int .i64 ys] 30)
      have R7 : Hid ((wr.alloc (.cells #[.int .i64 yk, .string yi, .int .i64 ys] 30)).rangeAt wr.heap.size 0 [.int .i64 yk, .string yi, .int .i64 ys]) := Lib.hid (range_of_block h7)
      clear b7 h7
      by_cases hk : yk = 1 ∨ yk = 2 ∨ yk = 3
      · have hm := mark_some hk
        have TU := Lib.hid (TU.out hm.1)
        have SM := Lib.hid (SM.out hm.1)
        rcases hk with rfl | rfl | rfl
        · have SM : Hid ((s ++ ⟨#[43]⟩ ++ yi ++ ⟨#[32]⟩ ++ numB ys ++ ⟨#[10]⟩ : ByteArray).data.toList = textL (l.take (j + 1))) := Lib.hid (by have := SM.out; rw [show markB 1 = ⟨#[43]⟩ by decide +kernel] at this; exact this)
          have DG := Lib.hid (digits34_is ys SC.out.1 SC.out.2)
          have TL := Lib.hid (show s.size + ((⟨#[43]⟩ : ByteArray).size + yi.size + 1 + (numB ys).size + 1) ≤ 140737488355328 by
            have t1 := TU.out; have t2 := LS.out; have t3 := HT.out; have t4 := SS.out
            rw [show markB 1 = ⟨#[43]⟩ by decide +kernel] at t2
            try simp only at t2
            omega)
          clear TU LS SS EM hm SC
          go_wp2_with fail
          obtain ⟨G, hG⟩ : ∃ G, wr.heap.size = G := ⟨_, rfl⟩
          rw [hG] at R7 ⊢
          generalize wr.alloc (.cells #[.int .i64 1, .string yi, .int .i64 ys] 30) = w7 at B7 R7 ⊢
          generalize (⟨#[43]⟩ : ByteArray) = m at SM TL ⊢
          generalize hQ : Exit.inBlock _ _ = QX
          have KE : ∀ U : World, Below w7.drew.heap.size w7.drew U → QX .normal { tmps := #[.slice (some ⟨b, o, none⟩) l.length c, undef, .string ⟨#[]⟩, .string (s ++ m ++ yi ++ ⟨#[32]⟩ ++ numB ys ++ ⟨#[10]⟩), undef, .pointer (some ⟨G, 0, none⟩), .string m, .slice (some ⟨b, o, none⟩) l.length c, .int .i64 (l.length : Int), .int .i64 (j : Int), .bool true, .pointer (some ⟨b, o + j * 3, none⟩), .agg #[.int .i64 1, .string yi, .int .i64 ys], .pointer (some ⟨G, 0, none⟩), .int .i64 1, .bool true, .pointer (some ⟨G, 0, none⟩), .int .i64 1, .bool false, .pointer (some ⟨G, 0, none⟩), .int .i64 1, .bool false, .string m, .bool true, .string s, .string m, .string (s ++ m), .pointer (some ⟨G, 1, none⟩), .pointer (some ⟨G, 1, none⟩), .string yi, .string (s ++ m ++ yi), .string (s ++ m ++ yi ++ ⟨#[32]⟩), .pointer (some ⟨G, 1, none⟩), .pointer (some ⟨G, 2, none⟩), .int .i64 ys, .string (numB ys), .string (s ++ m ++ yi ++ ⟨#[32]⟩ ++ numB ys), .string (s ++ m ++ yi ++ ⟨#[32]⟩ ++ numB ys ++ ⟨#[10]⟩), u38, undef], defers := [] } U := by
            intro U hU
            rw [← hQ]
            clear hQ
            simp only [Exit.inBlock, Exit.then]
            have B9 := Lib.hid (thenBelow B7.out (show Below w7.heap.size w7 U from ⟨hU.os, hU.tape, hU.output, hU.size, hU.block⟩))
            clear hU R7 DG TL
            go_wp2
            go_roundw
            case rel => exact ⟨j + 1, _, by omega, rfl, by go_num, SM, B9⟩
            case measure => simp [intOf]; omega
          have m1 : w7.drew.cell? ⟨G, 1, none⟩ = some (.string yi) := by have := R7.out 1 _ rfl; simpa using this
          have m2 : w7.drew.cell? ⟨G, 2, none⟩ = some (.int .i64 ys) := by have := R7.out 2 _ rfl; simpa using this
          have b0 := Below.refl w7.drew.heap.size w7.drew
          have tl := TL.out
          have p1 : (⟨#[32]⟩ : ByteArray).size = 1 := rfl
          have p2 : (⟨#[10]⟩ : ByteArray).size = 1 := rfl
          have q1 : s.size + (m : ByteArray).size ≤ 9223372036854775807 := by omega
          have q2 : (s ++ m : ByteArray).size + yi.size ≤ 9223372036854775807 := by rw [ba_size]; omega
          have q3 : (s ++ m ++ yi : ByteArray).size + (⟨#[32]⟩ : ByteArray).size ≤ 9223372036854775807 := by rw [ba_size, ba_size]; omega
          have q4 : (s ++ m ++ yi ++ ⟨#[32]⟩ : ByteArray).size + (numB ys).size ≤ 9223372036854775807 := by rw [ba_size, ba_size, ba_size]; omega
          have q5 : (s ++ m ++ yi ++ ⟨#[32]⟩ ++ numB ys : ByteArray).size + (⟨#[10]⟩ : ByteArray).size ≤ 9223372036854775807 := by rw [ba_size, ba_size, ba_size, ba_size]; omega
          refine rg_last (by kernel_rfl) rfl (S := fun U => Below w7.drew.heap.size w7.drew U) ?_
          refine rgd_pure 0 (some 24) rfl rfl (.string s) (by kernel_rfl) (by kernel_rfl) (by kernel_rfl) (fun _ _ _ _ h => h) (by kernel_rfl) (fun w => by kernel_rfl) b0 ?_
          refine rgd_pure 1 (some 25) rfl rfl (.string m) (by kernel_rfl) (by kernel_rfl) (by kernel_rfl) (fun _ _ _ _ h => h) (by kernel_rfl) (fun w => by kernel_rfl) b0 ?_
          refine rgd_pure 2 (some 26) rfl rfl (.string (s ++ m)) (by kernel_rfl) (by kernel_rfl) (by kernel_rfl) (fun _ _ _ _ h => h) (by kernel_rfl) (fun w => exec_addS _ _ _ _ rfl (s) (m) (by kernel_rfl) (by kernel_rfl) q1 w) b0 ?_
          refine rgd_pure 3 (some 27) rfl rfl (.pointer (some ⟨G, 1, none⟩)) (by kernel_rfl) (by kernel_rfl) (by kernel_rfl) (fun _ _ _ _ h => h) (by kernel_rfl) (fun w => by kernel_rfl) b0 ?_
          refine rgd_pure 4 (some 28) rfl rfl (.pointer (some ⟨G, 1, none⟩)) (by kernel_rfl) (by kernel_rfl) (by kernel_rfl) (fun _ _ _ _ h => h) (by kernel_rfl) (fun w => by kernel_rfl) b0 ?_
          refine rgd_pureS 5 (some 29) rfl rfl (.string yi) (by kernel_rfl) (by kernel_rfl) (by kernel_rfl) (fun _ _ _ _ h => h) (by kernel_rfl) (fun U hU => exec_load1 _ _ rfl Tryd.underlying9 rfl ⟨G, 1, none⟩ _ (by kernel_rfl) (cell_hold2 m1 hU)) b0 ?_
          refine rgd_pure 6 (some 30) rfl rfl (.string (s ++ m ++ yi)) (by kernel_rfl) (by kernel_rfl) (by kernel_rfl) (fun _ _ _ _ h => h) (by kernel_rfl) (fun w => exec_addS _ _ _ _ rfl (s ++ m) (yi) (by kernel_rfl) (by kernel_rfl) q2 w) b0 ?_
          refine rgd_pure 7 (some 31) rfl rfl (.string (s ++ m ++ yi ++ ⟨#[32]⟩)) (by kernel_rfl) (by kernel_rfl) (by kernel_rfl) (fun _ _ _ _ h => h) (by kernel_rfl) (fun w => exec_addS _ _ _ _ rfl (s ++ m ++ yi) (⟨#[32]⟩) (by kernel_rfl) (by kernel_rfl) q3 w) b0 ?_
          refine rgd_pure 8 (some 32) rfl rfl (.pointer (some ⟨G, 1, none⟩)) (by kernel_rfl) (by kernel_rfl) (by kernel_rfl) (fun _ _ _ _ h => h) (by kernel_rfl) (fun w => by kernel_rfl) b0 ?_
          refine rgd_pure 9 (some 33) rfl rfl (.pointer (some ⟨G, 2, none⟩)) (by kernel_rfl) (by kernel_rfl) (by kernel_rfl) (fun _ _ _ _ h => h) (by kernel_rfl) (fun w => by kernel_rfl) b0 ?_
          refine rgd_pureS 10 (some 34) rfl rfl (.int .i64 ys) (by kernel_rfl) (by kernel_rfl) (by kernel_rfl) (fun _ _ _ _ h => h) (by kernel_rfl) (fun U hU => exec_load1 _ _ rfl Tryd.underlying3 rfl ⟨G, 2, none⟩ _ (by kernel_rfl) (cell_hold2 m2 hU)) b0 ?_
          refine rgd_call 11 (some 35) (by kernel_rfl) rfl rfl (by kernel_rfl) 34 (#[.int .i64 ys]) (by kernel_rfl) (DG.out _) ?_
          rintro _ U1 ⟨rfl, b1⟩
          refine ⟨_, rfl, b1, ?_⟩
          refine rgd_pure 12 (some 36) rfl rfl (.string (s ++ m ++ yi ++ ⟨#[32]⟩ ++ numB ys)) (by kernel_rfl) (by kernel_rfl) (by kernel_rfl) (fun _ _ _ _ h => h) (by kernel_rfl) (fun w => exec_addS _ _ _ _ rfl (s ++ m ++ yi ++ ⟨#[32]⟩) (numB ys) (by kernel_rfl) (by kernel_rfl) q4 w) b1 ?_
          refine rgd_pure 13 (some 37) rfl rfl (.string (s ++ m ++ yi ++ ⟨#[32]⟩ ++ numB ys ++ ⟨#[10]⟩)) (by kernel_rfl) (by kernel_rfl) (by kernel_rfl) (fun _ _ _ _ h => h) (by kernel_rfl) (fun w => exec_addS _ _ _ _ rfl (s ++ m ++ yi ++ ⟨#[32]⟩ ++ numB ys) (⟨#[10]⟩) (by kernel_rfl) (by kernel_rfl) q5 w) b1 ?_
          refine rgd_pure 14 (some 3) rfl rfl (.string (s ++ m ++ yi ++ ⟨#[32]⟩ ++ numB ys ++ ⟨#[10]⟩)) (by kernel_rfl) (by kernel_rfl) (by kernel_rfl) (fun _ _ _ _ h => h) (by kernel_rfl) (fun w => by kernel_rfl) b1 ?_
          exact wpAnyH_done (by kernel_rfl) (Eq.mp (by kernel_rfl) (KE U1 b1)) _
        · have SM : Hid ((s ++ ⟨#[45]⟩ ++ yi ++ ⟨#[32]⟩ ++ numB ys ++ ⟨#[10]⟩ : ByteArray).data.toList = textL (l.take (j + 1))) := Lib.hid (by have := SM.out; rw [show markB 2 = ⟨#[45]⟩ by decide +kernel] at this; exact this)
          have DG := Lib.hid (digits34_is ys SC.out.1 SC.out.2)
          have TL := Lib.hid (show s.size + ((⟨#[45]⟩ : ByteArray).size + yi.size + 1 + (numB ys).size + 1) ≤ 140737488355328 by
            have t1 := TU.out; have t2 := LS.out; have t3 := HT.out; have t4 := SS.out
            rw [show markB 2 = ⟨#[45]⟩ by decide +kernel] at t2
            try simp only at t2
            omega)
          clear TU LS SS EM hm SC
          go_wp2_with fail
          obtain ⟨G, hG⟩ : ∃ G, wr.heap.size = G := ⟨_, rfl⟩
          rw [hG] at R7 ⊢
          generalize wr.alloc (.cells #[.int .i64 2, .string yi, .int .i64 ys] 30) = w7 at B7 R7 ⊢
          generalize (⟨#[45]⟩ : ByteArray) = m at SM TL ⊢
          generalize hQ : Exit.inBlock _ _ = QX
          have KE : ∀ U : World, Below w7.drew.heap.size w7.drew U → QX .normal { tmps := #[.slice (some ⟨b, o, none⟩) l.length c, undef, .string ⟨#[]⟩, .string (s ++ m ++ yi ++ ⟨#[32]⟩ ++ numB ys ++ ⟨#[10]⟩), undef, .pointer (some ⟨G, 0, none⟩), .string m, .slice (some ⟨b, o, none⟩) l.length c, .int .i64 (l.length : Int), .int .i64 (j : Int), .bool true, .pointer (some ⟨b, o + j * 3, none⟩), .agg #[.int .i64 2, .string yi, .int .i64 ys], .pointer (some ⟨G, 0, none⟩), .int .i64 2, .bool false, .pointer (some ⟨G, 0, none⟩), .int .i64 2, .bool true, .pointer (some ⟨G, 0, none⟩), .int .i64 2, .bool false, .string m, .bool true, .string s, .string m, .string (s ++ m), .pointer (some ⟨G, 1, none⟩), .pointer (some ⟨G, 1, none⟩), .string yi, .string (s ++ m ++ yi), .string (s ++ m ++ yi ++ ⟨#[32]⟩), .pointer (some ⟨G, 1, none⟩), .pointer (some ⟨G, 2, none⟩), .int .i64 ys, .string (numB ys), .string (s ++ m ++ yi ++ ⟨#[32]⟩ ++ numB ys), .string (s ++ m ++ yi ++ ⟨#[32]⟩ ++ numB ys ++ ⟨#[10]⟩), u38, undef], defers := [] } U := by
            intro U hU
            rw [← hQ]
            clear hQ
            simp only [Exit.inBlock, Exit.then]
            have B9 := Lib.hid (thenBelow B7.out (show Below w7.heap.size w7 U from ⟨hU.os, hU.tape, hU.output, hU.size, hU.block⟩))
            clear hU R7 DG TL
            go_wp2
            go_roundw
            case rel => exact ⟨j + 1, _, by omega, rfl, by go_num, SM, B9⟩
            case measure => simp [intOf]; omega
          have m1 : w7.drew.cell? ⟨G, 1, none⟩ = some (.string yi) := by have := R7.out 1 _ rfl; simpa using this
          have m2 : w7.drew.cell? ⟨G, 2, none⟩ = some (.int .i64 ys) := by have := R7.out 2 _ rfl; simpa using this
          have b0 := Below.refl w7.drew.heap.size w7.drew
          have tl := TL.out
          have p1 : (⟨#[32]⟩ : ByteArray).size = 1 := rfl
          have p2 : (⟨#[10]⟩ : ByteArray).size = 1 := rfl
          have q1 : s.size + (m : ByteArray).size ≤ 9223372036854775807 := by omega
          have q2 : (s ++ m : ByteArray).size + yi.size ≤ 9223372036854775807 := by rw [ba_size]; omega
          have q3 : (s ++ m ++ yi : ByteArray).size + (⟨#[32]⟩ : ByteArray).size ≤ 9223372036854775807 := by rw [ba_size, ba_size]; omega
          have q4 : (s ++ m ++ yi ++ ⟨#[32]⟩ : ByteArray).size + (numB ys).size ≤ 9223372036854775807 := by rw [ba_size, ba_size, ba_size]; omega
          have q5 : (s ++ m ++ yi ++ ⟨#[32]⟩ ++ numB ys : ByteArray).size + (⟨#[10]⟩ : ByteArray).size ≤ 9223372036854775807 := by rw [ba_size, ba_size, ba_size, ba_size]; omega
          refine rg_last (by kernel_rfl) rfl (S := fun U => Below w7.drew.heap.size w7.drew U) ?_
          refine rgd_pure 0 (some 24) rfl rfl (.string s) (by kernel_rfl) (by kernel_rfl) (by kernel_rfl) (fun _ _ _ _ h => h) (by kernel_rfl) (fun w => by kernel_rfl) b0 ?_
          refine rgd_pure 1 (some 25) rfl rfl (.string m) (by kernel_rfl) (by kernel_rfl) (by kernel_rfl) (fun _ _ _ _ h => h) (by kernel_rfl) (fun w => by kernel_rfl) b0 ?_
          refine rgd_pure 2 (some 26) rfl rfl (.string (s ++ m)) (by kernel_rfl) (by kernel_rfl) (by kernel_rfl) (fun _ _ _ _ h => h) (by kernel_rfl) (fun w => exec_addS _ _ _ _ rfl (s) (m) (by kernel_rfl) (by kernel_rfl) q1 w) b0 ?_
          refine rgd_pure 3 (some 27) rfl rfl (.pointer (some ⟨G, 1, none⟩)) (by kernel_rfl) (by kernel_rfl) (by kernel_rfl) (fun _ _ _ _ h => h) (by kernel_rfl) (fun w => by kernel_rfl) b0 ?_
          refine rgd_pure 4 (some 28) rfl rfl (.pointer (some ⟨G, 1, none⟩)) (by kernel_rfl) (by kernel_rfl) (by kernel_rfl) (fun _ _ _ _ h => h) (by kernel_rfl) (fun w => by kernel_rfl) b0 ?_
          refine rgd_pureS 5 (some 29) rfl rfl (.string yi) (by kernel_rfl) (by kernel_rfl) (by kernel_rfl) (fun _ _ _ _ h => h) (by kernel_rfl) (fun U hU => exec_load1 _ _ rfl Tryd.underlying9 rfl ⟨G, 1, none⟩ _ (by kernel_rfl) (cell_hold2 m1 hU)) b0 ?_
          refine rgd_pure 6 (some 30) rfl rfl (.string (s ++ m ++ yi)) (by kernel_rfl) (by kernel_rfl) (by kernel_rfl) (fun _ _ _ _ h => h) (by kernel_rfl) (fun w => exec_addS _ _ _ _ rfl (s ++ m) (yi) (by kernel_rfl) (by kernel_rfl) q2 w) b0 ?_
          refine rgd_pure 7 (some 31) rfl rfl (.string (s ++ m ++ yi ++ ⟨#[32]⟩)) (by kernel_rfl) (by kernel_rfl) (by kernel_rfl) (fun _ _ _ _ h => h) (by kernel_rfl) (fun w => exec_addS _ _ _ _ rfl (s ++ m ++ yi) (⟨#[32]⟩) (by kernel_rfl) (by kernel_rfl) q3 w) b0 ?_
          refine rgd_pure 8 (some 32) rfl rfl (.pointer (some ⟨G, 1, none⟩)) (by kernel_rfl) (by kernel_rfl) (by kernel_rfl) (fun _ _ _ _ h => h) (by kernel_rfl) (fun w => by kernel_rfl) b0 ?_
          refine rgd_pure 9 (some 33) rfl rfl (.pointer (some ⟨G, 2, none⟩)) (by kernel_rfl) (by kernel_rfl) (by kernel_rfl) (fun _ _ _ _ h => h) (by kernel_rfl) (fun w => by kernel_rfl) b0 ?_
          refine rgd_pureS 10 (some 34) rfl rfl (.int .i64 ys) (by kernel_rfl) (by kernel_rfl) (by kernel_rfl) (fun _ _ _ _ h => h) (by kernel_rfl) (fun U hU => exec_load1 _ _ rfl Tryd.underlying3 rfl ⟨G, 2, none⟩ _ (by kernel_rfl) (cell_hold2 m2 hU)) b0 ?_
          refine rgd_call 11 (some 35) (by kernel_rfl) rfl rfl (by kernel_rfl) 34 (#[.int .i64 ys]) (by kernel_rfl) (DG.out _) ?_
          rintro _ U1 ⟨rfl, b1⟩
          refine ⟨_, rfl, b1, ?_⟩
          refine rgd_pure 12 (some 36) rfl rfl (.string (s ++ m ++ yi ++ ⟨#[32]⟩ ++ numB ys)) (by kernel_rfl) (by kernel_rfl) (by kernel_rfl) (fun _ _ _ _ h => h) (by kernel_rfl) (fun w => exec_addS _ _ _ _ rfl (s ++ m ++ yi ++ ⟨#[32]⟩) (numB ys) (by kernel_rfl) (by kernel_rfl) q4 w) b1 ?_
          refine rgd_pure 13 (some 37) rfl rfl (.string (s ++ m ++ yi ++ ⟨#[32]⟩ ++ numB ys ++ ⟨#[10]⟩)) (by kernel_rfl) (by kernel_rfl) (by kernel_rfl) (fun _ _ _ _ h => h) (by kernel_rfl) (fun w => exec_addS _ _ _ _ rfl (s ++ m ++ yi ++ ⟨#[32]⟩ ++ numB ys) (⟨#[10]⟩) (by kernel_rfl) (by kernel_rfl) q5 w) b1 ?_
          refine rgd_pure 14 (some 3) rfl rfl (.string (s ++ m ++ yi ++ ⟨#[32]⟩ ++ numB ys ++ ⟨#[10]⟩)) (by kernel_rfl) (by kernel_rfl) (by kernel_rfl) (fun _ _ _ _ h => h) (by kernel_rfl) (fun w => by kernel_rfl) b1 ?_
          exact wpAnyH_done (by kernel_rfl) (Eq.mp (by kernel_rfl) (KE U1 b1)) _
        · have SM : Hid ((s ++ ⟨#[126]⟩ ++ yi ++ ⟨#[32]⟩ ++ numB ys ++ ⟨#[10]⟩ : ByteArray).data.toList = textL (l.take (j + 1))) := Lib.hid (by have := SM.out; rw [show markB 3 = ⟨#[126]⟩ by decide +kernel] at this; exact this)
          have DG := Lib.hid (digits34_is ys SC.out.1 SC.out.2)
          have TL := Lib.hid (show s.size + ((⟨#[126]⟩ : ByteArray).size + yi.size + 1 + (numB ys).size + 1) ≤ 140737488355328 by
            have t1 := TU.out; have t2 := LS.out; have t3 := HT.out; have t4 := SS.out
            rw [show markB 3 = ⟨#[126]⟩ by decide +kernel] at t2
            try simp only at t2
            omega)
          clear TU LS SS EM hm SC
          go_wp2_with fail
          obtain ⟨G, hG⟩ : ∃ G, wr.heap.size = G := ⟨_, rfl⟩
          rw [hG] at R7 ⊢
          generalize wr.alloc (.cells #[.int .i64 3, .string yi, .int .i64 ys] 30) = w7 at B7 R7 ⊢
          generalize (⟨#[126]⟩ : ByteArray) = m at SM TL ⊢
          generalize hQ : Exit.inBlock _ _ = QX
          have KE : ∀ U : World, Below w7.drew.heap.size w7.drew U → QX .normal { tmps := #[.slice (some ⟨b, o, none⟩) l.length c, undef, .string ⟨#[]⟩, .string (s ++ m ++ yi ++ ⟨#[32]⟩ ++ numB ys ++ ⟨#[10]⟩), undef, .pointer (some ⟨G, 0, none⟩), .string m, .slice (some ⟨b, o, none⟩) l.length c, .int .i64 (l.length : Int), .int .i64 (j : Int), .bool true, .pointer (some ⟨b, o + j * 3, none⟩), .agg #[.int .i64 3, .string yi, .int .i64 ys], .pointer (some ⟨G, 0, none⟩), .int .i64 3, .bool false, .pointer (some ⟨G, 0, none⟩), .int .i64 3, .bool false, .pointer (some ⟨G, 0, none⟩), .int .i64 3, .bool true, .string m, .bool true, .string s, .string m, .string (s ++ m), .pointer (some ⟨G, 1, none⟩), .pointer (some ⟨G, 1, none⟩), .string yi, .string (s ++ m ++ yi), .string (s ++ m ++ yi ++ ⟨#[32]⟩), .pointer (some ⟨G, 1, none⟩), .pointer (some ⟨G, 2, none⟩), .int .i64 ys, .string (numB ys), .string (s ++ m ++ yi ++ ⟨#[32]⟩ ++ numB ys), .string (s ++ m ++ yi ++ ⟨#[32]⟩ ++ numB ys ++ ⟨#[10]⟩), u38, undef], defers := [] } U := by
            intro U hU
            rw [← hQ]
            clear hQ
            simp only [Exit.inBlock, Exit.then]
            have B9 := Lib.hid (thenBelow B7.out (show Below w7.heap.size w7 U from ⟨hU.os, hU.tape, hU.output, hU.size, hU.block⟩))
            clear hU R7 DG TL
            go_wp2
            go_roundw
            case rel => exact ⟨j + 1, _, by omega, rfl, by go_num, SM, B9⟩
            case measure => simp [intOf]; omega
          have m1 : w7.drew.cell? ⟨G, 1, none⟩ = some (.string yi) := by have := R7.out 1 _ rfl; simpa using this
          have m2 : w7.drew.cell? ⟨G, 2, none⟩ = some (.int .i64 ys) := by have := R7.out 2 _ rfl; simpa using this
          have b0 := Below.refl w7.drew.heap.size w7.drew
          have tl := TL.out
          have p1 : (⟨#[32]⟩ : ByteArray).size = 1 := rfl
          have p2 : (⟨#[10]⟩ : ByteArray).size = 1 := rfl
          have q1 : s.size + (m : ByteArray).size ≤ 9223372036854775807 := by omega
          have q2 : (s ++ m : ByteArray).size + yi.size ≤ 9223372036854775807 := by rw [ba_size]; omega
          have q3 : (s ++ m ++ yi : ByteArray).size + (⟨#[32]⟩ : ByteArray).size ≤ 9223372036854775807 := by rw [ba_size, ba_size]; omega
          have q4 : (s ++ m ++ yi ++ ⟨#[32]⟩ : ByteArray).size + (numB ys).size ≤ 9223372036854775807 := by rw [ba_size, ba_size, ba_size]; omega
          have q5 : (s ++ m ++ yi ++ ⟨#[32]⟩ ++ numB ys : ByteArray).size + (⟨#[10]⟩ : ByteArray).size ≤ 9223372036854775807 := by rw [ba_size, ba_size, ba_size, ba_size]; omega
          refine rg_last (by kernel_rfl) rfl (S := fun U => Below w7.drew.heap.size w7.drew U) ?_
          refine rgd_pure 0 (some 24) rfl rfl (.string s) (by kernel_rfl) (by kernel_rfl) (by kernel_rfl) (fun _ _ _ _ h => h) (by kernel_rfl) (fun w => by kernel_rfl) b0 ?_
          refine rgd_pure 1 (some 25) rfl rfl (.string m) (by kernel_rfl) (by kernel_rfl) (by kernel_rfl) (fun _ _ _ _ h => h) (by kernel_rfl) (fun w => by kernel_rfl) b0 ?_
          refine rgd_pure 2 (some 26) rfl rfl (.string (s ++ m)) (by kernel_rfl) (by kernel_rfl) (by kernel_rfl) (fun _ _ _ _ h => h) (by kernel_rfl) (fun w => exec_addS _ _ _ _ rfl (s) (m) (by kernel_rfl) (by kernel_rfl) q1 w) b0 ?_
          refine rgd_pure 3 (some 27) rfl rfl (.pointer (some ⟨G, 1, none⟩)) (by kernel_rfl) (by kernel_rfl) (by kernel_rfl) (fun _ _ _ _ h => h) (by kernel_rfl) (fun w => by kernel_rfl) b0 ?_
          refine rgd_pure 4 (some 28) rfl rfl (.pointer (some ⟨G, 1, none⟩)) (by kernel_rfl) (by kernel_rfl) (by kernel_rfl) (fun _ _ _ _ h => h) (by kernel_rfl) (fun w => by kernel_rfl) b0 ?_
          refine rgd_pureS 5 (some 29) rfl rfl (.string yi) (by kernel_rfl) (by kernel_rfl) (by kernel_rfl) (fun _ _ _ _ h => h) (by kernel_rfl) (fun U hU => exec_load1 _ _ rfl Tryd.underlying9 rfl ⟨G, 1, none⟩ _ (by kernel_rfl) (cell_hold2 m1 hU)) b0 ?_
          refine rgd_pure 6 (some 30) rfl rfl (.string (s ++ m ++ yi)) (by kernel_rfl) (by kernel_rfl) (by kernel_rfl) (fun _ _ _ _ h => h) (by kernel_rfl) (fun w => exec_addS _ _ _ _ rfl (s ++ m) (yi) (by kernel_rfl) (by kernel_rfl) q2 w) b0 ?_
          refine rgd_pure 7 (some 31) rfl rfl (.string (s ++ m ++ yi ++ ⟨#[32]⟩)) (by kernel_rfl) (by kernel_rfl) (by kernel_rfl) (fun _ _ _ _ h => h) (by kernel_rfl) (fun w => exec_addS _ _ _ _ rfl (s ++ m ++ yi) (⟨#[32]⟩) (by kernel_rfl) (by kernel_rfl) q3 w) b0 ?_
          refine rgd_pure 8 (some 32) rfl rfl (.pointer (some ⟨G, 1, none⟩)) (by kernel_rfl) (by kernel_rfl) (by kernel_rfl) (fun _ _ _ _ h => h) (by kernel_rfl) (fun w => by kernel_rfl) b0 ?_
          refine rgd_pure 9 (some 33) rfl rfl (.pointer (some ⟨G, 2, none⟩)) (by kernel_rfl) (by kernel_rfl) (by kernel_rfl) (fun _ _ _ _ h => h) (by kernel_rfl) (fun w => by kernel_rfl) b0 ?_
          refine rgd_pureS 10 (some 34) rfl rfl (.int .i64 ys) (by kernel_rfl) (by kernel_rfl) (by kernel_rfl) (fun _ _ _ _ h => h) (by kernel_rfl) (fun U hU => exec_load1 _ _ rfl Tryd.underlying3 rfl ⟨G, 2, none⟩ _ (by kernel_rfl) (cell_hold2 m2 hU)) b0 ?_
          refine rgd_call 11 (some 35) (by kernel_rfl) rfl rfl (by kernel_rfl) 34 (#[.int .i64 ys]) (by kernel_rfl) (DG.out _) ?_
          rintro _ U1 ⟨rfl, b1⟩
          refine ⟨_, rfl, b1, ?_⟩
          refine rgd_pure 12 (some 36) rfl rfl (.string (s ++ m ++ yi ++ ⟨#[32]⟩ ++ numB ys)) (by kernel_rfl) (by kernel_rfl) (by kernel_rfl) (fun _ _ _ _ h => h) (by kernel_rfl) (fun w => exec_addS _ _ _ _ rfl (s ++ m ++ yi ++ ⟨#[32]⟩) (numB ys) (by kernel_rfl) (by kernel_rfl) q4 w) b1 ?_
          refine rgd_pure 13 (some 37) rfl rfl (.string (s ++ m ++ yi ++ ⟨#[32]⟩ ++ numB ys ++ ⟨#[10]⟩)) (by kernel_rfl) (by kernel_rfl) (by kernel_rfl) (fun _ _ _ _ h => h) (by kernel_rfl) (fun w => exec_addS _ _ _ _ rfl (s ++ m ++ yi ++ ⟨#[32]⟩ ++ numB ys) (⟨#[10]⟩) (by kernel_rfl) (by kernel_rfl) q5 w) b1 ?_
          refine rgd_pure 14 (some 3) rfl rfl (.string (s ++ m ++ yi ++ ⟨#[32]⟩ ++ numB ys ++ ⟨#[10]⟩)) (by kernel_rfl) (by kernel_rfl) (by kernel_rfl) (fun _ _ _ _ h => h) (by kernel_rfl) (fun w => by kernel_rfl) b1 ?_
          exact wpAnyH_done (by kernel_rfl) (Eq.mp (by kernel_rfl) (KE U1 b1)) _
      · have e1 : markB yk = ⟨#[]⟩ := mark_other (fun e => hk (.inl e)) (fun e => hk (.inr (.inl e))) (fun e => hk (.inr (.inr e)))
        have h1 : ¬ yk = 1 := fun e => hk (.inl e)
        have h2 : ¬ yk = 2 := fun e => hk (.inr (.inl e))
        have h3 : ¬ yk = 3 := fun e => hk (.inr (.inr e))
        have E1 := Lib.hid (EM.out e1)
        clear hk e1 EM SM TU LS SS SC R7
        go_wp2
        go_roundw
        case rel => exact ⟨j + 1, s, by omega, rfl, by go_num, E1, B7⟩
        case measure => simp [intOf]; omega
    · obtain rfl : j = l.length := by omega
      have hjl' : ¬ ((l.length : Nat) : Int) < l.length := by omega
      rw [List.take_length] at HD
      go_wp2
      go_ret
      refine ⟨?_, BB.out⟩
      have : s = ⟨(textL l).toArray⟩ := by rw [← HD.out]
      rw [this]; rfl
end Go.Proofs.YtnjopndkommjnaaDoor
