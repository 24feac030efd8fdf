/- The statement StandingPatches, proved for every input that its row reads: part 28 of 54. -/
import Derived.Test.YtnjopndkommjnaaDoorPackStandingPatches24
import Derived.Test.YtnjopndkommjnaaDoorBldT
import Derived.Test.YtnjopndkommjnaaDoorPackStandingPatches13
import Derived.Test.YtnjopndkommjnaaDoorCellsG
import Derived.Lib.AppendIntMem
/- standing.Text: changes as lines. -/
namespace Go.Proofs.YtnjopndkommjnaaDoor
open Go Go.RowKit
set_option linter.unusedVariables false
set_option maxRecDepth 1000000

def Pow (w : World) : Prop := Lib.TabIs Tryd.prog w "internal/strconv.uint64pow10" .u64 Lib.pow10Tab
theorem Pow.later {w w' : World} (h : Pow w) (hb : Below w.heap.size w w') : Pow w' := Lib.tabBelow_of_tabIs h w' hb
theorem below_grow {w : World} (k : Nat) (os : Array Obj) : Below w.heap.size w (Sort.grow (w.drewN k) os) := ⟨rfl, rfl, rfl, by show w.heap.size ≤ (w.heap ++ os).size; simp, fun i hi => by
  show (w.heap ++ os)[i]? = w.heap[i]?
  exact Array.getElem?_append_left hi⟩
theorem itoa_is (n : Int) (h0 : -9223372036854775808 ≤ n) (h1 : n ≤ 9223372036854775807) (w : World) (h : Pow w) : Calls Tryd.prog 32 #[.int .i64 n] w fun e w' => e = .returned (.string (numB n)) ∧ Below w.heap.size w w' := by
  refine (Tryd.strconv_Itoa n h0 h1 w h).mono ?_
  rintro e w' ⟨rfl, k, os, rfl⟩
  exact ⟨rfl, below_grow k os⟩
theorem mark_is (k : Int) (w : World) : Calls Tryd.prog 28 #[.int .i64 k] w fun e w' => e = .returned (.string (markB k)) ∧ w = w' := by
  by_cases h1 : k = 1
  · subst h1
    go_enter Tryd.func28, Tryd.ntmps28
    go_wp2
    go_ret
    exact ⟨rfl, rfl⟩
  · by_cases h2 : k = 2
    · subst h2
      go_enter Tryd.func28, Tryd.ntmps28
      go_wp2
      go_ret
      exact ⟨rfl, rfl⟩
    · by_cases h3 : k = 3
      · subst h3
        go_enter Tryd.func28, Tryd.ntmps28
        go_wp2
        go_ret
        exact ⟨rfl, rfl⟩
      · rw [mark_other h1 h2 h3]
        go_enter Tryd.func28, Tryd.ntmps28
        go_wp2
        go_ret
        exact ⟨rfl, rfl⟩
def RetStr (w : World) (s : ByteArray) (e : Ending) (w' : World) : Prop := e = .returned (.string s) ∧ Below w.heap.size w w'
theorem bld_later {B b : Nat} {l : List UInt8} {w w' : World} (h : Bld B b l w) (hb : Below w.heap.size w w') : Bld B b l w' :=
  bld_kept h (row := none) ⟨hb.os, hb.tape, hb.output, hb.size, fun k hk _ => hb.block k hk⟩ (fun r e => by cases e)
theorem Pow.laterN {w w' : World} {N : Nat} (h : Pow w) (hN : w.heap.size = N) (hb : Below N w w') : Pow w' := by subst hN; exact h.later hb
theorem bld_lt {B b : Nat} {l : List UInt8} {w : World} (h : Bld B b l w) : b < w.heap.size := by
  rcases h with ⟨_, v, hbk, _⟩ | ⟨_, v, hbk, _⟩ <;> exact (Array.getElem?_eq_some_iff.1 hbk).1
theorem from_drewT {w w' : World} (h : Below w.drew.heap.size w.drew w') : Below w.heap.size w w' := ⟨h.os, h.tape, h.output, h.size, h.block⟩
set_option maxHeartbeats 4000000 in
theorem text_is (p : Option Addr) (c : Nat) (l : List Chg) (w : World) (h : ChgsAt w p l) (hn : l.length ≤ 10000) (hs : ∀ x ∈ l, -9223372036854775808 ≤ x.hit.score ∧ x.hit.score ≤ 9223372036854775807) (ht : (textL l).length ≤ 140737488355328) (hP : Pow w) :
    Calls Tryd.prog 17 #[.slice p l.length c] w (RetStr w ⟨(textL l).toArray⟩) := by
  have HM := Lib.hid h; have HP := Lib.hid hP; have HS := Lib.hid hs; have HT := Lib.hid ht
  clear h hP hs ht
  go_enter Tryd.func17, Tryd.ntmps17
  have D3 := Lib.hid (bld_new w)
  have B3 := Lib.hid (below_alloc w (.cells #[.pointer none, .slice none 0 0] 59))
  go_wp2_with fail
  generalize w.alloc (.cells #[.pointer none, .slice none 0 0] 59) = w3 at D3 B3 ⊢
  obtain ⟨N, hN⟩ : ∃ N, w.heap.size = N := ⟨_, rfl⟩
  rw [hN] at D3 B3 ⊢
  have HN := Lib.hid hN
  clear hN
  go_loopw [9] (fun i wr => ∃ j : Nat, j ≤ l.length ∧ i = .int .i64 j ∧ Hid (Bld N N (textL (l.take j)) wr) ∧ Hid (Below N w wr)) (fun i _ => l.length - (intOf i).toNat)
  case atStart => exact ⟨0, Nat.zero_le _, rfl, D3, B3⟩
  case round =>
    obtain ⟨j, hj, rfl, DD, BB⟩ := hrel
    clear D3 B3
    have hNr : N ≤ wr.heap.size := by have := BB.out.size; have := HN.out; omega
    by_cases hjl : j < l.length
    · have hjl' : (j : Int) < l.length := by omega
      obtain ⟨b, o, rfl, hlt, hr⟩ := (HM.out.below (by rw [HN.out]; exact BB.out)).at hjl
      obtain ⟨k0, k1, k2⟩ := chg_cells hr
      have TK : Hid (l.take (j + 1) = l.take j ++ [l[j]]) := Lib.hid (List.take_succ_eq_append_getElem hjl)
      have TU := Lib.hid (textL_upto l j hjl)
      have SC := Lib.hid (HS.out _ (List.getElem_mem hjl))
      clear hr hlt
      obtain ⟨y, hy⟩ : ∃ y, l[j] = y := ⟨_, rfl⟩
      rw [hy] at k0 k1 k2 TK TU SC
      clear hy
      obtain ⟨yk, yi, ys⟩ := y
      simp only at k0 k1 k2 TU SC
      have b7 := below_alloc wr (.cells #[.int .i64 yk, .string yi, .int .i64 ys] 30)
      have D7 := Lib.hid (bld_later DD.out b7)
      have B7 : Hid (Below N w (wr.alloc (.cells #[.int .i64 yk, .string yi, .int .i64 ys] 30))) := Lib.hid (BB.out.trans (b7.mono hNr))
      have h7 := heap_alloc_new wr (.cells #[.int .i64 yk, .string yi, .int .i64 ys] 30)
      have H7 := Lib.hid h7
      have MK := Lib.hid (mark_is yk)
      have KD : Hid (textL (l.take (j + 1)) = textL (l.take j) ++ lineL ⟨yk, ⟨yi, ys⟩⟩) := Lib.hid (by rw [TK.out, textL_snoc])
      clear b7 h7 TK
      go_wp2_with fail
      refine (MK.out _).mono ?_
      rintro e w8 ⟨rfl, rfl⟩
      dsimp only
      by_cases hk : yk = 1 ∨ yk = 2 ∨ yk = 3
      · obtain ⟨hm1, hm2⟩ := mark_some hk
        have TU := Lib.hid (TU.out hm1)
        have LL : Hid (lineL ⟨yk, ⟨yi, ys⟩⟩ = (markB yk ++ yi ++ ⟨#[32]⟩ ++ numB ys ++ ⟨#[10]⟩).data.toList) := Lib.hid (by unfold lineL; rw [if_neg hm1]; rfl)
        have LS := Lib.hid (lineB_size ⟨yk, ⟨yi, ys⟩⟩)
        have TE : Hid (textL (l.take j) ++ (markB yk ++ yi ++ ⟨#[32]⟩ ++ numB ys ++ ⟨#[10]⟩).data.toList = textL (l.take (j + 1))) := Lib.hid (by rw [KD.out, LL.out])
        have hne : (markB yk).toList.isEmpty = false := by
          rw [List.isEmpty_eq_false_iff]
          exact fun e => hm1 (toList_eq (e.trans (show [] = ByteArray.toList ⟨#[]⟩ by decide +kernel)))
        have SM := Lib.hid hm2
        clear KD LL hm1 hm2 hk MK
        generalize markB yk = m at hne TE LS SM ⊢
        go_wp2_with fail
        obtain ⟨G, hGG⟩ : ∃ G, wr.heap.size = G := ⟨_, rfl⟩
        have zG : (wr.alloc (.cells #[.int .i64 yk, .string yi, .int .i64 ys] 30)).heap.size = G + 1 := by simp [hGG]
        rw [hGG] at H7 hNr ⊢
        have hNG : N < G := by have h1 := bld_lt DD.out; rw [hGG] at h1; exact h1
        generalize wr.alloc (.cells #[.int .i64 yk, .string yi, .int .i64 ys] 30) = w7 at B7 D7 H7 zG ⊢
        generalize hQ : Exit.inBlock _ _ = QX
        have KE : ∀ U : World, Bld N N (textL (l.take (j + 1))) U → Below N w U → QX .normal { tmps := #[.slice (some ⟨b, o, none⟩) l.length c, undef, .string ⟨#[]⟩, .pointer (some ⟨N, 0, none⟩), undef, .pointer (some ⟨G, 0, none⟩), .string m, .slice (some ⟨b, o, none⟩) l.length c, .int .i64 (l.length : Int), .int .i64 (j : Int), .bool true, .pointer (some ⟨b, o + j * 3, none⟩), .agg #[.int .i64 yk, .string yi, .int .i64 ys], .pointer (some ⟨G, 0, none⟩), .int .i64 yk, .string m, .string m, .bool true, .string m, .pointer (some ⟨G, 1, none⟩), .pointer (some ⟨G, 1, none⟩), .string yi, .string (m ++ yi), .string (m ++ yi ++ ⟨#[32]⟩), .pointer (some ⟨G, 1, none⟩), .pointer (some ⟨G, 2, none⟩), .int .i64 ys, .string (numB ys), .string (m ++ yi ++ ⟨#[32]⟩ ++ numB ys), .string (m ++ yi ++ ⟨#[32]⟩ ++ numB ys ++ ⟨#[10]⟩), .tuple #[.int .i64 ((m ++ yi ++ ⟨#[32]⟩ ++ numB ys ++ ⟨#[10]⟩ : ByteArray).size : Int), .nilIface], u31, undef], defers := [] } U := by
          intro U hD hU
          rw [← hQ]
          clear hQ
          have D9 := Lib.hid hD; have B9 := Lib.hid hU
          clear hD hU
          simp only [Exit.inBlock, Exit.then]
          go_wp2
          go_roundw
          case rel => exact ⟨j + 1, by omega, by go_num, D9, B9⟩
          case measure => simp [intOf]; omega
        have H7D : w7.drew.heap[G]? = some (.cells #[.int .i64 yk, .string yi, .int .i64 ys] 30 (0, 0)) := H7.out
        have hG : G < w7.drew.heap.size := (Array.getElem?_eq_some_iff.1 H7D).1
        have z7 : N ≤ w7.heap.size := by omega
        have s0 : w7.drew.cell? ⟨G, 1, none⟩ = some (.string yi) ∧ w7.drew.cell? ⟨G, 2, none⟩ = some (.int .i64 ys) := ⟨cell_of_row w7.drew G 1 _ _ _ H7D, cell_of_row w7.drew G 2 _ _ _ H7D⟩
        have keep : ∀ U U' : World, (U.cell? ⟨G, 1, none⟩ = some (.string yi) ∧ U.cell? ⟨G, 2, none⟩ = some (.int .i64 ys)) → Below U.heap.size U U' → (U'.cell? ⟨G, 1, none⟩ = some (.string yi) ∧ U'.cell? ⟨G, 2, none⟩ = some (.int .i64 ys)) := fun U U' h hb => ⟨cell_hold2 h.1 hb, cell_hold2 h.2 hb⟩
        have IT := Lib.hid (itoa_is ys SC.out.1 SC.out.2 w7.drew ((HP.out.laterN HN.out B7.out).later (w := w7) (to_drew (Below.refl _ _))))
        have t1 := TU.out; have t2 := LS.out; have t3 := HT.out; have t4 := SM.out
        try dsimp only at t2
        have p1 : (⟨#[32]⟩ : ByteArray).size = 1 := rfl
        have p2 : (⟨#[10]⟩ : ByteArray).size = 1 := rfl
        have q1 : m.size + yi.size ≤ 9223372036854775807 := by omega
        have q2 : (m ++ yi).size + (⟨#[32]⟩ : ByteArray).size ≤ 9223372036854775807 := by rw [ba_size]; omega
        have q3 : (m ++ yi ++ ⟨#[32]⟩).size + (numB ys).size ≤ 9223372036854775807 := by rw [ba_size, ba_size]; omega
        have q4 : (m ++ yi ++ ⟨#[32]⟩ ++ numB ys).size + (⟨#[10]⟩ : ByteArray).size ≤ 9223372036854775807 := by rw [ba_size, ba_size, ba_size]; omega
        have q5 : (m ++ yi ++ ⟨#[32]⟩ ++ numB ys ++ ⟨#[10]⟩).size = (lineB ⟨yk, ⟨yi, ys⟩⟩).size := by rw [t2, ba_size, ba_size, ba_size, ba_size]; omega
        refine rg_last (by kernel_rfl) rfl (S := fun U => U.cell? ⟨G, 1, none⟩ = some (.string yi) ∧ U.cell? ⟨G, 2, none⟩ = some (.int .i64 ys)) ?_
        refine rgd_pure 0 (some 18) rfl rfl (.string m) (by kernel_rfl) (by kernel_rfl) (by kernel_rfl) (fun _ _ _ _ h => h) (by kernel_rfl) (fun w => by kernel_rfl) s0 ?_
        refine rgd_pure 1 (some 19) rfl rfl (.pointer (some ⟨G, 1, none⟩)) (by kernel_rfl) (by kernel_rfl) (by kernel_rfl) (fun _ _ _ _ h => h) (by kernel_rfl) (fun w => by kernel_rfl) s0 ?_
        refine rgd_pure 2 (some 20) rfl rfl (.pointer (some ⟨G, 1, none⟩)) (by kernel_rfl) (by kernel_rfl) (by kernel_rfl) (fun _ _ _ _ h => h) (by kernel_rfl) (fun w => by kernel_rfl) s0 ?_
        refine rgd_pureS 3 (some 21) rfl rfl (.string yi) (by kernel_rfl) (by kernel_rfl) (by kernel_rfl) (fun _ _ _ _ h => h) (by kernel_rfl) (fun U hU => exec_load1 _ _ rfl Tryd.underlying9 rfl ⟨G, 1, none⟩ _ (by kernel_rfl) hU.1) s0 ?_
        refine rgd_pure 4 (some 22) rfl rfl (.string (m ++ yi)) (by kernel_rfl) (by kernel_rfl) (by kernel_rfl) (fun _ _ _ _ h => h) (by kernel_rfl) (fun w => exec_addS _ _ _ _ rfl (m) (yi) (by kernel_rfl) (by kernel_rfl) q1 w) s0 ?_
        refine rgd_pure 5 (some 23) rfl rfl (.string (m ++ yi ++ ⟨#[32]⟩)) (by kernel_rfl) (by kernel_rfl) (by kernel_rfl) (fun _ _ _ _ h => h) (by kernel_rfl) (fun w => exec_addS _ _ _ _ rfl (m ++ yi) (⟨#[32]⟩) (by kernel_rfl) (by kernel_rfl) q2 w) s0 ?_
        refine rgd_pure 6 (some 24) rfl rfl (.pointer (some ⟨G, 1, none⟩)) (by kernel_rfl) (by kernel_rfl) (by kernel_rfl) (fun _ _ _ _ h => h) (by kernel_rfl) (fun w => by kernel_rfl) s0 ?_
        refine rgd_pure 7 (some 25) rfl rfl (.pointer (some ⟨G, 2, none⟩)) (by kernel_rfl) (by kernel_rfl) (by kernel_rfl) (fun _ _ _ _ h => h) (by kernel_rfl) (fun w => by kernel_rfl) s0 ?_
        refine rgd_pureS 8 (some 26) rfl rfl (.int .i64 ys) (by kernel_rfl) (by kernel_rfl) (by kernel_rfl) (fun _ _ _ _ h => h) (by kernel_rfl) (fun U hU => exec_load1 _ _ rfl Tryd.underlying3 rfl ⟨G, 2, none⟩ _ (by kernel_rfl) hU.2) s0 ?_
        refine rgd_call 9 (some 27) (by kernel_rfl) rfl rfl (by kernel_rfl) 32 (#[.int .i64 ys]) (by kernel_rfl) (IT.out) ?_
        rintro _ U1 ⟨rfl, b1⟩
        have s1 := keep _ _ s0 b1
        refine ⟨_, rfl, s1, ?_⟩
        refine rgd_pure 10 (some 28) rfl rfl (.string (m ++ yi ++ ⟨#[32]⟩ ++ numB ys)) (by kernel_rfl) (by kernel_rfl) (by kernel_rfl) (fun _ _ _ _ h => h) (by kernel_rfl) (fun w => exec_addS _ _ _ _ rfl (m ++ yi ++ ⟨#[32]⟩) (numB ys) (by kernel_rfl) (by kernel_rfl) q3 w) s1 ?_
        refine rgd_pure 11 (some 29) rfl rfl (.string (m ++ yi ++ ⟨#[32]⟩ ++ numB ys ++ ⟨#[10]⟩)) (by kernel_rfl) (by kernel_rfl) (by kernel_rfl) (fun _ _ _ _ h => h) (by kernel_rfl) (fun w => exec_addS _ _ _ _ rfl (m ++ yi ++ ⟨#[32]⟩ ++ numB ys) (⟨#[10]⟩) (by kernel_rfl) (by kernel_rfl) q4 w) s1 ?_
        have h1 : U1.heap[G]? = some (.cells #[.int .i64 yk, .string yi, .int .i64 ys] 30 (0, 0)) := (b1.block G hG).trans H7D
        refine rgd_call 12 (some 30) (by kernel_rfl) rfl rfl (by kernel_rfl) 31 (#[.pointer (some ⟨N, 0, none⟩), .string (m ++ yi ++ ⟨#[32]⟩ ++ numB ys ++ ⟨#[10]⟩)]) (by kernel_rfl) (bldWrite_is N N (textL (l.take j)) _ U1 (bld_later (w := w7.drew) (bld_later D7.out (to_drew (Below.refl _ _))) b1) (by omega) (by have := b1.size; have : w7.drew.heap.size = w7.heap.size := rfl; omega)) ?_
        rintro _ U2 ⟨rfl, d2, b2, o2⟩
        have h2 : U2.heap[G]? = some (.cells #[.int .i64 yk, .string yi, .int .i64 ys] 30 (0, 0)) := o2 G _ h1 (fun e => by cases e; omega) (fun c fz e => by cases e)
        have s2 : U2.cell? ⟨G, 1, none⟩ = some (.string yi) ∧ U2.cell? ⟨G, 2, none⟩ = some (.int .i64 ys) := ⟨cell_of_row U2 G 1 _ _ _ h2, cell_of_row U2 G 2 _ _ _ h2⟩
        refine ⟨_, rfl, s2, ?_⟩
        exact wpAnyH_done (by kernel_rfl) (Eq.mp (by kernel_rfl) (KE U2 (by rw [← TE.out]; exact d2) ((B7.out.trans ((from_drewT b1).mono z7)).trans b2))) _
      · have e1 : markB yk = ⟨#[]⟩ := mark_other (fun e => hk (.inl e)) (fun e => hk (.inr (.inl e))) (fun e => hk (.inr (.inr e)))
        have KE2 : Hid (textL (l.take j) = textL (l.take (j + 1))) := Lib.hid (by rw [KD.out]; unfold lineL; rw [if_pos e1, List.append_nil])
        rw [e1]
        clear KD TU MK e1 hk SC
        go_wp2
        go_roundw
        case rel => exact ⟨j + 1, by omega, by go_num, by rw [← KE2.out]; exact D7, B7⟩
        case measure => simp [intOf]; omega
    · obtain rfl : j = l.length := by omega
      have hjl' : ¬ ((l.length : Nat) : Int) < l.length := by omega
      rw [List.take_length] at DD
      have ST := Lib.hid (bldString_is N N (textL l) wr DD.out hNr)
      go_wp2_with fail
      refine ST.out.mono ?_
      rintro e w9 ⟨rfl, d9, b9, k9⟩
      have B9 := Lib.hid (BB.out.trans b9)
      clear ST d9 b9 k9
      dsimp only
      go_wp2
      go_ret
      exact ⟨rfl, by rw [HN.out]; exact B9.out⟩
end Go.Proofs.YtnjopndkommjnaaDoor
