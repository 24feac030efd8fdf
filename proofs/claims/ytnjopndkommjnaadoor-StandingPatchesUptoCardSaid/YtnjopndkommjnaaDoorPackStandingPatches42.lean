/- The statement StandingPatches, proved for every input that its row reads: part 42 of 54. -/
import Derived.Test.YtnjopndkommjnaaDoorPackStandingPatches41
import Derived.Test.YtnjopndkommjnaaDoorPackStandingPatches37
import Derived.Test.YtnjopndkommjnaaDoorPackStandingPatches28
/- standing.Patch: an answer behind changes. -/
namespace Go.Proofs.YtnjopndkommjnaaDoor
open Go Go.RowKit
set_option linter.unusedVariables false
set_option maxRecDepth 1000000

def RetPatch (w : World) (R : Option (List Ht)) (e : Ending) (w' : World) : Prop := match R with
  | none => e = .returned (.tuple #[.slice none 0 0, .int .i64 1]) ∧ Below w.heap.size w w'
  | some S => ∃ v, e = .returned (.tuple #[v, .int .i64 0]) ∧ w'.ownsRow w.heap.size 28 2 v S.length (hcl S) ∧ Below w.heap.size w w'
theorem stepN_len (l : List Ht) (c : Chg) : (stepN l c).length ≤ l.length + 1 := by
  unfold stepN
  rw [List.length_append]
  have := List.length_filter_le (fun h : Ht => decide (h.id ≠ c.hit.id)) l
  split <;> simp at * <;> omega
theorem patchN_ok {l : List Ht} {c : Chg} {cs : List Chg} (h : okC c.kind (decide (scoresOf l c.hit.id ≠ [])) = true) : patchN l (c :: cs) = patchN (stepN l c) cs := by rw [patchN, if_pos h]
theorem patchN_bad {l : List Ht} {c : Chg} {cs : List Chg} (h : okC c.kind (decide (scoresOf l c.hit.id ≠ [])) = false) : patchN l (c :: cs) = none := by rw [patchN, if_neg (by rw [h]; decide)]
theorem upd_del (l : List Ht) (i : ByteArray) (s : Int) : updT (scoresOf l) i [] = scoresOf (stepN l ⟨2, ⟨i, s⟩⟩) := by
  funext x
  rw [← stepT_is (fun _ => rfl)]
  unfold updT stepT
  simp
theorem upd_put (l : List Ht) (k : Int) (hk : k ≠ 2) (i : ByteArray) (s : Int) : updT (scoresOf l) i [s] = scoresOf (stepN l ⟨k, ⟨i, s⟩⟩) := by
  funext x
  rw [← stepT_is (fun _ => rfl)]
  unfold updT stepT
  simp [hk]
theorem own_one {w : World} {B : Nat} {s : Int} (hB : B ≤ w.heap.size) : (w.alloc (.cells #[.int .i64 s] 3)).ownsRow B 3 1 (.slice (some ⟨w.heap.size, 0, none⟩) 1 1) ([s] : List Int).length (icl [s]) :=
  ⟨rfl, .inr ⟨w.heap.size, 1, #[.int .i64 s], rfl, hB, heap_alloc_new w _, Nat.le_refl _, by unfold maxLen; omega, rfl, rfl⟩⟩
set_option maxHeartbeats 8000000 in
theorem patch_is (p q : Option Addr) (c d : Nat) (old : List Ht) (l : List Chg) (w : World) (h : HtsAt w p old) (hn : old.length ≤ 300) (h2 : ChgsAt w q l) (hn2 : l.length ≤ 300) :
    Calls Tryd.prog 14 #[.slice p old.length c, .slice q l.length d] w (RetPatch w (patchH old l)) := by
  have HO := Lib.hid h; have HM := Lib.hid h2
  clear h h2
  obtain ⟨RR, hRR⟩ : ∃ RR, patchH old l = RR := ⟨_, rfl⟩
  rw [hRR]
  have HR := Lib.hid hRR
  clear hRR
  go_enter Tryd.func14, Tryd.ntmps14
  go_wp2_with fail
  refine (named_is p c old w HO.out (by omega)).mono ?_
  rintro e w1 ⟨r, c1, es1, rfl, n1, hr1, b1⟩
  have N1 := Lib.hid n1; have B1 := Lib.hid b1
  clear n1 b1
  dsimp only
  go_wp2_with fail
  go_loopw [14] (fun i wr => ∃ (j c' : Nat) (es : List (ByteArray × Value × Nat)) (N : List Ht), j ≤ l.length ∧ i = .int .i64 j ∧ Hid (patchN old l = patchN N (l.drop j)) ∧ N.length ≤ old.length + j ∧ Hid (NmT wr r c' es (scoresOf N)) ∧ Hid (Below w.heap.size w wr)) (fun i _ => l.length - (intOf i).toNat)
  case atStart => exact ⟨0, c1, es1, old, Nat.zero_le _, rfl, Lib.hid rfl, Nat.le_refl _, N1, B1⟩
  case round =>
    obtain ⟨j, c', es, N, hj, rfl, HP, hNl, NT, BB⟩ := hrel
    clear N1 B1
    by_cases hjl : j < l.length
    · have hjl' : (j : Int) < l.length := by omega
      obtain ⟨b, o, rfl, hlt, hr⟩ := (HM.out.below BB.out).at hjl
      obtain ⟨k0, k1, k2⟩ := chg_cells hr
      have DK : Hid (l.drop j = l[j] :: l.drop (j + 1)) := Lib.hid (List.drop_eq_getElem_cons hjl)
      clear hr hlt
      obtain ⟨y, hy⟩ : ∃ y, l[j] = y := ⟨_, rfl⟩
      rw [hy] at k0 k1 k2 DK
      clear hy
      have HP : Hid (patchN old l = patchN N (y :: l.drop (j + 1))) := Lib.hid (by rw [HP.out, DK.out])
      obtain ⟨yk, yi, ys⟩ := y
      simp only at k0 k1 k2
      have b7 := below_alloc wr (.cells #[.int .i64 yk, .string yi, .int .i64 ys] 30)
      have B7 := Lib.hid (thenBelow BB.out b7)
      have N7 := Lib.hid (NT.out.later b7)
      have ZZ : (wr.alloc (.cells #[.int .i64 yk, .string yi, .int .i64 ys] 30)).heap.size = wr.heap.size + 1 := by simp
      have zr := NT.out.lt
      obtain ⟨v, hva, hvo, hvl⟩ := N7.out.look yi
      have VA := Lib.hid hva
      obtain ⟨p5, c5, rfl⟩ := own_slice hvo
      have lk := hvl _ (Below.refl _ _)
      have MK := Lib.hid (mark_is yk)
      have BX := Lib.hid (below_alloc (wr.alloc (.cells #[.int .i64 yk, .string yi, .int .i64 ys] 30)) (.cells #[.int .i64 ys] 3))
      have OX := Lib.hid (own_one (w := wr.alloc (.cells #[.int .i64 yk, .string yi, .int .i64 ys] 30)) (B := r + 1) (s := ys) (by rw [ZZ]; omega))
      clear hva hvo hvl b7 DK
      obtain ⟨n, hn5⟩ : ∃ n, (scoresOf N yi).length = n := ⟨_, rfl⟩
      rw [hn5] at lk VA
      by_cases hk : yk = 1 ∨ yk = 2 ∨ yk = 3
      · obtain ⟨hm1, hm2⟩ := mark_some hk
        have hne : (markB yk).toList.isEmpty = false := by
          rw [List.isEmpty_eq_false_iff]
          exact fun e => hm1 (toList_eq (e.trans (show [] = ByteArray.toList ⟨#[]⟩ by decide +kernel)))
        clear hm1 hm2
        by_cases h0 : n = 0
        · subst h0
          have hsc : scoresOf N yi = [] := List.eq_nil_of_length_eq_zero hn5
          clear hn5
          rcases hk with rfl | rfl | rfl
          · have hb : okC 1 (decide (scoresOf N yi ≠ [])) = true := by rw [hsc]; decide
            have HP2 : Hid (patchN old l = patchN (stepN N ⟨1, ⟨yi, ys⟩⟩) (l.drop (j + 1))) := Lib.hid (by rw [HP.out, patchN_ok hb])
            have SL := stepN_len N ⟨1, ⟨yi, ys⟩⟩
            obtain ⟨w9, es9, c9, hu, n9, g9⟩ := N7.out.upd VA.out ⟨BX.out.os, BX.out.tape, BX.out.output, BX.out.size, fun i hi _ => BX.out.block i hi⟩ (by simp) OX.out (.inr ⟨_, rfl, Nat.le_refl _⟩) (by simp [Value.ownBlock])
            rw [upd_put N 1 (by decide) yi ys] at n9
            have B9 := Lib.hid ((thenBelow B7.out BX.out).grown g9 (thenBelow B7.out BX.out).size (fun k hk => by cases hk; exact hr1))
            rw [ZZ] at hu
            have N9 := Lib.hid n9
            generalize markB 1 = m at hne MK
            clear hb VA BX OX N7 HP NT ZZ hsc n9 g9
            go_wp2_with fail
            refine (MK.out _).mono ?_
            rintro e w8 ⟨rfl, rfl⟩
            dsimp only
            go_wp2
            go_roundw
            case rel => exact ⟨j + 1, _, es9, _, by omega, by go_num, HP2, by omega, N9, B9⟩
            case measure => simp [intOf]; omega
          · have hb : okC 2 (decide (scoresOf N yi ≠ [])) = false := by rw [hsc]; decide
            have hf : RR = none := by rw [← HR.out]; unfold patchH; rw [HP.out, patchN_bad hb]; rfl
            subst hf
            generalize markB 2 = m at hne MK
            clear hb VA BX OX N7 HP NT ZZ hsc
            go_wp2_with fail
            refine (MK.out _).mono ?_
            rintro e w8 ⟨rfl, rfl⟩
            dsimp only
            go_wp2
            go_ret2
            exact ⟨rfl, B7.out⟩
          · have hb : okC 3 (decide (scoresOf N yi ≠ [])) = false := by rw [hsc]; decide
            have hf : RR = none := by rw [← HR.out]; unfold patchH; rw [HP.out, patchN_bad hb]; rfl
            subst hf
            generalize markB 3 = m at hne MK
            clear hb VA BX OX N7 HP NT ZZ hsc
            go_wp2_with fail
            refine (MK.out _).mono ?_
            rintro e w8 ⟨rfl, rfl⟩
            dsimp only
            go_wp2
            go_ret2
            exact ⟨rfl, B7.out⟩
        · have h0' : (0 : Int) < (n : Int) := by omega
          have h0n : 0 < n := by omega
          have h0'' : ¬ ((n : Int) = 0) := by omega
          have hsc : scoresOf N yi ≠ [] := fun e => h0 (by rw [← hn5, e]; rfl)
          clear hn5
          rcases hk with rfl | rfl | rfl
          · have hb : okC 1 (decide (scoresOf N yi ≠ [])) = false := by rw [decide_eq_true hsc]; decide
            have hf : RR = none := by rw [← HR.out]; unfold patchH; rw [HP.out, patchN_bad hb]; rfl
            subst hf
            generalize markB 1 = m at hne MK
            clear hb VA BX OX N7 HP NT ZZ hsc
            go_wp2_with fail
            refine (MK.out _).mono ?_
            rintro e w8 ⟨rfl, rfl⟩
            dsimp only
            go_wp2
            go_ret2
            exact ⟨rfl, B7.out⟩
          · have hb : okC 2 (decide (scoresOf N yi ≠ [])) = true := by rw [decide_eq_true hsc]; decide
            have HP2 : Hid (patchN old l = patchN (stepN N ⟨2, ⟨yi, ys⟩⟩) (l.drop (j + 1))) := Lib.hid (by rw [HP.out, patchN_ok hb])
            have SL := stepN_len N ⟨2, ⟨yi, ys⟩⟩
            obtain ⟨w9, es9, hdel, n9, g9⟩ := N7.out.del yi 0
            rw [upd_del N yi ys] at n9
            have B9 := Lib.hid (B7.out.grown g9 B7.out.size (fun k hk => by cases hk; exact hr1))
            have N9 := Lib.hid n9
            generalize markB 2 = m at hne MK
            clear hb VA BX OX N7 HP NT ZZ hsc n9 g9
            go_wp2_with fail
            refine (MK.out _).mono ?_
            rintro e w8 ⟨rfl, rfl⟩
            dsimp only
            go_wp2
            go_roundw
            case rel => exact ⟨j + 1, _, es9, _, by omega, by go_num, HP2, by omega, N9, B9⟩
            case measure => simp [intOf]; omega
          · have hb : okC 3 (decide (scoresOf N yi ≠ [])) = true := by rw [decide_eq_true hsc]; decide
            have HP2 : Hid (patchN old l = patchN (stepN N ⟨3, ⟨yi, ys⟩⟩) (l.drop (j + 1))) := Lib.hid (by rw [HP.out, patchN_ok hb])
            have SL := stepN_len N ⟨3, ⟨yi, ys⟩⟩
            obtain ⟨w9, es9, c9, hu, n9, g9⟩ := N7.out.upd VA.out ⟨BX.out.os, BX.out.tape, BX.out.output, BX.out.size, fun i hi _ => BX.out.block i hi⟩ (by simp) OX.out (.inr ⟨_, rfl, Nat.le_refl _⟩) (by simp [Value.ownBlock])
            rw [upd_put N 3 (by decide) yi ys] at n9
            have B9 := Lib.hid ((thenBelow B7.out BX.out).grown g9 (thenBelow B7.out BX.out).size (fun k hk => by cases hk; exact hr1))
            rw [ZZ] at hu
            have N9 := Lib.hid n9
            generalize markB 3 = m at hne MK
            clear hb VA BX OX N7 HP NT ZZ hsc n9 g9
            go_wp2_with fail
            refine (MK.out _).mono ?_
            rintro e w8 ⟨rfl, rfl⟩
            dsimp only
            go_wp2
            go_roundw
            case rel => exact ⟨j + 1, _, es9, _, by omega, by go_num, HP2, by omega, N9, B9⟩
            case measure => simp [intOf]; omega
      · have e1 : markB yk = ⟨#[]⟩ := mark_other (fun e => hk (.inl e)) (fun e => hk (.inr (.inl e))) (fun e => hk (.inr (.inr e)))
        have hb : okC yk (decide (scoresOf N yi ≠ [])) = false := by
          unfold okC
          have : (decide (1 ≤ yk) && decide (yk ≤ 3)) = false := by
            rw [Bool.eq_false_iff]
            simp only [ne_eq, Bool.and_eq_true, decide_eq_true_eq]
            omega
          rw [this, Bool.false_and]
        have hf : RR = none := by rw [← HR.out]; unfold patchH; rw [HP.out, patchN_bad hb]; rfl
        rw [e1] at MK
        subst hf
        clear hk e1 hb hn5 VA BX OX N7 HP NT ZZ
        go_wp2_with fail
        refine (MK.out _).mono ?_
        rintro e w8 ⟨rfl, rfl⟩
        dsimp only
        go_wp2
        go_ret2
        exact ⟨rfl, B7.out⟩
    · obtain rfl : j = l.length := by omega
      have hjl' : ¬ ((l.length : Nat) : Int) < l.length := by omega
      have e1 : RR = some (sortH N) := by rw [← HR.out]; unfold patchH; rw [HP.out, List.drop_length]; rfl
      have IO := Lib.hid (inOrder_is r c' es N wr NT.out (by omega))
      have E1 := Lib.hid e1
      clear e1
      go_wp2_with fail
      refine IO.out.mono ?_
      rintro e w9 ⟨v, rfl, o9, b9⟩
      have B9 := Lib.hid (thenBelow BB.out b9)
      have O9 := Lib.hid (own_base o9 BB.out.size)
      clear o9 b9 IO
      dsimp only
      go_wp2
      go_ret2
      rw [E1.out]
      exact ⟨v, rfl, O9.out, B9.out⟩
end Go.Proofs.YtnjopndkommjnaaDoor
