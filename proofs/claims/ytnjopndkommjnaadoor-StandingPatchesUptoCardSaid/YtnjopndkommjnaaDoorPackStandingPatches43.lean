/- The statement StandingPatches, proved for every input that its row reads: part 43 of 54. -/
import Derived.Test.YtnjopndkommjnaaDoorPackStandingPatches30
import Derived.Test.YtnjopndkommjnaaDoorPackStandingPatches36
import Derived.Test.YtnjopndkommjnaaDoorPackStandingPatches42
/- The document's Patch. -/
namespace Go.Proofs.YtnjopndkommjnaaDoor
open Go Go.RowKit
set_option linter.unusedVariables false
set_option maxRecDepth 1000000

def outL (N : List Ht) (i : ByteArray) : List Ht := N.filter fun h => decide (h.id ≠ i)
theorem outL_snoc (N : List Ht) (x : Ht) (i : ByteArray) : outL (N ++ [x]) i = outL N i ++ if x.id = i then [] else [x] := by
  unfold outL
  rw [List.filter_append]
  congr 1
  by_cases e : x.id = i <;> simp [e]
set_option maxHeartbeats 16000000 in
theorem refPatch_is (p q : Option Addr) (c d : Nat) (old : List Ht) (l : List Chg) (w : World) (h : HtsAt w p old) (hn : old.length ≤ 300) (h2 : ChgsAt w q l) (hn2 : l.length ≤ 300) :
    Calls Tryd.prog 15 #[.slice p old.length c, .slice q l.length d] w (RetPatch w (patchH old l)) := by
  have HO := Lib.hid h; have HM := Lib.hid h2
  clear h h2
  obtain ⟨RR, hRR⟩ : ∃ RR, patchH old l = RR := ⟨_, rfl⟩
  rw [hRR]
  have HR := Lib.hid hRR
  clear hRR
  go_enter Tryd.func15, Tryd.ntmps15
  go_wp2_with fail
  go_loopg [6, 17] l.length (fun gk v i wr => ∃ (j : Nat) (N : List Ht) (pv : Option Addr) (cv : Nat), j ≤ l.length ∧ gk = l.length - j ∧ v = .slice pv N.length cv ∧ i = .int .i64 j ∧ Hid (patchN old l = patchN N (l.drop j)) ∧ N.length ≤ old.length + j ∧ Hid (HtsAt wr pv N) ∧ Hid (Below w.heap.size w wr))
  case atStart => exact ⟨0, old, p, c, Nat.zero_le _, rfl, rfl, rfl, Lib.hid rfl, Nat.le_refl _, HO, Lib.hid (Below.refl _ _)⟩
  case round =>
    obtain ⟨j, N, pv, cv, hj, hgk, rfl, rfl, HP, hNl, HN, BB⟩ := hrel
    by_cases hjl : j < l.length
    · have hjl' : (j : Int) < l.length := by omega
      obtain ⟨b, o, rfl, hlt, hr⟩ := (HM.out.below BB.out).at hjl
      obtain ⟨k0, k1, k2⟩ := chg_cells hr
      have DK : Hid (l.drop j = l[j] :: l.drop (j + 1)) := Lib.hid (List.drop_eq_getElem_cons hjl)
      clear hr hlt
      obtain ⟨y, hy⟩ : ∃ y, l[j] = y := ⟨_, rfl⟩
      rw [hy] at k0 k1 k2 DK
      clear hy
      have HP : Hid (patchN old l = patchN N (y :: l.drop (j + 1))) := Lib.hid (by rw [HP.out, DK.out])
      obtain ⟨yk, yi, ys⟩ := y
      simp only at k0 k1 k2
      have b7 := below_alloc wr (.cells #[.int .i64 yk, .string yi, .int .i64 ys] 30)
      have B7 := Lib.hid (thenBelow BB.out b7)
      have N7 := Lib.hid (HN.out.below b7)
      have R7 : Hid ((wr.alloc (.cells #[.int .i64 yk, .string yi, .int .i64 ys] 30)).rangeAt wr.heap.size 0 [.int .i64 yk, .string yi, .int .i64 ys]) := Lib.hid (range_of_block (heap_alloc_new wr (.cells #[.int .i64 yk, .string yi, .int .i64 ys] 30)))
      have FI := Lib.hid (refFind_is pv cv N yi _ N7.out (by omega))
      clear b7 DK HN BB
      go_wp2_with fail
      obtain ⟨G, hG⟩ : ∃ G, wr.heap.size = G := ⟨_, rfl⟩
      rw [hG] at R7 ⊢
      generalize wr.alloc (.cells #[.int .i64 yk, .string yi, .int .i64 ys] 30) = w7 at B7 N7 R7 FI ⊢
      refine FI.out.mono ?_
      rintro e w8 ⟨fi, fs, rfl, -, b8⟩
      have b9 := below_alloc w8 (.cells #[.string fi, .int .i64 fs] 28)
      have B9 := Lib.hid (thenBelow B7.out (thenBelow b8 b9)); have N9 := Lib.hid (N7.out.below (thenBelow b8 b9)); have R9 := Lib.hid (range_below R7.out (thenBelow b8 b9))
      have m0 := R9.out 0 _ rfl
      simp only [Nat.add_zero] at m0
      clear k0 k1 k2 b8 b9 B7 N7 R7 FI hG
      obtain ⟨sc, hsc⟩ : ∃ sc, scoresOf N yi = sc := ⟨_, rfl⟩
      rw [hsc]
      have SCH := Lib.hid hsc
      clear hsc
      dsimp only
      by_cases hk : yk = 1 ∨ yk = 2 ∨ yk = 3
      · rcases hk with rfl | rfl | rfl
        · cases sc with
          | nil =>
            have hb : okC 1 (decide (scoresOf N yi ≠ [])) = true := by rw [SCH.out]; rfl
            have HP2 : Hid (patchN old l = patchN (stepN N ⟨1, ⟨yi, ys⟩⟩) (l.drop (j + 1))) := Lib.hid (by rw [HP.out, patchN_ok hb])
            have SL := stepN_len N ⟨1, ⟨yi, ys⟩⟩
            clear hb HP SCH
            go_wp2_with fail
            generalize w8.alloc (.cells #[.string fi, .int .i64 fs] 28) = w9 at B9 N9 R9 m0 ⊢
            go_loopg [11, 56] N.length (fun g2 v i wy => ∃ (k : Nat) (D : List Ht), k ≤ N.length ∧ g2 = N.length - k ∧ i = .int .i64 k ∧ Hid (D = outL (N.take k) yi) ∧ D.length ≤ k ∧ Hid (wy.ownsRow w9.heap.size 28 2 v D.length (hcl D)) ∧ Hid (Below w9.heap.size w9 wy))
            case atStart => exact ⟨0, [], Nat.zero_le _, rfl, rfl, Lib.hid rfl, Nat.le_refl _, Lib.hid ⟨rfl, .inl ⟨rfl, rfl⟩⟩, Lib.hid (Below.refl _ _)⟩
            case round =>
              obtain ⟨k, D, hkN, hg2, rfl, HD, hDk, OD, BY⟩ := hrel
              obtain ⟨p4, c4, rfl⟩ := own_slice OD.out
              by_cases hkl : k < N.length
              · have hkl' : (k : Int) < N.length := by omega
                obtain ⟨b2, o2, hpv, hlt, hr⟩ := (N9.out.below BY.out).at hkl
                subst hpv
                obtain ⟨n0, n1⟩ := ht_cells hr
                have TK : Hid (N.take (k + 1) = N.take k ++ [N[k]]) := Lib.hid (List.take_succ_eq_append_getElem hkl)
                clear hr hlt
                obtain ⟨x, hx⟩ : ∃ x, N[k] = x := ⟨_, rfl⟩
                rw [hx] at n0 n1 TK
                clear hx
                have KD : Hid (D ++ (if x.id = yi then [] else [x]) = outL (N.take (k + 1)) yi) := Lib.hid (by rw [TK.out, outL_snoc, ← HD.out])
                obtain ⟨xi, xs⟩ := x
                simp only at n0 n1 KD
                have b10 := below_alloc wr (.cells #[.string xi, .int .i64 xs] 28)
                have B10 := Lib.hid (thenBelow BY.out b10); have O10 := Lib.hid (own_later OD.out b10); have R10 := Lib.hid (range_below R9.out (thenBelow BY.out b10))
                have X10 : Hid ((wr.alloc (.cells #[.string xi, .int .i64 xs] 28)).rangeAt wr.heap.size 0 [.string xi, .int .i64 xs]) := Lib.hid (range_of_block (heap_alloc_new wr (.cells #[.string xi, .int .i64 xs] 28)))
                have q1 := R10.out 1 _ rfl
                simp only [Nat.zero_add] at q1
                have z10 := B10.out.size
                have ZZ10 : Hid ((wr.alloc (.cells #[.string xi, .int .i64 xs] 28)).heap.size = wr.heap.size + 1) := Lib.hid (by simp)
                clear b10 TK HD m0
                by_cases he : xi = yi
                · subst he
                  rw [if_pos rfl, List.append_nil] at KD
                  clear R10 X10 z10
                  go_wp2
                  go_roundg (N.length - (k + 1))
                  case measure => omega
                  case rel => exact ⟨k + 1, D, by omega, rfl, by go_num, KD, by omega, O10, B10⟩
                · rw [if_neg he] at KD
                  have hne : (xi.toList == yi.toList) = false := by
                    rw [beq_eq_false_iff_ne]
                    exact fun e => he (toList_eq e)
                  go_wp2_with (first | refine wpList_gload rfl _ rfl wr.heap.size 0 rfl _ X10.out _ Tryd.underlying28 rfl (sizeHt ⟨xi, xs⟩) ?_ | (at_builtin; refine wpList_hit _ rfl _ _ rfl w9.heap.size D.length _ _ rfl O10.out ⟨xi, xs⟩ (by rw [ZZ10.out]; rfl) (by omega) z10 ?_))
                  intro v9 w11 o9 g9
                  have B11 := Lib.hid (B10.out.grown g9 B10.out.size (fun k hk => (O10.out.lt k hk).1))
                  have O11 : Hid (w11.ownsRow w9.heap.size 28 2 v9 (D ++ [(⟨xi, xs⟩ : Ht)]).length (hcl (D ++ [(⟨xi, xs⟩ : Ht)]))) := Lib.hid (by rw [hcl_snoc, List.length_append]; exact o9)
                  clear o9 g9 R10 X10 z10 q1
                  go_wp2
                  go_roundg (N.length - (k + 1))
                  case measure => omega
                  case rel => exact ⟨k + 1, _, by omega, rfl, by go_num, KD, by rw [List.length_append]; simp; omega, O11, B11⟩
              · obtain rfl : k = N.length := by omega
                have hkl' : ¬ ((N.length : Nat) : Int) < N.length := by omega
                rw [List.take_length] at HD
                have B10 := Lib.hid (thenBelow B9.out BY.out)
                have R10 := Lib.hid (range_below R9.out BY.out)
                have q0 := R10.out 0 _ rfl; have q1 := R10.out 1 _ rfl; have q2 := R10.out 2 _ rfl
                simp only [Nat.add_zero, Nat.zero_add] at q0 q1 q2
                have ST : Hid (stepN N ⟨1, ⟨yi, ys⟩⟩ = D ++ [⟨yi, ys⟩]) := Lib.hid (by rw [HD.out]; unfold stepN outL; rw [if_neg (show ¬ ((1 : Int) = 2) by decide)])
                have R11 : Hid (wr.rangeAt G 1 [.string yi, .int .i64 ys]) := Lib.hid fun j u hu => by
                  match j, hu with
                  | 0, hu => simp at hu; subst hu; exact q1
                  | 1, hu => simp at hu; subst hu; exact q2
                rw [ST.out] at HP2
                have zz := BY.out.size
                clear m0 R10 HD
                go_wp2_with (first | refine wpList_gload rfl _ rfl G 1 rfl _ R11.out _ Tryd.underlying28 rfl (sizeHt ⟨yi, ys⟩) ?_ | (at_builtin; refine wpList_hit _ rfl _ _ rfl w9.heap.size D.length _ _ rfl OD.out ⟨yi, ys⟩ rfl (by omega) zz ?_))
                intro v12 w12 o12 g12
                have B12 := Lib.hid (B10.out.grown g12 B10.out.size (fun k hk => by have := (OD.out.lt k hk).1; have := B9.out.size; omega))
                have O12 : w12.ownsRow w9.heap.size 28 2 v12 (D ++ [(⟨yi, ys⟩ : Ht)]).length (hcl (D ++ [(⟨yi, ys⟩ : Ht)])) := by rw [hcl_snoc, List.length_append]; exact o12
                obtain ⟨p12, c12, rfl⟩ := own_slice O12
                have DA : Hid (HtsAt w12 p12 (D ++ [(⟨yi, ys⟩ : Ht)])) := Lib.hid (own_atHp O12)
                clear o12 g12 O12 R11 q0 q1 q2 BY B9 N9 R9 zz
                go_wp2
                go_roundg (l.length - (j + 1))
                case measure => omega
                case rel => exact ⟨j + 1, _, p12, c12, by omega, rfl, rfl, by go_num, HP2, by rw [List.length_append]; simp; omega, DA, B12⟩
          | cons s0 s1 =>
            have hb : okC 1 (decide (scoresOf N yi ≠ [])) = false := by rw [SCH.out]; rfl
            have hf : RR = none := by rw [← HR.out]; unfold patchH; rw [HP.out, patchN_bad hb]; rfl
            subst hf
            clear hb HP N9 R9 SCH
            go_wp2
            go_ret2
            exact ⟨rfl, B9.out⟩
        · cases sc with
          | nil =>
            have hb : okC 2 (decide (scoresOf N yi ≠ [])) = false := by rw [SCH.out]; rfl
            have hf : RR = none := by rw [← HR.out]; unfold patchH; rw [HP.out, patchN_bad hb]; rfl
            subst hf
            clear hb HP N9 R9 SCH
            go_wp2
            go_ret2
            exact ⟨rfl, B9.out⟩
          | cons s0 s1 =>
            have hb : okC 2 (decide (scoresOf N yi ≠ [])) = true := by rw [SCH.out]; rfl
            have HP2 : Hid (patchN old l = patchN (stepN N ⟨2, ⟨yi, ys⟩⟩) (l.drop (j + 1))) := Lib.hid (by rw [HP.out, patchN_ok hb])
            have SL := stepN_len N ⟨2, ⟨yi, ys⟩⟩
            clear hb HP SCH
            go_wp2_with fail
            generalize w8.alloc (.cells #[.string fi, .int .i64 fs] 28) = w9 at B9 N9 R9 m0 ⊢
            go_loopg [11, 56] N.length (fun g2 v i wy => ∃ (k : Nat) (D : List Ht), k ≤ N.length ∧ g2 = N.length - k ∧ i = .int .i64 k ∧ Hid (D = outL (N.take k) yi) ∧ D.length ≤ k ∧ Hid (wy.ownsRow w9.heap.size 28 2 v D.length (hcl D)) ∧ Hid (Below w9.heap.size w9 wy))
            case atStart => exact ⟨0, [], Nat.zero_le _, rfl, rfl, Lib.hid rfl, Nat.le_refl _, Lib.hid ⟨rfl, .inl ⟨rfl, rfl⟩⟩, Lib.hid (Below.refl _ _)⟩
            case round =>
              obtain ⟨k, D, hkN, hg2, rfl, HD, hDk, OD, BY⟩ := hrel
              obtain ⟨p4, c4, rfl⟩ := own_slice OD.out
              by_cases hkl : k < N.length
              · have hkl' : (k : Int) < N.length := by omega
                obtain ⟨b2, o2, hpv, hlt, hr⟩ := (N9.out.below BY.out).at hkl
                subst hpv
                obtain ⟨n0, n1⟩ := ht_cells hr
                have TK : Hid (N.take (k + 1) = N.take k ++ [N[k]]) := Lib.hid (List.take_succ_eq_append_getElem hkl)
                clear hr hlt
                obtain ⟨x, hx⟩ : ∃ x, N[k] = x := ⟨_, rfl⟩
                rw [hx] at n0 n1 TK
                clear hx
                have KD : Hid (D ++ (if x.id = yi then [] else [x]) = outL (N.take (k + 1)) yi) := Lib.hid (by rw [TK.out, outL_snoc, ← HD.out])
                obtain ⟨xi, xs⟩ := x
                simp only at n0 n1 KD
                have b10 := below_alloc wr (.cells #[.string xi, .int .i64 xs] 28)
                have B10 := Lib.hid (thenBelow BY.out b10); have O10 := Lib.hid (own_later OD.out b10); have R10 := Lib.hid (range_below R9.out (thenBelow BY.out b10))
                have X10 : Hid ((wr.alloc (.cells #[.string xi, .int .i64 xs] 28)).rangeAt wr.heap.size 0 [.string xi, .int .i64 xs]) := Lib.hid (range_of_block (heap_alloc_new wr (.cells #[.string xi, .int .i64 xs] 28)))
                have q1 := R10.out 1 _ rfl
                simp only [Nat.zero_add] at q1
                have z10 := B10.out.size
                have ZZ10 : Hid ((wr.alloc (.cells #[.string xi, .int .i64 xs] 28)).heap.size = wr.heap.size + 1) := Lib.hid (by simp)
                clear b10 TK HD m0
                by_cases he : xi = yi
                · subst he
                  rw [if_pos rfl, List.append_nil] at KD
                  clear R10 X10 z10
                  go_wp2
                  go_roundg (N.length - (k + 1))
                  case measure => omega
                  case rel => exact ⟨k + 1, D, by omega, rfl, by go_num, KD, by omega, O10, B10⟩
                · rw [if_neg he] at KD
                  have hne : (xi.toList == yi.toList) = false := by
                    rw [beq_eq_false_iff_ne]
                    exact fun e => he (toList_eq e)
                  go_wp2_with (first | refine wpList_gload rfl _ rfl wr.heap.size 0 rfl _ X10.out _ Tryd.underlying28 rfl (sizeHt ⟨xi, xs⟩) ?_ | (at_builtin; refine wpList_hit _ rfl _ _ rfl w9.heap.size D.length _ _ rfl O10.out ⟨xi, xs⟩ (by rw [ZZ10.out]; rfl) (by omega) z10 ?_))
                  intro v9 w11 o9 g9
                  have B11 := Lib.hid (B10.out.grown g9 B10.out.size (fun k hk => (O10.out.lt k hk).1))
                  have O11 : Hid (w11.ownsRow w9.heap.size 28 2 v9 (D ++ [(⟨xi, xs⟩ : Ht)]).length (hcl (D ++ [(⟨xi, xs⟩ : Ht)]))) := Lib.hid (by rw [hcl_snoc, List.length_append]; exact o9)
                  clear o9 g9 R10 X10 z10 q1
                  go_wp2
                  go_roundg (N.length - (k + 1))
                  case measure => omega
                  case rel => exact ⟨k + 1, _, by omega, rfl, by go_num, KD, by rw [List.length_append]; simp; omega, O11, B11⟩
              · obtain rfl : k = N.length := by omega
                have hkl' : ¬ ((N.length : Nat) : Int) < N.length := by omega
                rw [List.take_length] at HD
                have B10 := Lib.hid (thenBelow B9.out BY.out)
                have R10 := Lib.hid (range_below R9.out BY.out)
                have q0 := R10.out 0 _ rfl; have q1 := R10.out 1 _ rfl; have q2 := R10.out 2 _ rfl
                simp only [Nat.add_zero, Nat.zero_add] at q0 q1 q2
                have ST : Hid (stepN N ⟨2, ⟨yi, ys⟩⟩ = D) := Lib.hid (by rw [HD.out]; unfold stepN outL; rw [if_pos rfl, List.append_nil])
                obtain ⟨_, _, _, _, DA, _⟩ := own_atH OD.out
                have DA : Hid (HtsAt wr p4 D) := Lib.hid (own_atHp OD.out)
                rw [ST.out] at HP2
                clear m0 R10 BY B9 N9 R9 HD
                go_wp2
                go_roundg (l.length - (j + 1))
                case measure => omega
                case rel => exact ⟨j + 1, D, p4, c4, by omega, rfl, rfl, by go_num, HP2, by omega, DA, B10⟩
        · cases sc with
          | nil =>
            have hb : okC 3 (decide (scoresOf N yi ≠ [])) = false := by rw [SCH.out]; rfl
            have hf : RR = none := by rw [← HR.out]; unfold patchH; rw [HP.out, patchN_bad hb]; rfl
            subst hf
            clear hb HP N9 R9 SCH
            go_wp2
            go_ret2
            exact ⟨rfl, B9.out⟩
          | cons s0 s1 =>
            have hb : okC 3 (decide (scoresOf N yi ≠ [])) = true := by rw [SCH.out]; rfl
            have HP2 : Hid (patchN old l = patchN (stepN N ⟨3, ⟨yi, ys⟩⟩) (l.drop (j + 1))) := Lib.hid (by rw [HP.out, patchN_ok hb])
            have SL := stepN_len N ⟨3, ⟨yi, ys⟩⟩
            clear hb HP SCH
            go_wp2_with fail
            generalize w8.alloc (.cells #[.string fi, .int .i64 fs] 28) = w9 at B9 N9 R9 m0 ⊢
            go_loopg [11, 56] N.length (fun g2 v i wy => ∃ (k : Nat) (D : List Ht), k ≤ N.length ∧ g2 = N.length - k ∧ i = .int .i64 k ∧ Hid (D = outL (N.take k) yi) ∧ D.length ≤ k ∧ Hid (wy.ownsRow w9.heap.size 28 2 v D.length (hcl D)) ∧ Hid (Below w9.heap.size w9 wy))
            case atStart => exact ⟨0, [], Nat.zero_le _, rfl, rfl, Lib.hid rfl, Nat.le_refl _, Lib.hid ⟨rfl, .inl ⟨rfl, rfl⟩⟩, Lib.hid (Below.refl _ _)⟩
            case round =>
              obtain ⟨k, D, hkN, hg2, rfl, HD, hDk, OD, BY⟩ := hrel
              obtain ⟨p4, c4, rfl⟩ := own_slice OD.out
              by_cases hkl : k < N.length
              · have hkl' : (k : Int) < N.length := by omega
                obtain ⟨b2, o2, hpv, hlt, hr⟩ := (N9.out.below BY.out).at hkl
                subst hpv
                obtain ⟨n0, n1⟩ := ht_cells hr
                have TK : Hid (N.take (k + 1) = N.take k ++ [N[k]]) := Lib.hid (List.take_succ_eq_append_getElem hkl)
                clear hr hlt
                obtain ⟨x, hx⟩ : ∃ x, N[k] = x := ⟨_, rfl⟩
                rw [hx] at n0 n1 TK
                clear hx
                have KD : Hid (D ++ (if x.id = yi then [] else [x]) = outL (N.take (k + 1)) yi) := Lib.hid (by rw [TK.out, outL_snoc, ← HD.out])
                obtain ⟨xi, xs⟩ := x
                simp only at n0 n1 KD
                have b10 := below_alloc wr (.cells #[.string xi, .int .i64 xs] 28)
                have B10 := Lib.hid (thenBelow BY.out b10); have O10 := Lib.hid (own_later OD.out b10); have R10 := Lib.hid (range_below R9.out (thenBelow BY.out b10))
                have X10 : Hid ((wr.alloc (.cells #[.string xi, .int .i64 xs] 28)).rangeAt wr.heap.size 0 [.string xi, .int .i64 xs]) := Lib.hid (range_of_block (heap_alloc_new wr (.cells #[.string xi, .int .i64 xs] 28)))
                have q1 := R10.out 1 _ rfl
                simp only [Nat.zero_add] at q1
                have z10 := B10.out.size
                have ZZ10 : Hid ((wr.alloc (.cells #[.string xi, .int .i64 xs] 28)).heap.size = wr.heap.size + 1) := Lib.hid (by simp)
                clear b10 TK HD m0
                by_cases he : xi = yi
                · subst he
                  rw [if_pos rfl, List.append_nil] at KD
                  clear R10 X10 z10
                  go_wp2
                  go_roundg (N.length - (k + 1))
                  case measure => omega
                  case rel => exact ⟨k + 1, D, by omega, rfl, by go_num, KD, by omega, O10, B10⟩
                · rw [if_neg he] at KD
                  have hne : (xi.toList == yi.toList) = false := by
                    rw [beq_eq_false_iff_ne]
                    exact fun e => he (toList_eq e)
                  go_wp2_with (first | refine wpList_gload rfl _ rfl wr.heap.size 0 rfl _ X10.out _ Tryd.underlying28 rfl (sizeHt ⟨xi, xs⟩) ?_ | (at_builtin; refine wpList_hit _ rfl _ _ rfl w9.heap.size D.length _ _ rfl O10.out ⟨xi, xs⟩ (by rw [ZZ10.out]; rfl) (by omega) z10 ?_))
                  intro v9 w11 o9 g9
                  have B11 := Lib.hid (B10.out.grown g9 B10.out.size (fun k hk => (O10.out.lt k hk).1))
                  have O11 : Hid (w11.ownsRow w9.heap.size 28 2 v9 (D ++ [(⟨xi, xs⟩ : Ht)]).length (hcl (D ++ [(⟨xi, xs⟩ : Ht)]))) := Lib.hid (by rw [hcl_snoc, List.length_append]; exact o9)
                  clear o9 g9 R10 X10 z10 q1
                  go_wp2
                  go_roundg (N.length - (k + 1))
                  case measure => omega
                  case rel => exact ⟨k + 1, _, by omega, rfl, by go_num, KD, by rw [List.length_append]; simp; omega, O11, B11⟩
              · obtain rfl : k = N.length := by omega
                have hkl' : ¬ ((N.length : Nat) : Int) < N.length := by omega
                rw [List.take_length] at HD
                have B10 := Lib.hid (thenBelow B9.out BY.out)
                have R10 := Lib.hid (range_below R9.out BY.out)
                have q0 := R10.out 0 _ rfl; have q1 := R10.out 1 _ rfl; have q2 := R10.out 2 _ rfl
                simp only [Nat.add_zero, Nat.zero_add] at q0 q1 q2
                have ST : Hid (stepN N ⟨3, ⟨yi, ys⟩⟩ = D ++ [⟨yi, ys⟩]) := Lib.hid (by rw [HD.out]; unfold stepN outL; rw [if_neg (show ¬ ((3 : Int) = 2) by decide)])
                have R11 : Hid (wr.rangeAt G 1 [.string yi, .int .i64 ys]) := Lib.hid fun j u hu => by
                  match j, hu with
                  | 0, hu => simp at hu; subst hu; exact q1
                  | 1, hu => simp at hu; subst hu; exact q2
                rw [ST.out] at HP2
                have zz := BY.out.size
                clear m0 R10 HD
                go_wp2_with (first | refine wpList_gload rfl _ rfl G 1 rfl _ R11.out _ Tryd.underlying28 rfl (sizeHt ⟨yi, ys⟩) ?_ | (at_builtin; refine wpList_hit _ rfl _ _ rfl w9.heap.size D.length _ _ rfl OD.out ⟨yi, ys⟩ rfl (by omega) zz ?_))
                intro v12 w12 o12 g12
                have B12 := Lib.hid (B10.out.grown g12 B10.out.size (fun k hk => by have := (OD.out.lt k hk).1; have := B9.out.size; omega))
                have O12 : w12.ownsRow w9.heap.size 28 2 v12 (D ++ [(⟨yi, ys⟩ : Ht)]).length (hcl (D ++ [(⟨yi, ys⟩ : Ht)])) := by rw [hcl_snoc, List.length_append]; exact o12
                obtain ⟨p12, c12, rfl⟩ := own_slice O12
                have DA : Hid (HtsAt w12 p12 (D ++ [(⟨yi, ys⟩ : Ht)])) := Lib.hid (own_atHp O12)
                clear o12 g12 O12 R11 q0 q1 q2 BY B9 N9 R9 zz
                go_wp2
                go_roundg (l.length - (j + 1))
                case measure => omega
                case rel => exact ⟨j + 1, _, p12, c12, by omega, rfl, rfl, by go_num, HP2, by rw [List.length_append]; simp; omega, DA, B12⟩
      · have hb : okC yk (decide (scoresOf N yi ≠ [])) = false := by
          unfold okC
          have : (decide (1 ≤ yk) && decide (yk ≤ 3)) = false := by
            rw [Bool.eq_false_iff]
            simp only [ne_eq, Bool.and_eq_true, decide_eq_true_eq]
            omega
          rw [this, Bool.false_and]
        have hf : RR = none := by rw [← HR.out]; unfold patchH; rw [HP.out, patchN_bad hb]; rfl
        subst hf
        clear hb HP N9 R9 SCH
        by_cases h1 : yk < 1
        · clear hk
          go_wp2
          go_ret2
          exact ⟨rfl, B9.out⟩
        · have h3 : 3 < yk := by omega
          clear hk
          go_wp2
          go_ret2
          exact ⟨rfl, B9.out⟩
    · obtain rfl : j = l.length := by omega
      have hjl' : ¬ ((l.length : Nat) : Int) < l.length := by omega
      have e1 : RR = some (sortH N) := by rw [← HR.out]; unfold patchH; rw [HP.out, List.drop_length]; rfl
      have E1 := Lib.hid e1
      have SO := Lib.hid (refSort_is pv cv N wr HN.out (by omega))
      clear e1
      go_wp2_with fail
      refine SO.out.mono ?_
      rintro e w9 ⟨v, rfl, o9, b9⟩
      have B9 := Lib.hid (thenBelow BB.out b9)
      have O9 := Lib.hid (own_base o9 BB.out.size)
      clear o9 b9 SO
      dsimp only
      go_wp2
      go_ret2
      rw [E1.out]
      exact ⟨v, rfl, O9.out, B9.out⟩
end Go.Proofs.YtnjopndkommjnaaDoor
