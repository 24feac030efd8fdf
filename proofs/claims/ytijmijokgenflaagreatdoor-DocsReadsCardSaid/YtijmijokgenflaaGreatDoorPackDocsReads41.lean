/- The statement DocsReads, proved for every input that its row reads: part 41 of 54. -/
import Derived.Test.YtijmijokgenflaaGreatDoorPackDocsReads19
import Derived.Test.YtijmijokgenflaaGreatDoorPackDocsReads40
/- The document's names and texts. -/
namespace Go.Proofs.YtijmijokgenflaaGreatDoor
open Go Go.RowKit
set_option linter.unusedVariables false
set_option maxRecDepth 1000000

set_option maxHeartbeats 4000000 in
theorem refDocName_is (s : ByteArray) (w : World) : Calls Tryz.prog 66 #[.string s] w fun e w' => e = .returned (.bool (nameB s)) ∧ w = w' := by
  obtain ⟨b, hb⟩ : ∃ b, b = nameB s := ⟨_, rfl⟩
  rw [← hb]
  have HB := Lib.hid hb
  clear hb
  by_cases h1 : s.size < 1
  · have h1' : (s.size : Int) < 1 := by omega
    go_enter Tryz.func66, Tryz.ntmps66
    go_wp2
    go_ret
    exact ⟨ret_bool (by rw [HB.out, name_len (.inl h1)]), rfl⟩
  · have h1' : ¬ (s.size : Int) < 1 := by omega
    by_cases h2 : 12 < s.size
    · have h2' : (s.size : Int) > 12 := by omega
      go_enter Tryz.func66, Tryz.ntmps66
      go_wp2
      go_ret
      exact ⟨ret_bool (by rw [HB.out, name_len (.inr h2)]), rfl⟩
    · have h2' : ¬ (s.size : Int) > 12 := by omega
      go_enter Tryz.func66, Tryz.ntmps66
      go_wp2
      go_loop [15] (fun i => ∃ k : Nat, k ≤ s.size ∧ i = .int .i64 k ∧ ∀ i, i < k → inN (Utf.gt s i) = true) (fun i => s.size - (intOf i).toNat)
      case atStart => exact ⟨0, Nat.zero_le _, rfl, fun i hi => by omega⟩
      case round =>
        obtain ⟨k, hk, rfl, hall⟩ := hrel
        have HA := Lib.hid hall
        clear hall
        by_cases hks : k < s.size
        · have hks' : (k : Int) < s.size := by omega
          have hg := Utf.gt_at s k hks
          have HI : Hid (∀ i, i < k + 1 → inN (Utf.gt s k) = true → inN (Utf.gt s i) = true) := Lib.hid fun i hi h => by
            rcases Nat.lt_or_ge i k with h3 | h3
            · exact HA.out i h3
            · obtain rfl : i = k := by omega
              exact h
          have NO : Hid (inN (Utf.gt s k) = false → nameB s = false) := Lib.hid fun h => name_no hks h
          generalize Utf.gt s k = c at hg HI NO
          have key : (((c : Int) < 45 ∧ ((c : Int) == 45) = false) ∧ inN c = false) ∨ (((c : Int) = 45 ∧ ((c : Int) == 45) = true) ∧ inN c = true) ∨ ((45 < (c : Int) ∧ (c : Int) < 48 ∧ ((c : Int) == 45) = false) ∧ inN c = false) ∨ ((48 ≤ (c : Int) ∧ (c : Int) ≤ 57) ∧ inN c = true) ∨ ((57 < (c : Int) ∧ (c : Int) < 97 ∧ ((c : Int) == 45) = false ∧ decide ((c : Int) ≤ 57) = false) ∧ inN c = false) ∨ ((97 ≤ (c : Int) ∧ (c : Int) ≤ 122) ∧ inN c = true) ∨ ((122 < (c : Int) ∧ ((c : Int) == 45) = false ∧ decide ((c : Int) ≤ 57) = false ∧ decide ((c : Int) ≤ 122) = false) ∧ inN c = false) := by
            unfold inN
            simp only [decide_eq_true_eq, decide_eq_false_iff_not, beq_eq_false_iff_ne, beq_iff_eq, ne_eq]
            omega
          generalize inN c = r at HI NO key
          rcases key with ⟨⟨q1, q2⟩, rfl⟩ | ⟨⟨q1, q2⟩, rfl⟩ | ⟨⟨q1, q2, q3⟩, rfl⟩ | ⟨⟨q1, q2⟩, rfl⟩ | ⟨⟨q1, q2, q3, q4⟩, rfl⟩ | ⟨⟨q1, q2⟩, rfl⟩ | ⟨⟨q1, q2, q3, q4⟩, rfl⟩
          all_goals
            go_wp2
            first
              | (go_round
                 case rel => exact ⟨k + 1, by omega, by go_num, fun i hi => HI.out i hi (by first | exact rfl | trivial)⟩
                 case measure => simp [intOf]; omega)
              | (go_ret
                 exact ⟨ret_bool (by first | exact (HB.out.trans (NO.out (by first | exact rfl | trivial))) | exact (HB.out.trans (NO.out (by first | exact rfl | trivial))).symm), rfl⟩)
        · have hks' : ¬ (k : Int) < s.size := by omega
          go_wp2
          go_ret
          exact ⟨ret_bool (by rw [HB.out, name_yes (by omega) (by omega) (fun i hi => HA.out i (by omega))]), rfl⟩
set_option maxHeartbeats 1000000 in
theorem refDocText_is (f : Int) (s : ByteArray) (w : World) : Calls Tryz.prog 67 #[.int .i64 f, .string s] w (Check1 w (txtE f s)) := by
  obtain ⟨x, hx⟩ : ∃ x, x = txtE f s := ⟨_, rfl⟩
  rw [← hx]
  have UV := Lib.hid (fun h160 : s.size ≤ 160 => utfRefValid_is s w (by omega))
  have key : (f < 0 ∧ x = 1) ∨ ((¬ f < 0 ∧ f > 4) ∧ x = 1) ∨ (f = 0 ∧ s.size ≠ 0 ∧ x = 1) ∨ ((¬ f < 0 ∧ ¬ f > 4) ∧ (f ≠ 0 ∨ s.size = 0) ∧ ((160 < s.size ∧ x = 5) ∨ (¬ 160 < s.size ∧ Utf.valid s = true ∧ x = 0) ∨ (¬ 160 < s.size ∧ Utf.valid s = false ∧ x = 7))) := by
    rw [hx]; unfold txtE
    by_cases c1 : f < 0
    · exact .inl ⟨c1, by rw [if_pos (.inl c1)]⟩
    by_cases c2 : f > 4
    · exact .inr (.inl ⟨⟨c1, c2⟩, by rw [if_pos (.inr (.inl (by omega)))]⟩)
    by_cases c3 : f = 0 ∧ s.size ≠ 0
    · exact .inr (.inr (.inl ⟨c3.1, c3.2, by rw [if_pos (.inr (.inr c3))]⟩))
    · refine .inr (.inr (.inr ⟨⟨c1, c2⟩, by omega, ?_⟩))
      rw [if_neg (by omega)]
      by_cases c4 : 160 < s.size
      · exact .inl ⟨c4, by rw [if_pos c4]⟩
      · rw [if_neg c4]
        cases e : Utf.valid s
        · exact .inr (.inr ⟨c4, rfl, rfl⟩)
        · exact .inr (.inl ⟨c4, rfl, rfl⟩)
  clear hx
  rcases key with ⟨h1, rfl⟩ | ⟨⟨h1, h2⟩, rfl⟩ | ⟨rfl, h1, rfl⟩ | ⟨⟨h1, h2⟩, h3, h4⟩
  · go_enter Tryz.func67, Tryz.ntmps67
    go_wp2
    go_ret
    exact ⟨rfl, Below.refl _ _⟩
  · go_enter Tryz.func67, Tryz.ntmps67
    go_wp2
    go_ret
    exact ⟨rfl, Below.refl _ _⟩
  · have f1 : (s.size : Int) > 0 := by omega
    go_enter Tryz.func67, Tryz.ntmps67
    go_wp2
    go_ret
    exact ⟨rfl, Below.refl _ _⟩
  · have f0 : f ≠ 0 ∨ (f = 0 ∧ ¬ (s.size : Int) > 0) := by omega
    clear h3
    rcases f0 with f0 | ⟨rfl, f0⟩
    all_goals
      rcases h4 with ⟨c1, rfl⟩ | ⟨c1, c2, rfl⟩ | ⟨c1, c2, rfl⟩
      · have c1' : (s.size : Int) > 160 := by omega
        go_enter Tryz.func67, Tryz.ntmps67
        go_wp2
        all_goals
          go_ret
          exact ⟨rfl, Below.refl _ _⟩
      all_goals
        have c1' : ¬ (s.size : Int) > 160 := by omega
        rw [c2] at UV
        go_enter Tryz.func67, Tryz.ntmps67
        go_wp2_with fail
        refine (UV.out (by omega)).mono ?_
        rintro e w' ⟨rfl, hb⟩
        have BB := Lib.hid hb
        clear hb
        go_wp2
        go_ret
        exact ⟨rfl, BB.out⟩
set_option maxRecDepth 1000000

theorem ev_dot {w : World} {b o : Nat} {x : EvP} (h : w.rangeAt b o x.cells) : w.rangeAt b o [.int .i64 x.e.rep, .int .i64 x.e.n] := fun j v hv => by
  match j, hv with
  | 0, hv => exact h 0 v hv
  | 1, hv => exact h 1 v hv
  | j + 2, hv => simp at hv
set_option maxHeartbeats 8000000 in
theorem refCheck_is (x : EvP) (w : World) (hx : x.Ok w) :
    Calls Tryz.prog 46 #[.agg x.cells.toArray] w (Check1 w (chk x.e)) := by
  have HX := Lib.hid hx
  clear hx
  obtain ⟨X, hX⟩ : ∃ X, chk x.e = X := ⟨_, rfl⟩
  rw [hX]
  have HC := Lib.hid hX
  clear hX
  go_enter Tryz.func46, Tryz.ntmps46
  go_wp2_with (refine wpList_gbox rfl _ rfl x.cells.toArray rfl ?_)
  intro g1 w1 lg1 hg1 hb1
  have B1 := Lib.hid hb1
  have R1 := Lib.hid (range_of_block hg1)
  have R1 : Hid (w1.rangeAt g1 0 x.cells) := Lib.hid (by have := R1.out; simpa using this)
  have OKX : Hid (∀ W, Below w.heap.size w W → DRow W x.p x.e.gone) := Lib.hid fun W hW => HX.out.1.below hW
  clear hg1 hb1 HX
  obtain ⟨⟨r, n, t, kd, d, fl, tx, gn⟩, gp, gc⟩ := x
  simp only at HC OKX
  obtain ⟨c0, c1, c2, c3, c4, c5, c6, c7⟩ := ev_cells R1.out
  simp only [Nat.zero_add] at c0 c1 c2 c3 c4 c5 c6 c7
  go_wp2_with fail
  refine (refValid_is r n _).mono ?_
  rintro e w2 ⟨rfl, hb2⟩
  have B2 := Lib.hid (thenBelow B1.out hb2)
  have R2 := Lib.hid (range_below R1.out hb2)
  clear c0 c1 c2 c3 c4 c5 c6 c7 hb2
  obtain ⟨c0, c1, c2, c3, c4, c5, c6, c7⟩ := ev_cells R2.out
  simp only [Nat.zero_add] at c0 c1 c2 c3 c4 c5 c6 c7
  have NO : Hid (¬ (vldB r n = true ∧ (1 ≤ t ∧ t ≤ 1099511627776) ∧ nameB d = true ∧ goB gn (r, n) = true) → X = 1) := Lib.hid fun h => HC.out.symm.trans (chk_no (head_no h))
  have EL : Hid (kd ≠ 1 → ¬ (kd = 2 ∧ fl = 0 ∧ tx.size = 0) → X = 1) := Lib.hid fun h h2 => HC.out.symm.trans (chk_else h h2)
  cases hv : vldB r n with
  | false =>
    have hf := NO.out (by rw [hv]; simp)
    subst hf
    go_wp2
    go_ret
    exact ⟨rfl, B2.out⟩
  | true =>
    have HV := Lib.hid hv
    clear hv
    by_cases ht1 : t < 1
    · have hf := NO.out (by omega)
      subst hf
      go_wp2
      go_ret
      exact ⟨rfl, B2.out⟩
    · by_cases ht2 : t > 1099511627776
      · have hf := NO.out (by omega)
        subst hf
        go_wp2
        go_ret
        exact ⟨rfl, B2.out⟩
      · have DN := Lib.hid (refDocName_is d w2)
        go_wp2_with fail
        refine DN.out.mono ?_
        rintro e w3 ⟨rfl, rfl⟩
        clear DN
        cases hd : nameB d with
        | false =>
          have hf := NO.out (by rw [hd]; simp)
          subst hf
          clear hd
          go_wp2
          go_ret
          exact ⟨rfl, B2.out⟩
        | true =>
          have HD := Lib.hid hd
          clear hd
          obtain ⟨m, hm⟩ : ∃ m, gn.length = m := ⟨_, rfl⟩
          by_cases h120 : m > 120
          · have h120' : (m : Int) > 120 := by omega
            have hf := NO.out (by rw [go_long (by omega)]; simp)
            subst hf
            rw [hm] at c7
            clear hm
            go_wp2
            go_ret
            exact ⟨rfl, B2.out⟩
          · have h120' : ¬ (m : Int) > 120 := by omega
            have HN := Lib.hid hm
            rw [hm] at c7
            clear hm
            have GB : Hid (goB gn (r, n) = false → X = 1) := Lib.hid fun h => NO.out (by rw [h]; simp)
            clear NO
            go_wp2
            clear c0 c1 c2 c3 c4 c5 c6 c7
            go_loopw [34] (fun i wr => ∃ k : Nat, k ≤ m ∧ i = .int .i64 k ∧ (∀ i (h : i < gn.length), i < k → vl gn[i] = true ∧ gn[i] ≠ (r, n)) ∧ (∀ i (h : i + 1 < gn.length), i + 1 < k → ltD gn[i] gn[i + 1] = true) ∧ Below w2.heap.size w2 wr) (fun i _ => m - (intOf i).toNat)
            case atStart => exact ⟨0, Nat.zero_le _, rfl, fun i _ h => by omega, fun i _ h => by omega, Below.refl _ _⟩
            case round =>
              obtain ⟨k, hk, rfl, hall, hord, hb⟩ := hrel
              have BB := Lib.hid hb; have HA := Lib.hid hall; have HO := Lib.hid hord
              clear hall hord hb
              by_cases hkl : k < m
              · have hkl' : (k : Int) < m := by omega
                have hk1 : k < gn.length := by rw [HN.out]; exact hkl
                have hr := thenBelow B2.out BB.out
                have HR := Lib.hid hr
                obtain ⟨b1, o1, hpe, q1⟩ := drow_at (OKX.out wr hr) hk1
                subst hpe
                have d0 := q1 0 _ rfl
                have d1 := q1 1 _ rfl
                have Q1 := Lib.hid q1
                clear q1 hr
                obtain ⟨⟨x1, x2⟩, hx⟩ : ∃ x, gn[k] = x := ⟨_, rfl⟩
                have HX := Lib.hid hx
                rw [hx] at Q1 d0 d1
                clear hx
                simp only [Nat.add_zero] at Q1 d0 d1
                have n6 := heap_alloc_new wr (.cells #[.int .i64 x1, .int .i64 x2] 37)
                have b6 := below_alloc wr (.cells #[.int .i64 x1, .int .i64 x2] 37)
                have N6 := Lib.hid (show (wr.alloc (.cells #[.int .i64 x1, .int .i64 x2] 37)).drew.rangeAt wr.heap.size 0 [.int .i64 x1, .int .i64 x2] from range_of_block n6)
                have Y6 := Lib.hid (range_below R2.out (to_drew (thenBelow BB.out b6)))
                have B6 := Lib.hid (to_drew (thenBelow BB.out b6))
                have L6 := Lib.hid (OKX.out _ (to_drew (thenBelow HR.out b6)))
                have SZ : ∀ z1 z2 : Int, (Tryz.prog.info? 37).map (·.size) = some [Value.int .i64 z1, .int .i64 z2].length := fun z1 z2 => by kernel_rfl
                clear n6 b6
                go_wp2_with fail
                rename_i K2 hK2
                generalize hW : wr.alloc (.cells #[.int .i64 x1, .int .i64 x2] 37) = W6 at N6 Y6 B6 L6 ⊢
                generalize hG : wr.heap.size = G6 at N6 ⊢
                clear hW hG d0 d1
                cases hv : vldB x1 x2 with
                | false =>
                  have VA := Lib.hid (fun W : World => refValid_is x1 x2 W)
                  rw [hv] at VA
                  have hf := GB.out (go_bad hk1 (.inl (by rw [HX.out]; exact hv)))
                  subst hf
                  clear hv
                  refine rg_calm (by kernel_rfl) rfl (S := fun U => U.rangeAt G6 0 [.int .i64 x1, .int .i64 x2] ∧ U.rangeAt g1 0 (EvP.cells ⟨⟨r, n, t, kd, d, fl, tx, gn⟩, some ⟨b1, o1, none⟩, gc⟩) ∧ U.rangeAt b1 0 [] ∧ Below w2.heap.size w2 U) ?_
                  have m0 := And.intro N6.out (And.intro Y6.out (And.intro (range_nil W6 b1 0) B6.out))
                  have keep : ∀ U U' : World, Below U.heap.size U U' → U.rangeAt G6 0 [.int .i64 x1, .int .i64 x2] ∧ U.rangeAt g1 0 (EvP.cells ⟨⟨r, n, t, kd, d, fl, tx, gn⟩, some ⟨b1, o1, none⟩, gc⟩) ∧ U.rangeAt b1 0 [] ∧ Below w2.heap.size w2 U → U'.rangeAt G6 0 [.int .i64 x1, .int .i64 x2] ∧ U'.rangeAt g1 0 (EvP.cells ⟨⟨r, n, t, kd, d, fl, tx, gn⟩, some ⟨b1, o1, none⟩, gc⟩) ∧ U'.rangeAt b1 0 [] ∧ Below w2.heap.size w2 U' := fun U U' hb h => ⟨range_below h.1 hb, range_below h.2.1 hb, range_below h.2.2.1 hb, thenBelow h.2.2.2 hb⟩
                  refine rgd_pureS 0 (some 39) rfl rfl (.agg #[.int .i64 x1, .int .i64 x2]) (by kernel_rfl) (by kernel_rfl) (by kernel_rfl) (fun _ _ _ _ h => h) (by kernel_rfl) (fun U hU => exec_gload 37 _ rfl G6 (0) (by kernel_rfl) _ hU.1 Tryz.underlying37 rfl (SZ x1 x2)) m0 ?_
                  refine rgd_call 1 (some 40) (by kernel_rfl) rfl rfl (by kernel_rfl) 65 (#[.agg (dcs x1 x2)]) (by kernel_rfl) (VA.out _) ?_
                  rintro _ U1 ⟨rfl, bU1⟩
                  have m1 := keep _ _ bU1 m0
                  refine ⟨_, rfl, m1, ?_⟩
                  refine rgd_pure 2 (some 41) rfl rfl (.bool true) (by kernel_rfl) (by kernel_rfl) (by kernel_rfl) (fun _ _ _ _ h => h) (by kernel_rfl) (fun w => by kernel_rfl) m1 ?_
                  refine rgd_pure 3 (some 42) rfl rfl (.bool true) (by kernel_rfl) (by kernel_rfl) (by kernel_rfl) (fun _ _ _ _ h => h) (by kernel_rfl) (fun w => by kernel_rfl) m1 ?_
                  refine rgd_skip 4 (some 43) rfl rfl (by kernel_rfl) (by kernel_rfl) (by kernel_rfl) (fun _ _ _ _ h => h) (by kernel_rfl) m1 ?_
                  refine rgd_skip 5 (some 44) rfl rfl (by kernel_rfl) (by kernel_rfl) (by kernel_rfl) (fun _ _ _ _ h => h) (by kernel_rfl) m1 ?_
                  refine rgd_skip 6 (some 45) rfl rfl (by kernel_rfl) (by kernel_rfl) (by kernel_rfl) (fun _ _ _ _ h => h) (by kernel_rfl) m1 ?_
                  refine rgd_skip 7 (some 46) rfl rfl (by kernel_rfl) (by kernel_rfl) (by kernel_rfl) (fun _ _ _ _ h => h) (by kernel_rfl) m1 ?_
                  refine rgd_pure 8 (some 47) rfl rfl (.bool true) (by kernel_rfl) (by kernel_rfl) (by kernel_rfl) (fun _ _ _ _ h => h) (by kernel_rfl) (fun w => by kernel_rfl) m1 ?_
                  refine rgd_pure 9 (some 48) rfl rfl (.bool true) (by kernel_rfl) (by kernel_rfl) (by kernel_rfl) (fun _ _ _ _ h => h) (by kernel_rfl) (fun w => by kernel_rfl) m1 ?_
                  refine rgd_skip 10 (some 49) rfl rfl (by kernel_rfl) (by kernel_rfl) (by kernel_rfl) (fun _ _ _ _ h => h) (by kernel_rfl) m1 ?_
                  refine rgd_skip 11 (some 50) rfl rfl (by kernel_rfl) (by kernel_rfl) (by kernel_rfl) (fun _ _ _ _ h => h) (by kernel_rfl) m1 ?_
                  refine rgd_skip 12 (some 51) rfl rfl (by kernel_rfl) (by kernel_rfl) (by kernel_rfl) (fun _ _ _ _ h => h) (by kernel_rfl) m1 ?_
                  refine rgd_skip 13 (some 52) rfl rfl (by kernel_rfl) (by kernel_rfl) (by kernel_rfl) (fun _ _ _ _ h => h) (by kernel_rfl) m1 ?_
                  refine rgd_skip 14 (some 53) rfl rfl (by kernel_rfl) (by kernel_rfl) (by kernel_rfl) (fun _ _ _ _ h => h) (by kernel_rfl) m1 ?_
                  refine rgd_skip 15 (some 54) rfl rfl (by kernel_rfl) (by kernel_rfl) (by kernel_rfl) (fun _ _ _ _ h => h) (by kernel_rfl) m1 ?_
                  refine rgd_skip 16 (some 55) rfl rfl (by kernel_rfl) (by kernel_rfl) (by kernel_rfl) (fun _ _ _ _ h => h) (by kernel_rfl) m1 ?_
                  refine rgd_skip 17 (some 56) rfl rfl (by kernel_rfl) (by kernel_rfl) (by kernel_rfl) (fun _ _ _ _ h => h) (by kernel_rfl) m1 ?_
                  refine rgd_skip 18 (some 57) rfl rfl (by kernel_rfl) (by kernel_rfl) (by kernel_rfl) (fun _ _ _ _ h => h) (by kernel_rfl) m1 ?_
                  refine rgd_skip 19 (some 58) rfl rfl (by kernel_rfl) (by kernel_rfl) (by kernel_rfl) (fun _ _ _ _ h => h) (by kernel_rfl) m1 ?_
                  refine rgd_skip 20 (some 59) rfl rfl (by kernel_rfl) (by kernel_rfl) (by kernel_rfl) (fun _ _ _ _ h => h) (by kernel_rfl) m1 ?_
                  refine rgd_skip 21 (some 60) rfl rfl (by kernel_rfl) (by kernel_rfl) (by kernel_rfl) (fun _ _ _ _ h => h) (by kernel_rfl) m1 ?_
                  refine rgd_skip 22 (some 61) rfl rfl (by kernel_rfl) (by kernel_rfl) (by kernel_rfl) (fun _ _ _ _ h => h) (by kernel_rfl) m1 ?_
                  refine rgd_pure 23 (some 62) rfl rfl (.bool true) (by kernel_rfl) (by kernel_rfl) (by kernel_rfl) (fun _ _ _ _ h => h) (by kernel_rfl) (fun w => by kernel_rfl) m1 ?_
                  have BU := Lib.hid m1.2.2.2
                  have KE : K2 { tmps := #[.agg (EvP.cells ⟨⟨r, n, t, kd, d, fl, tx, gn⟩, some ⟨b1, o1, none⟩, gc⟩).toArray, .pointer (some ⟨g1, 0, none⟩), u2, .int .i64 (k : Int), .pointer (some ⟨G6, 0, none⟩), .pointer (some ⟨g1, 0, none⟩), .agg #[.int .i64 r, .int .i64 n], .bool true, .bool false, .bool false, .pointer (some ⟨g1, 2, none⟩), .int .i64 t, .bool (decide (t < 1)), .bool (decide (t < 1)), .bool (decide (t < 1)), .pointer (some ⟨g1, 2, none⟩), .int .i64 t, .bool (decide (1099511627776 < t)), .bool (decide (t < 1) || decide (1099511627776 < t)), .bool (decide (t < 1) || decide (1099511627776 < t)), .pointer (some ⟨g1, 4, none⟩), .string d, .bool true, .bool false, .bool (decide (t < 1) || decide (1099511627776 < t)), .bool (decide (t < 1) || decide (1099511627776 < t)), .pointer (some ⟨g1, 7, none⟩), .slice (some ⟨b1, o1, none⟩) m gc, .int .i64 (m : Int), .bool (decide (120 < (m : Int))), .bool (decide (t < 1) || decide (1099511627776 < t) || decide (120 < (m : Int))), .pointer (some ⟨g1, 7, none⟩), .slice (some ⟨b1, o1, none⟩) m gc, .int .i64 (m : Int), .int .i64 (k : Int), .bool true, .int .i64 (k : Int), .pointer (some ⟨b1, o1 + k * 2, none⟩), .agg #[.int .i64 x1, .int .i64 x2], .agg #[.int .i64 x1, .int .i64 x2], .bool false, .bool true, .bool true, undef, undef, undef, undef, .bool true, .bool true, undef, undef, undef, undef, undef, undef, undef, undef, undef, undef, undef, undef, undef, .bool true, u63, undef, undef, undef, undef, undef, undef, undef, undef, undef, undef, undef, undef, undef, undef, undef, undef, undef, undef, undef, undef, undef], defers := [] } U1 := by
                    refine hK2 _ _ ?_
                    clear hK2 keep m0 m1
                    go_wp2
                    go_ret
                    exact ⟨rfl, thenBelow B2.out BU.out⟩
                  exact wpAnyH_done (by kernel_rfl) (Eq.mp (by kernel_rfl) KE) _
                | true =>
                  have VA := Lib.hid (fun W : World => refValid_is x1 x2 W)
                  rw [hv] at VA
                  have HVX := Lib.hid hv
                  clear hv
                  by_cases he : ((x1, x2) : Dt) = (r, n)
                  · have EQ := Lib.hid ((eqDt_iff _ _).2 he)
                    have hf := GB.out (go_bad hk1 (.inr (by rw [HX.out]; exact he)))
                    subst hf
                    clear he
                    refine rg_calm (by kernel_rfl) rfl (S := fun U => U.rangeAt G6 0 [.int .i64 x1, .int .i64 x2] ∧ U.rangeAt g1 0 (EvP.cells ⟨⟨r, n, t, kd, d, fl, tx, gn⟩, some ⟨b1, o1, none⟩, gc⟩) ∧ U.rangeAt b1 0 [] ∧ Below w2.heap.size w2 U) ?_
                    have m0 := And.intro N6.out (And.intro Y6.out (And.intro (range_nil W6 b1 0) B6.out))
                    have keep : ∀ U U' : World, Below U.heap.size U U' → U.rangeAt G6 0 [.int .i64 x1, .int .i64 x2] ∧ U.rangeAt g1 0 (EvP.cells ⟨⟨r, n, t, kd, d, fl, tx, gn⟩, some ⟨b1, o1, none⟩, gc⟩) ∧ U.rangeAt b1 0 [] ∧ Below w2.heap.size w2 U → U'.rangeAt G6 0 [.int .i64 x1, .int .i64 x2] ∧ U'.rangeAt g1 0 (EvP.cells ⟨⟨r, n, t, kd, d, fl, tx, gn⟩, some ⟨b1, o1, none⟩, gc⟩) ∧ U'.rangeAt b1 0 [] ∧ Below w2.heap.size w2 U' := fun U U' hb h => ⟨range_below h.1 hb, range_below h.2.1 hb, range_below h.2.2.1 hb, thenBelow h.2.2.2 hb⟩
                    refine rgd_pureS 0 (some 39) rfl rfl (.agg #[.int .i64 x1, .int .i64 x2]) (by kernel_rfl) (by kernel_rfl) (by kernel_rfl) (fun _ _ _ _ h => h) (by kernel_rfl) (fun U hU => exec_gload 37 _ rfl G6 (0) (by kernel_rfl) _ hU.1 Tryz.underlying37 rfl (SZ x1 x2)) m0 ?_
                    refine rgd_call 1 (some 40) (by kernel_rfl) rfl rfl (by kernel_rfl) 65 (#[.agg (dcs x1 x2)]) (by kernel_rfl) (VA.out _) ?_
                    rintro _ U1 ⟨rfl, bU1⟩
                    have m1 := keep _ _ bU1 m0
                    refine ⟨_, rfl, m1, ?_⟩
                    refine rgd_pure 2 (some 41) rfl rfl (.bool false) (by kernel_rfl) (by kernel_rfl) (by kernel_rfl) (fun _ _ _ _ h => h) (by kernel_rfl) (fun w => by kernel_rfl) m1 ?_
                    refine rgd_pure 3 (some 42) rfl rfl (.bool false) (by kernel_rfl) (by kernel_rfl) (by kernel_rfl) (fun _ _ _ _ h => h) (by kernel_rfl) (fun w => by kernel_rfl) m1 ?_
                    refine rgd_pureS 4 (some 43) rfl rfl (.agg #[.int .i64 x1, .int .i64 x2]) (by kernel_rfl) (by kernel_rfl) (by kernel_rfl) (fun _ _ _ _ h => h) (by kernel_rfl) (fun U hU => exec_gload 37 _ rfl G6 (0) (by kernel_rfl) _ hU.1 Tryz.underlying37 rfl (SZ x1 x2)) m1 ?_
                    refine rgd_pure 5 (some 44) rfl rfl (.pointer (some ⟨g1, 0, none⟩)) (by kernel_rfl) (by kernel_rfl) (by kernel_rfl) (fun _ _ _ _ h => h) (by kernel_rfl) (fun w => by kernel_rfl) m1 ?_
                    refine rgd_pureS 6 (some 45) rfl rfl (.agg #[.int .i64 r, .int .i64 n]) (by kernel_rfl) (by kernel_rfl) (by kernel_rfl) (fun _ _ _ _ h => h) (by kernel_rfl) (fun U hU => exec_gload 37 _ rfl g1 (0) (by kernel_rfl) _ (ev_dot (x := ⟨⟨r, n, t, kd, d, fl, tx, gn⟩, some ⟨b1, o1, none⟩, gc⟩) hU.2.1) Tryz.underlying37 rfl (SZ r n)) m1 ?_
                    refine rgd_pure 7 (some 46) rfl rfl (.bool true) (by kernel_rfl) (by kernel_rfl) (by kernel_rfl) (fun _ _ _ _ h => h) (by kernel_rfl) (exec_eqlE _ _ _ rfl (x1, x2) (r, n) true EQ.out (by kernel_rfl) (by kernel_rfl)) m1 ?_
                    refine rgd_pure 8 (some 47) rfl rfl (.bool true) (by kernel_rfl) (by kernel_rfl) (by kernel_rfl) (fun _ _ _ _ h => h) (by kernel_rfl) (fun w => by kernel_rfl) m1 ?_
                    refine rgd_pure 9 (some 48) rfl rfl (.bool true) (by kernel_rfl) (by kernel_rfl) (by kernel_rfl) (fun _ _ _ _ h => h) (by kernel_rfl) (fun w => by kernel_rfl) m1 ?_
                    refine rgd_skip 10 (some 49) rfl rfl (by kernel_rfl) (by kernel_rfl) (by kernel_rfl) (fun _ _ _ _ h => h) (by kernel_rfl) m1 ?_
                    refine rgd_skip 11 (some 50) rfl rfl (by kernel_rfl) (by kernel_rfl) (by kernel_rfl) (fun _ _ _ _ h => h) (by kernel_rfl) m1 ?_
                    refine rgd_skip 12 (some 51) rfl rfl (by kernel_rfl) (by kernel_rfl) (by kernel_rfl) (fun _ _ _ _ h => h) (by kernel_rfl) m1 ?_
                    refine rgd_skip 13 (some 52) rfl rfl (by kernel_rfl) (by kernel_rfl) (by kernel_rfl) (fun _ _ _ _ h => h) (by kernel_rfl) m1 ?_
                    refine rgd_skip 14 (some 53) rfl rfl (by kernel_rfl) (by kernel_rfl) (by kernel_rfl) (fun _ _ _ _ h => h) (by kernel_rfl) m1 ?_
                    refine rgd_skip 15 (some 54) rfl rfl (by kernel_rfl) (by kernel_rfl) (by kernel_rfl) (fun _ _ _ _ h => h) (by kernel_rfl) m1 ?_
                    refine rgd_skip 16 (some 55) rfl rfl (by kernel_rfl) (by kernel_rfl) (by kernel_rfl) (fun _ _ _ _ h => h) (by kernel_rfl) m1 ?_
                    refine rgd_skip 17 (some 56) rfl rfl (by kernel_rfl) (by kernel_rfl) (by kernel_rfl) (fun _ _ _ _ h => h) (by kernel_rfl) m1 ?_
                    refine rgd_skip 18 (some 57) rfl rfl (by kernel_rfl) (by kernel_rfl) (by kernel_rfl) (fun _ _ _ _ h => h) (by kernel_rfl) m1 ?_
                    refine rgd_skip 19 (some 58) rfl rfl (by kernel_rfl) (by kernel_rfl) (by kernel_rfl) (fun _ _ _ _ h => h) (by kernel_rfl) m1 ?_
                    refine rgd_skip 20 (some 59) rfl rfl (by kernel_rfl) (by kernel_rfl) (by kernel_rfl) (fun _ _ _ _ h => h) (by kernel_rfl) m1 ?_
                    refine rgd_skip 21 (some 60) rfl rfl (by kernel_rfl) (by kernel_rfl) (by kernel_rfl) (fun _ _ _ _ h => h) (by kernel_rfl) m1 ?_
                    refine rgd_skip 22 (some 61) rfl rfl (by kernel_rfl) (by kernel_rfl) (by kernel_rfl) (fun _ _ _ _ h => h) (by kernel_rfl) m1 ?_
                    refine rgd_pure 23 (some 62) rfl rfl (.bool true) (by kernel_rfl) (by kernel_rfl) (by kernel_rfl) (fun _ _ _ _ h => h) (by kernel_rfl) (fun w => by kernel_rfl) m1 ?_
                    have BU := Lib.hid m1.2.2.2
                    have KE : K2 { tmps := #[.agg (EvP.cells ⟨⟨r, n, t, kd, d, fl, tx, gn⟩, some ⟨b1, o1, none⟩, gc⟩).toArray, .pointer (some ⟨g1, 0, none⟩), u2, .int .i64 (k : Int), .pointer (some ⟨G6, 0, none⟩), .pointer (some ⟨g1, 0, none⟩), .agg #[.int .i64 r, .int .i64 n], .bool true, .bool false, .bool false, .pointer (some ⟨g1, 2, none⟩), .int .i64 t, .bool (decide (t < 1)), .bool (decide (t < 1)), .bool (decide (t < 1)), .pointer (some ⟨g1, 2, none⟩), .int .i64 t, .bool (decide (1099511627776 < t)), .bool (decide (t < 1) || decide (1099511627776 < t)), .bool (decide (t < 1) || decide (1099511627776 < t)), .pointer (some ⟨g1, 4, none⟩), .string d, .bool true, .bool false, .bool (decide (t < 1) || decide (1099511627776 < t)), .bool (decide (t < 1) || decide (1099511627776 < t)), .pointer (some ⟨g1, 7, none⟩), .slice (some ⟨b1, o1, none⟩) m gc, .int .i64 (m : Int), .bool (decide (120 < (m : Int))), .bool (decide (t < 1) || decide (1099511627776 < t) || decide (120 < (m : Int))), .pointer (some ⟨g1, 7, none⟩), .slice (some ⟨b1, o1, none⟩) m gc, .int .i64 (m : Int), .int .i64 (k : Int), .bool true, .int .i64 (k : Int), .pointer (some ⟨b1, o1 + k * 2, none⟩), .agg #[.int .i64 x1, .int .i64 x2], .agg #[.int .i64 x1, .int .i64 x2], .bool true, .bool false, .bool false, .agg #[.int .i64 x1, .int .i64 x2], .pointer (some ⟨g1, 0, none⟩), .agg #[.int .i64 r, .int .i64 n], .bool true, .bool true, .bool true, undef, undef, undef, undef, undef, undef, undef, undef, undef, undef, undef, undef, undef, .bool true, u63, undef, undef, undef, undef, undef, undef, undef, undef, undef, undef, undef, undef, undef, undef, undef, undef, undef, undef, undef, undef, undef], defers := [] } U1 := by
                      refine hK2 _ _ ?_
                      clear hK2 keep m0 m1
                      go_wp2
                      go_ret
                      exact ⟨rfl, thenBelow B2.out BU.out⟩
                    exact wpAnyH_done (by kernel_rfl) (Eq.mp (by kernel_rfl) KE) _
                  · have EQ := Lib.hid (eqDt_no he)
                    have NA : Hid (∀ i (h : i < gn.length), i < k + 1 → vl gn[i] = true ∧ gn[i] ≠ (r, n)) := Lib.hid fun i h hi => by
                      rcases Nat.lt_or_ge i k with h3 | h3
                      · exact HA.out i h h3
                      · obtain rfl : i = k := by omega
                        rw [HX.out]; exact ⟨HVX.out, he⟩
                    clear he
                    by_cases hk0 : k = 0
                    · have GK : Hid (decide ((k : Int) > 0) = false) := Lib.hid (decide_eq_false (by omega))
                      have NO : Hid (∀ i (h : i + 1 < gn.length), i + 1 < k + 1 → ltD gn[i] gn[i + 1] = true) := Lib.hid fun i h hi => by omega
                      refine rg_calm (by kernel_rfl) rfl (S := fun U => U.rangeAt G6 0 [.int .i64 x1, .int .i64 x2] ∧ U.rangeAt g1 0 (EvP.cells ⟨⟨r, n, t, kd, d, fl, tx, gn⟩, some ⟨b1, o1, none⟩, gc⟩) ∧ U.rangeAt b1 0 [] ∧ Below w2.heap.size w2 U) ?_
                      have m0 := And.intro N6.out (And.intro Y6.out (And.intro (range_nil W6 b1 0) B6.out))
                      have keep : ∀ U U' : World, Below U.heap.size U U' → U.rangeAt G6 0 [.int .i64 x1, .int .i64 x2] ∧ U.rangeAt g1 0 (EvP.cells ⟨⟨r, n, t, kd, d, fl, tx, gn⟩, some ⟨b1, o1, none⟩, gc⟩) ∧ U.rangeAt b1 0 [] ∧ Below w2.heap.size w2 U → U'.rangeAt G6 0 [.int .i64 x1, .int .i64 x2] ∧ U'.rangeAt g1 0 (EvP.cells ⟨⟨r, n, t, kd, d, fl, tx, gn⟩, some ⟨b1, o1, none⟩, gc⟩) ∧ U'.rangeAt b1 0 [] ∧ Below w2.heap.size w2 U' := fun U U' hb h => ⟨range_below h.1 hb, range_below h.2.1 hb, range_below h.2.2.1 hb, thenBelow h.2.2.2 hb⟩
                      refine rgd_pureS 0 (some 39) rfl rfl (.agg #[.int .i64 x1, .int .i64 x2]) (by kernel_rfl) (by kernel_rfl) (by kernel_rfl) (fun _ _ _ _ h => h) (by kernel_rfl) (fun U hU => exec_gload 37 _ rfl G6 (0) (by kernel_rfl) _ hU.1 Tryz.underlying37 rfl (SZ x1 x2)) m0 ?_
                      refine rgd_call 1 (some 40) (by kernel_rfl) rfl rfl (by kernel_rfl) 65 (#[.agg (dcs x1 x2)]) (by kernel_rfl) (VA.out _) ?_
                      rintro _ U1 ⟨rfl, bU1⟩
                      have m1 := keep _ _ bU1 m0
                      refine ⟨_, rfl, m1, ?_⟩
                      refine rgd_pure 2 (some 41) rfl rfl (.bool false) (by kernel_rfl) (by kernel_rfl) (by kernel_rfl) (fun _ _ _ _ h => h) (by kernel_rfl) (fun w => by kernel_rfl) m1 ?_
                      refine rgd_pure 3 (some 42) rfl rfl (.bool false) (by kernel_rfl) (by kernel_rfl) (by kernel_rfl) (fun _ _ _ _ h => h) (by kernel_rfl) (fun w => by kernel_rfl) m1 ?_
                      refine rgd_pureS 4 (some 43) rfl rfl (.agg #[.int .i64 x1, .int .i64 x2]) (by kernel_rfl) (by kernel_rfl) (by kernel_rfl) (fun _ _ _ _ h => h) (by kernel_rfl) (fun U hU => exec_gload 37 _ rfl G6 (0) (by kernel_rfl) _ hU.1 Tryz.underlying37 rfl (SZ x1 x2)) m1 ?_
                      refine rgd_pure 5 (some 44) rfl rfl (.pointer (some ⟨g1, 0, none⟩)) (by kernel_rfl) (by kernel_rfl) (by kernel_rfl) (fun _ _ _ _ h => h) (by kernel_rfl) (fun w => by kernel_rfl) m1 ?_
                      refine rgd_pureS 6 (some 45) rfl rfl (.agg #[.int .i64 r, .int .i64 n]) (by kernel_rfl) (by kernel_rfl) (by kernel_rfl) (fun _ _ _ _ h => h) (by kernel_rfl) (fun U hU => exec_gload 37 _ rfl g1 (0) (by kernel_rfl) _ (ev_dot (x := ⟨⟨r, n, t, kd, d, fl, tx, gn⟩, some ⟨b1, o1, none⟩, gc⟩) hU.2.1) Tryz.underlying37 rfl (SZ r n)) m1 ?_
                      refine rgd_pure 7 (some 46) rfl rfl (.bool false) (by kernel_rfl) (by kernel_rfl) (by kernel_rfl) (fun _ _ _ _ h => h) (by kernel_rfl) (exec_eqlE _ _ _ rfl (x1, x2) (r, n) false EQ.out (by kernel_rfl) (by kernel_rfl)) m1 ?_
                      refine rgd_pure 8 (some 47) rfl rfl (.bool false) (by kernel_rfl) (by kernel_rfl) (by kernel_rfl) (fun _ _ _ _ h => h) (by kernel_rfl) (fun w => by kernel_rfl) m1 ?_
                      refine rgd_pure 9 (some 48) rfl rfl (.bool false) (by kernel_rfl) (by kernel_rfl) (by kernel_rfl) (fun _ _ _ _ h => h) (by kernel_rfl) (fun w => by kernel_rfl) m1 ?_
                      refine rgd_pure 10 (some 49) rfl rfl (.int .i64 (k : Int)) (by kernel_rfl) (by kernel_rfl) (by kernel_rfl) (fun _ _ _ _ h => h) (by kernel_rfl) (fun w => by kernel_rfl) m1 ?_
                      refine rgd_pure 11 (some 50) rfl rfl (.bool false) (by kernel_rfl) (by kernel_rfl) (by kernel_rfl) (fun _ _ _ _ h => h) (by kernel_rfl) (exec_gtrB _ _ _ _ rfl (k : Int) 0 false GK.out (by kernel_rfl) (by kernel_rfl)) m1 ?_
                      refine rgd_pure 12 (some 51) rfl rfl (.bool false) (by kernel_rfl) (by kernel_rfl) (by kernel_rfl) (fun _ _ _ _ h => h) (by kernel_rfl) (fun w => by kernel_rfl) m1 ?_
                      refine rgd_skip 13 (some 52) rfl rfl (by kernel_rfl) (by kernel_rfl) (by kernel_rfl) (fun _ _ _ _ h => h) (by kernel_rfl) m1 ?_
                      refine rgd_skip 14 (some 53) rfl rfl (by kernel_rfl) (by kernel_rfl) (by kernel_rfl) (fun _ _ _ _ h => h) (by kernel_rfl) m1 ?_
                      refine rgd_skip 15 (some 54) rfl rfl (by kernel_rfl) (by kernel_rfl) (by kernel_rfl) (fun _ _ _ _ h => h) (by kernel_rfl) m1 ?_
                      refine rgd_skip 16 (some 55) rfl rfl (by kernel_rfl) (by kernel_rfl) (by kernel_rfl) (fun _ _ _ _ h => h) (by kernel_rfl) m1 ?_
                      refine rgd_skip 17 (some 56) rfl rfl (by kernel_rfl) (by kernel_rfl) (by kernel_rfl) (fun _ _ _ _ h => h) (by kernel_rfl) m1 ?_
                      refine rgd_skip 18 (some 57) rfl rfl (by kernel_rfl) (by kernel_rfl) (by kernel_rfl) (fun _ _ _ _ h => h) (by kernel_rfl) m1 ?_
                      refine rgd_skip 19 (some 58) rfl rfl (by kernel_rfl) (by kernel_rfl) (by kernel_rfl) (fun _ _ _ _ h => h) (by kernel_rfl) m1 ?_
                      refine rgd_skip 20 (some 59) rfl rfl (by kernel_rfl) (by kernel_rfl) (by kernel_rfl) (fun _ _ _ _ h => h) (by kernel_rfl) m1 ?_
                      refine rgd_skip 21 (some 60) rfl rfl (by kernel_rfl) (by kernel_rfl) (by kernel_rfl) (fun _ _ _ _ h => h) (by kernel_rfl) m1 ?_
                      refine rgd_pure 22 (some 61) rfl rfl (.bool false) (by kernel_rfl) (by kernel_rfl) (by kernel_rfl) (fun _ _ _ _ h => h) (by kernel_rfl) (fun w => by kernel_rfl) m1 ?_
                      refine rgd_pure 23 (some 62) rfl rfl (.bool false) (by kernel_rfl) (by kernel_rfl) (by kernel_rfl) (fun _ _ _ _ h => h) (by kernel_rfl) (fun w => by kernel_rfl) m1 ?_
                      have BU := Lib.hid m1.2.2.2
                      have KE : K2 { tmps := #[.agg (EvP.cells ⟨⟨r, n, t, kd, d, fl, tx, gn⟩, some ⟨b1, o1, none⟩, gc⟩).toArray, .pointer (some ⟨g1, 0, none⟩), u2, .int .i64 (k : Int), .pointer (some ⟨G6, 0, none⟩), .pointer (some ⟨g1, 0, none⟩), .agg #[.int .i64 r, .int .i64 n], .bool true, .bool false, .bool false, .pointer (some ⟨g1, 2, none⟩), .int .i64 t, .bool (decide (t < 1)), .bool (decide (t < 1)), .bool (decide (t < 1)), .pointer (some ⟨g1, 2, none⟩), .int .i64 t, .bool (decide (1099511627776 < t)), .bool (decide (t < 1) || decide (1099511627776 < t)), .bool (decide (t < 1) || decide (1099511627776 < t)), .pointer (some ⟨g1, 4, none⟩), .string d, .bool true, .bool false, .bool (decide (t < 1) || decide (1099511627776 < t)), .bool (decide (t < 1) || decide (1099511627776 < t)), .pointer (some ⟨g1, 7, none⟩), .slice (some ⟨b1, o1, none⟩) m gc, .int .i64 (m : Int), .bool (decide (120 < (m : Int))), .bool (decide (t < 1) || decide (1099511627776 < t) || decide (120 < (m : Int))), .pointer (some ⟨g1, 7, none⟩), .slice (some ⟨b1, o1, none⟩) m gc, .int .i64 (m : Int), .int .i64 (k : Int), .bool true, .int .i64 (k : Int), .pointer (some ⟨b1, o1 + k * 2, none⟩), .agg #[.int .i64 x1, .int .i64 x2], .agg #[.int .i64 x1, .int .i64 x2], .bool true, .bool false, .bool false, .agg #[.int .i64 x1, .int .i64 x2], .pointer (some ⟨g1, 0, none⟩), .agg #[.int .i64 r, .int .i64 n], .bool false, .bool false, .bool false, .int .i64 (k : Int), .bool false, .bool false, undef, undef, undef, undef, undef, undef, undef, undef, undef, .bool false, .bool false, u63, undef, undef, undef, undef, undef, undef, undef, undef, undef, undef, undef, undef, undef, undef, undef, undef, undef, undef, undef, undef, undef], defers := [] } U1 := by
                        refine hK2 _ _ ?_
                        clear hK2 keep m0 m1
                        go_wp2
                        go_roundw
                        case rel => exact ⟨k + 1, by omega, by go_num, NA.out, NO.out, BU.out⟩
                        case measure => simp [intOf]; omega
                      exact wpAnyH_done (by kernel_rfl) (Eq.mp (by kernel_rfl) KE) _
                    · have GK : Hid (decide ((k : Int) > 0) = true) := Lib.hid (decide_eq_true (by omega))
                      obtain ⟨j, hj⟩ : ∃ j, k = j + 1 := ⟨k - 1, by omega⟩
                      have hjl : j < gn.length := by omega
                      have SB : Hid (IntKind.i64.wrap ((k : Int) - 1) = (j : Int)) := Lib.hid (by rw [IntWalk.i64_in _ (by omega)]; omega)
                      obtain ⟨b2, o2, hpe, q1⟩ := drow_at L6.out hjl
                      have hpe2 : b2 = b1 ∧ o2 = o1 := by injection hpe with hpe; injection hpe with h1 h2; exact ⟨h1.symm, h2.symm⟩
                      rw [hpe2.1, hpe2.2] at q1
                      obtain ⟨⟨z1, z2⟩, hz⟩ : ∃ z, gn[j] = z := ⟨_, rfl⟩
                      have HZ := Lib.hid hz
                      rw [hz] at q1
                      have Q3 := Lib.hid q1
                      clear hz q1 hpe hpe2
                      simp only at Q3
                      have HLT : Hid (ltD gn[j] gn[k] = lessD z1 z2 x1 x2) := Lib.hid (by rw [HZ.out, HX.out]; rfl)
                      have LE := Lib.hid (fun W : World => less_is z1 z2 x1 x2 W)
                      cases hlt : lessD z1 z2 x1 x2 with
                      | false =>
                        rw [hlt] at LE
                        have hf := GB.out (by
                          refine go_order (k := j) (by omega) ?_
                          have h1 := HLT.out
                          rw [hlt] at h1
                          simpa only [hj] using h1)
                        subst hf
                        clear hlt hj HLT
                        refine rg_calm (by kernel_rfl) rfl (S := fun U => U.rangeAt G6 0 [.int .i64 x1, .int .i64 x2] ∧ U.rangeAt g1 0 (EvP.cells ⟨⟨r, n, t, kd, d, fl, tx, gn⟩, some ⟨b1, o1, none⟩, gc⟩) ∧ U.rangeAt b1 (o1 + j * 2) [.int .i64 z1, .int .i64 z2] ∧ Below w2.heap.size w2 U) ?_
                        have m0 := And.intro N6.out (And.intro Y6.out (And.intro Q3.out B6.out))
                        have keep : ∀ U U' : World, Below U.heap.size U U' → U.rangeAt G6 0 [.int .i64 x1, .int .i64 x2] ∧ U.rangeAt g1 0 (EvP.cells ⟨⟨r, n, t, kd, d, fl, tx, gn⟩, some ⟨b1, o1, none⟩, gc⟩) ∧ U.rangeAt b1 (o1 + j * 2) [.int .i64 z1, .int .i64 z2] ∧ Below w2.heap.size w2 U → U'.rangeAt G6 0 [.int .i64 x1, .int .i64 x2] ∧ U'.rangeAt g1 0 (EvP.cells ⟨⟨r, n, t, kd, d, fl, tx, gn⟩, some ⟨b1, o1, none⟩, gc⟩) ∧ U'.rangeAt b1 (o1 + j * 2) [.int .i64 z1, .int .i64 z2] ∧ Below w2.heap.size w2 U' := fun U U' hb h => ⟨range_below h.1 hb, range_below h.2.1 hb, range_below h.2.2.1 hb, thenBelow h.2.2.2 hb⟩
                        refine rgd_pureS 0 (some 39) rfl rfl (.agg #[.int .i64 x1, .int .i64 x2]) (by kernel_rfl) (by kernel_rfl) (by kernel_rfl) (fun _ _ _ _ h => h) (by kernel_rfl) (fun U hU => exec_gload 37 _ rfl G6 (0) (by kernel_rfl) _ hU.1 Tryz.underlying37 rfl (SZ x1 x2)) m0 ?_
                        refine rgd_call 1 (some 40) (by kernel_rfl) rfl rfl (by kernel_rfl) 65 (#[.agg (dcs x1 x2)]) (by kernel_rfl) (VA.out _) ?_
                        rintro _ U1 ⟨rfl, bU1⟩
                        have m1 := keep _ _ bU1 m0
                        refine ⟨_, rfl, m1, ?_⟩
                        refine rgd_pure 2 (some 41) rfl rfl (.bool false) (by kernel_rfl) (by kernel_rfl) (by kernel_rfl) (fun _ _ _ _ h => h) (by kernel_rfl) (fun w => by kernel_rfl) m1 ?_
                        refine rgd_pure 3 (some 42) rfl rfl (.bool false) (by kernel_rfl) (by kernel_rfl) (by kernel_rfl) (fun _ _ _ _ h => h) (by kernel_rfl) (fun w => by kernel_rfl) m1 ?_
                        refine rgd_pureS 4 (some 43) rfl rfl (.agg #[.int .i64 x1, .int .i64 x2]) (by kernel_rfl) (by kernel_rfl) (by kernel_rfl) (fun _ _ _ _ h => h) (by kernel_rfl) (fun U hU => exec_gload 37 _ rfl G6 (0) (by kernel_rfl) _ hU.1 Tryz.underlying37 rfl (SZ x1 x2)) m1 ?_
                        refine rgd_pure 5 (some 44) rfl rfl (.pointer (some ⟨g1, 0, none⟩)) (by kernel_rfl) (by kernel_rfl) (by kernel_rfl) (fun _ _ _ _ h => h) (by kernel_rfl) (fun w => by kernel_rfl) m1 ?_
                        refine rgd_pureS 6 (some 45) rfl rfl (.agg #[.int .i64 r, .int .i64 n]) (by kernel_rfl) (by kernel_rfl) (by kernel_rfl) (fun _ _ _ _ h => h) (by kernel_rfl) (fun U hU => exec_gload 37 _ rfl g1 (0) (by kernel_rfl) _ (ev_dot (x := ⟨⟨r, n, t, kd, d, fl, tx, gn⟩, some ⟨b1, o1, none⟩, gc⟩) hU.2.1) Tryz.underlying37 rfl (SZ r n)) m1 ?_
                        refine rgd_pure 7 (some 46) rfl rfl (.bool false) (by kernel_rfl) (by kernel_rfl) (by kernel_rfl) (fun _ _ _ _ h => h) (by kernel_rfl) (exec_eqlE _ _ _ rfl (x1, x2) (r, n) false EQ.out (by kernel_rfl) (by kernel_rfl)) m1 ?_
                        refine rgd_pure 8 (some 47) rfl rfl (.bool false) (by kernel_rfl) (by kernel_rfl) (by kernel_rfl) (fun _ _ _ _ h => h) (by kernel_rfl) (fun w => by kernel_rfl) m1 ?_
                        refine rgd_pure 9 (some 48) rfl rfl (.bool false) (by kernel_rfl) (by kernel_rfl) (by kernel_rfl) (fun _ _ _ _ h => h) (by kernel_rfl) (fun w => by kernel_rfl) m1 ?_
                        refine rgd_pure 10 (some 49) rfl rfl (.int .i64 (k : Int)) (by kernel_rfl) (by kernel_rfl) (by kernel_rfl) (fun _ _ _ _ h => h) (by kernel_rfl) (fun w => by kernel_rfl) m1 ?_
                        refine rgd_pure 11 (some 50) rfl rfl (.bool true) (by kernel_rfl) (by kernel_rfl) (by kernel_rfl) (fun _ _ _ _ h => h) (by kernel_rfl) (exec_gtrB _ _ _ _ rfl (k : Int) 0 true GK.out (by kernel_rfl) (by kernel_rfl)) m1 ?_
                        refine rgd_pure 12 (some 51) rfl rfl (.bool true) (by kernel_rfl) (by kernel_rfl) (by kernel_rfl) (fun _ _ _ _ h => h) (by kernel_rfl) (fun w => by kernel_rfl) m1 ?_
                        refine rgd_pure 13 (some 52) rfl rfl (.pointer (some ⟨g1, 7, none⟩)) (by kernel_rfl) (by kernel_rfl) (by kernel_rfl) (fun _ _ _ _ h => h) (by kernel_rfl) (fun w => by kernel_rfl) m1 ?_
                        refine rgd_pureS 14 (some 53) rfl rfl (.slice (some ⟨b1, o1, none⟩) gn.length gc) (by kernel_rfl) (by kernel_rfl) (by kernel_rfl) (fun _ _ _ _ h => h) (by kernel_rfl) (fun U hU => exec_load1 _ _ rfl Tryz.underlying41 rfl ⟨g1, 7, none⟩ _ (by kernel_rfl) (ev_cells (x := ⟨⟨r, n, t, kd, d, fl, tx, gn⟩, some ⟨b1, o1, none⟩, gc⟩) hU.2.1).2.2.2.2.2.2.2) m1 ?_
                        refine rgd_pure 15 (some 54) rfl rfl (.int .i64 (k : Int)) (by kernel_rfl) (by kernel_rfl) (by kernel_rfl) (fun _ _ _ _ h => h) (by kernel_rfl) (fun w => by kernel_rfl) m1 ?_
                        refine rgd_pure 16 (some 55) rfl rfl (.int .i64 (j : Int)) (by kernel_rfl) (by kernel_rfl) (by kernel_rfl) (fun _ _ _ _ h => h) (by kernel_rfl) (exec_subI _ _ _ _ rfl (k : Int) 1 (j : Int) SB.out (by kernel_rfl) (by kernel_rfl)) m1 ?_
                        refine rgd_pure 17 (some 56) rfl rfl (.pointer (some ⟨b1, o1 + j * 2, none⟩)) (by kernel_rfl) (by kernel_rfl) (by kernel_rfl) (fun _ _ _ _ h => h) (by kernel_rfl) (exec_idxD _ _ rfl b1 o1 gn.length gc j (by kernel_rfl) (by kernel_rfl) hjl) m1 ?_
                        refine rgd_pureS 18 (some 57) rfl rfl (.agg #[.int .i64 z1, .int .i64 z2]) (by kernel_rfl) (by kernel_rfl) (by kernel_rfl) (fun _ _ _ _ h => h) (by kernel_rfl) (fun U hU => exec_gload 37 _ rfl b1 (o1 + j * 2) (by kernel_rfl) _ hU.2.2.1 Tryz.underlying37 rfl (SZ z1 z2)) m1 ?_
                        refine rgd_pureS 19 (some 58) rfl rfl (.agg #[.int .i64 x1, .int .i64 x2]) (by kernel_rfl) (by kernel_rfl) (by kernel_rfl) (fun _ _ _ _ h => h) (by kernel_rfl) (fun U hU => exec_gload 37 _ rfl G6 (0) (by kernel_rfl) _ hU.1 Tryz.underlying37 rfl (SZ x1 x2)) m1 ?_
                        refine rgd_call 20 (some 59) (by kernel_rfl) rfl rfl (by kernel_rfl) 33 (#[.agg #[.int .i64 z1, .int .i64 z2], .agg #[.int .i64 x1, .int .i64 x2]]) (by kernel_rfl) (LE.out _) ?_
                        rintro _ U2 ⟨rfl, bU2⟩
                        have m2 := keep _ _ bU2 m1
                        refine ⟨_, rfl, m2, ?_⟩
                        refine rgd_pure 21 (some 60) rfl rfl (.bool true) (by kernel_rfl) (by kernel_rfl) (by kernel_rfl) (fun _ _ _ _ h => h) (by kernel_rfl) (fun w => by kernel_rfl) m2 ?_
                        refine rgd_pure 22 (some 61) rfl rfl (.bool true) (by kernel_rfl) (by kernel_rfl) (by kernel_rfl) (fun _ _ _ _ h => h) (by kernel_rfl) (fun w => by kernel_rfl) m2 ?_
                        refine rgd_pure 23 (some 62) rfl rfl (.bool true) (by kernel_rfl) (by kernel_rfl) (by kernel_rfl) (fun _ _ _ _ h => h) (by kernel_rfl) (fun w => by kernel_rfl) m2 ?_
                        have BU := Lib.hid m2.2.2.2
                        have KE : K2 { tmps := #[.agg (EvP.cells ⟨⟨r, n, t, kd, d, fl, tx, gn⟩, some ⟨b1, o1, none⟩, gc⟩).toArray, .pointer (some ⟨g1, 0, none⟩), u2, .int .i64 (k : Int), .pointer (some ⟨G6, 0, none⟩), .pointer (some ⟨g1, 0, none⟩), .agg #[.int .i64 r, .int .i64 n], .bool true, .bool false, .bool false, .pointer (some ⟨g1, 2, none⟩), .int .i64 t, .bool (decide (t < 1)), .bool (decide (t < 1)), .bool (decide (t < 1)), .pointer (some ⟨g1, 2, none⟩), .int .i64 t, .bool (decide (1099511627776 < t)), .bool (decide (t < 1) || decide (1099511627776 < t)), .bool (decide (t < 1) || decide (1099511627776 < t)), .pointer (some ⟨g1, 4, none⟩), .string d, .bool true, .bool false, .bool (decide (t < 1) || decide (1099511627776 < t)), .bool (decide (t < 1) || decide (1099511627776 < t)), .pointer (some ⟨g1, 7, none⟩), .slice (some ⟨b1, o1, none⟩) m gc, .int .i64 (m : Int), .bool (decide (120 < (m : Int))), .bool (decide (t < 1) || decide (1099511627776 < t) || decide (120 < (m : Int))), .pointer (some ⟨g1, 7, none⟩), .slice (some ⟨b1, o1, none⟩) m gc, .int .i64 (m : Int), .int .i64 (k : Int), .bool true, .int .i64 (k : Int), .pointer (some ⟨b1, o1 + k * 2, none⟩), .agg #[.int .i64 x1, .int .i64 x2], .agg #[.int .i64 x1, .int .i64 x2], .bool true, .bool false, .bool false, .agg #[.int .i64 x1, .int .i64 x2], .pointer (some ⟨g1, 0, none⟩), .agg #[.int .i64 r, .int .i64 n], .bool false, .bool false, .bool false, .int .i64 (k : Int), .bool true, .bool true, .pointer (some ⟨g1, 7, none⟩), .slice (some ⟨b1, o1, none⟩) gn.length gc, .int .i64 (k : Int), .int .i64 (j : Int), .pointer (some ⟨b1, o1 + j * 2, none⟩), .agg #[.int .i64 z1, .int .i64 z2], .agg #[.int .i64 x1, .int .i64 x2], .bool false, .bool true, .bool true, .bool true, u63, undef, undef, undef, undef, undef, undef, undef, undef, undef, undef, undef, undef, undef, undef, undef, undef, undef, undef, undef, undef, undef], defers := [] } U2 := by
                          refine hK2 _ _ ?_
                          clear hK2 keep m0 m1 m2
                          go_wp2
                          go_ret
                          exact ⟨rfl, thenBelow B2.out BU.out⟩
                        exact wpAnyH_done (by kernel_rfl) (Eq.mp (by kernel_rfl) KE) _
                      | true =>
                        rw [hlt] at LE
                        have NO : Hid (∀ i (h : i + 1 < gn.length), i + 1 < k + 1 → ltD gn[i] gn[i + 1] = true) := Lib.hid fun i h hi => by
                          rcases Nat.lt_or_ge (i + 1) k with h3 | h3
                          · exact HO.out i h h3
                          · obtain rfl : i = j := by omega
                            have h1 := HLT.out
                            rw [hlt] at h1
                            simpa only [hj] using h1
                        clear hlt hj HLT
                        refine rg_calm (by kernel_rfl) rfl (S := fun U => U.rangeAt G6 0 [.int .i64 x1, .int .i64 x2] ∧ U.rangeAt g1 0 (EvP.cells ⟨⟨r, n, t, kd, d, fl, tx, gn⟩, some ⟨b1, o1, none⟩, gc⟩) ∧ U.rangeAt b1 (o1 + j * 2) [.int .i64 z1, .int .i64 z2] ∧ Below w2.heap.size w2 U) ?_
                        have m0 := And.intro N6.out (And.intro Y6.out (And.intro Q3.out B6.out))
                        have keep : ∀ U U' : World, Below U.heap.size U U' → U.rangeAt G6 0 [.int .i64 x1, .int .i64 x2] ∧ U.rangeAt g1 0 (EvP.cells ⟨⟨r, n, t, kd, d, fl, tx, gn⟩, some ⟨b1, o1, none⟩, gc⟩) ∧ U.rangeAt b1 (o1 + j * 2) [.int .i64 z1, .int .i64 z2] ∧ Below w2.heap.size w2 U → U'.rangeAt G6 0 [.int .i64 x1, .int .i64 x2] ∧ U'.rangeAt g1 0 (EvP.cells ⟨⟨r, n, t, kd, d, fl, tx, gn⟩, some ⟨b1, o1, none⟩, gc⟩) ∧ U'.rangeAt b1 (o1 + j * 2) [.int .i64 z1, .int .i64 z2] ∧ Below w2.heap.size w2 U' := fun U U' hb h => ⟨range_below h.1 hb, range_below h.2.1 hb, range_below h.2.2.1 hb, thenBelow h.2.2.2 hb⟩
                        refine rgd_pureS 0 (some 39) rfl rfl (.agg #[.int .i64 x1, .int .i64 x2]) (by kernel_rfl) (by kernel_rfl) (by kernel_rfl) (fun _ _ _ _ h => h) (by kernel_rfl) (fun U hU => exec_gload 37 _ rfl G6 (0) (by kernel_rfl) _ hU.1 Tryz.underlying37 rfl (SZ x1 x2)) m0 ?_
                        refine rgd_call 1 (some 40) (by kernel_rfl) rfl rfl (by kernel_rfl) 65 (#[.agg (dcs x1 x2)]) (by kernel_rfl) (VA.out _) ?_
                        rintro _ U1 ⟨rfl, bU1⟩
                        have m1 := keep _ _ bU1 m0
                        refine ⟨_, rfl, m1, ?_⟩
                        refine rgd_pure 2 (some 41) rfl rfl (.bool false) (by kernel_rfl) (by kernel_rfl) (by kernel_rfl) (fun _ _ _ _ h => h) (by kernel_rfl) (fun w => by kernel_rfl) m1 ?_
                        refine rgd_pure 3 (some 42) rfl rfl (.bool false) (by kernel_rfl) (by kernel_rfl) (by kernel_rfl) (fun _ _ _ _ h => h) (by kernel_rfl) (fun w => by kernel_rfl) m1 ?_
                        refine rgd_pureS 4 (some 43) rfl rfl (.agg #[.int .i64 x1, .int .i64 x2]) (by kernel_rfl) (by kernel_rfl) (by kernel_rfl) (fun _ _ _ _ h => h) (by kernel_rfl) (fun U hU => exec_gload 37 _ rfl G6 (0) (by kernel_rfl) _ hU.1 Tryz.underlying37 rfl (SZ x1 x2)) m1 ?_
                        refine rgd_pure 5 (some 44) rfl rfl (.pointer (some ⟨g1, 0, none⟩)) (by kernel_rfl) (by kernel_rfl) (by kernel_rfl) (fun _ _ _ _ h => h) (by kernel_rfl) (fun w => by kernel_rfl) m1 ?_
                        refine rgd_pureS 6 (some 45) rfl rfl (.agg #[.int .i64 r, .int .i64 n]) (by kernel_rfl) (by kernel_rfl) (by kernel_rfl) (fun _ _ _ _ h => h) (by kernel_rfl) (fun U hU => exec_gload 37 _ rfl g1 (0) (by kernel_rfl) _ (ev_dot (x := ⟨⟨r, n, t, kd, d, fl, tx, gn⟩, some ⟨b1, o1, none⟩, gc⟩) hU.2.1) Tryz.underlying37 rfl (SZ r n)) m1 ?_
                        refine rgd_pure 7 (some 46) rfl rfl (.bool false) (by kernel_rfl) (by kernel_rfl) (by kernel_rfl) (fun _ _ _ _ h => h) (by kernel_rfl) (exec_eqlE _ _ _ rfl (x1, x2) (r, n) false EQ.out (by kernel_rfl) (by kernel_rfl)) m1 ?_
                        refine rgd_pure 8 (some 47) rfl rfl (.bool false) (by kernel_rfl) (by kernel_rfl) (by kernel_rfl) (fun _ _ _ _ h => h) (by kernel_rfl) (fun w => by kernel_rfl) m1 ?_
                        refine rgd_pure 9 (some 48) rfl rfl (.bool false) (by kernel_rfl) (by kernel_rfl) (by kernel_rfl) (fun _ _ _ _ h => h) (by kernel_rfl) (fun w => by kernel_rfl) m1 ?_
                        refine rgd_pure 10 (some 49) rfl rfl (.int .i64 (k : Int)) (by kernel_rfl) (by kernel_rfl) (by kernel_rfl) (fun _ _ _ _ h => h) (by kernel_rfl) (fun w => by kernel_rfl) m1 ?_
                        refine rgd_pure 11 (some 50) rfl rfl (.bool true) (by kernel_rfl) (by kernel_rfl) (by kernel_rfl) (fun _ _ _ _ h => h) (by kernel_rfl) (exec_gtrB _ _ _ _ rfl (k : Int) 0 true GK.out (by kernel_rfl) (by kernel_rfl)) m1 ?_
                        refine rgd_pure 12 (some 51) rfl rfl (.bool true) (by kernel_rfl) (by kernel_rfl) (by kernel_rfl) (fun _ _ _ _ h => h) (by kernel_rfl) (fun w => by kernel_rfl) m1 ?_
                        refine rgd_pure 13 (some 52) rfl rfl (.pointer (some ⟨g1, 7, none⟩)) (by kernel_rfl) (by kernel_rfl) (by kernel_rfl) (fun _ _ _ _ h => h) (by kernel_rfl) (fun w => by kernel_rfl) m1 ?_
                        refine rgd_pureS 14 (some 53) rfl rfl (.slice (some ⟨b1, o1, none⟩) gn.length gc) (by kernel_rfl) (by kernel_rfl) (by kernel_rfl) (fun _ _ _ _ h => h) (by kernel_rfl) (fun U hU => exec_load1 _ _ rfl Tryz.underlying41 rfl ⟨g1, 7, none⟩ _ (by kernel_rfl) (ev_cells (x := ⟨⟨r, n, t, kd, d, fl, tx, gn⟩, some ⟨b1, o1, none⟩, gc⟩) hU.2.1).2.2.2.2.2.2.2) m1 ?_
                        refine rgd_pure 15 (some 54) rfl rfl (.int .i64 (k : Int)) (by kernel_rfl) (by kernel_rfl) (by kernel_rfl) (fun _ _ _ _ h => h) (by kernel_rfl) (fun w => by kernel_rfl) m1 ?_
                        refine rgd_pure 16 (some 55) rfl rfl (.int .i64 (j : Int)) (by kernel_rfl) (by kernel_rfl) (by kernel_rfl) (fun _ _ _ _ h => h) (by kernel_rfl) (exec_subI _ _ _ _ rfl (k : Int) 1 (j : Int) SB.out (by kernel_rfl) (by kernel_rfl)) m1 ?_
                        refine rgd_pure 17 (some 56) rfl rfl (.pointer (some ⟨b1, o1 + j * 2, none⟩)) (by kernel_rfl) (by kernel_rfl) (by kernel_rfl) (fun _ _ _ _ h => h) (by kernel_rfl) (exec_idxD _ _ rfl b1 o1 gn.length gc j (by kernel_rfl) (by kernel_rfl) hjl) m1 ?_
                        refine rgd_pureS 18 (some 57) rfl rfl (.agg #[.int .i64 z1, .int .i64 z2]) (by kernel_rfl) (by kernel_rfl) (by kernel_rfl) (fun _ _ _ _ h => h) (by kernel_rfl) (fun U hU => exec_gload 37 _ rfl b1 (o1 + j * 2) (by kernel_rfl) _ hU.2.2.1 Tryz.underlying37 rfl (SZ z1 z2)) m1 ?_
                        refine rgd_pureS 19 (some 58) rfl rfl (.agg #[.int .i64 x1, .int .i64 x2]) (by kernel_rfl) (by kernel_rfl) (by kernel_rfl) (fun _ _ _ _ h => h) (by kernel_rfl) (fun U hU => exec_gload 37 _ rfl G6 (0) (by kernel_rfl) _ hU.1 Tryz.underlying37 rfl (SZ x1 x2)) m1 ?_
                        refine rgd_call 20 (some 59) (by kernel_rfl) rfl rfl (by kernel_rfl) 33 (#[.agg #[.int .i64 z1, .int .i64 z2], .agg #[.int .i64 x1, .int .i64 x2]]) (by kernel_rfl) (LE.out _) ?_
                        rintro _ U2 ⟨rfl, bU2⟩
                        have m2 := keep _ _ bU2 m1
                        refine ⟨_, rfl, m2, ?_⟩
                        refine rgd_pure 21 (some 60) rfl rfl (.bool false) (by kernel_rfl) (by kernel_rfl) (by kernel_rfl) (fun _ _ _ _ h => h) (by kernel_rfl) (fun w => by kernel_rfl) m2 ?_
                        refine rgd_pure 22 (some 61) rfl rfl (.bool false) (by kernel_rfl) (by kernel_rfl) (by kernel_rfl) (fun _ _ _ _ h => h) (by kernel_rfl) (fun w => by kernel_rfl) m2 ?_
                        refine rgd_pure 23 (some 62) rfl rfl (.bool false) (by kernel_rfl) (by kernel_rfl) (by kernel_rfl) (fun _ _ _ _ h => h) (by kernel_rfl) (fun w => by kernel_rfl) m2 ?_
                        have BU := Lib.hid m2.2.2.2
                        have KE : K2 { tmps := #[.agg (EvP.cells ⟨⟨r, n, t, kd, d, fl, tx, gn⟩, some ⟨b1, o1, none⟩, gc⟩).toArray, .pointer (some ⟨g1, 0, none⟩), u2, .int .i64 (k : Int), .pointer (some ⟨G6, 0, none⟩), .pointer (some ⟨g1, 0, none⟩), .agg #[.int .i64 r, .int .i64 n], .bool true, .bool false, .bool false, .pointer (some ⟨g1, 2, none⟩), .int .i64 t, .bool (decide (t < 1)), .bool (decide (t < 1)), .bool (decide (t < 1)), .pointer (some ⟨g1, 2, none⟩), .int .i64 t, .bool (decide (1099511627776 < t)), .bool (decide (t < 1) || decide (1099511627776 < t)), .bool (decide (t < 1) || decide (1099511627776 < t)), .pointer (some ⟨g1, 4, none⟩), .string d, .bool true, .bool false, .bool (decide (t < 1) || decide (1099511627776 < t)), .bool (decide (t < 1) || decide (1099511627776 < t)), .pointer (some ⟨g1, 7, none⟩), .slice (some ⟨b1, o1, none⟩) m gc, .int .i64 (m : Int), .bool (decide (120 < (m : Int))), .bool (decide (t < 1) || decide (1099511627776 < t) || decide (120 < (m : Int))), .pointer (some ⟨g1, 7, none⟩), .slice (some ⟨b1, o1, none⟩) m gc, .int .i64 (m : Int), .int .i64 (k : Int), .bool true, .int .i64 (k : Int), .pointer (some ⟨b1, o1 + k * 2, none⟩), .agg #[.int .i64 x1, .int .i64 x2], .agg #[.int .i64 x1, .int .i64 x2], .bool true, .bool false, .bool false, .agg #[.int .i64 x1, .int .i64 x2], .pointer (some ⟨g1, 0, none⟩), .agg #[.int .i64 r, .int .i64 n], .bool false, .bool false, .bool false, .int .i64 (k : Int), .bool true, .bool true, .pointer (some ⟨g1, 7, none⟩), .slice (some ⟨b1, o1, none⟩) gn.length gc, .int .i64 (k : Int), .int .i64 (j : Int), .pointer (some ⟨b1, o1 + j * 2, none⟩), .agg #[.int .i64 z1, .int .i64 z2], .agg #[.int .i64 x1, .int .i64 x2], .bool true, .bool false, .bool false, .bool false, u63, undef, undef, undef, undef, undef, undef, undef, undef, undef, undef, undef, undef, undef, undef, undef, undef, undef, undef, undef, undef, undef], defers := [] } U2 := by
                          refine hK2 _ _ ?_
                          clear hK2 keep m0 m1 m2
                          go_wp2
                          go_roundw
                          case rel => exact ⟨k + 1, by omega, by go_num, NA.out, NO.out, BU.out⟩
                          case measure => simp [intOf]; omega
                        exact wpAnyH_done (by kernel_rfl) (Eq.mp (by kernel_rfl) KE) _
              · obtain rfl : k = m := by omega
                have hkl' : ¬ ((k : Nat) : Int) < k := by omega
                have hgo : goB gn (r, n) = true := goB_iff.2 ⟨by rw [HN.out]; omega, fun i h => HA.out i h (by rw [← HN.out]; exact h), fun i h => HO.out i h (by rw [← HN.out]; exact h)⟩
                have hH : headB ⟨r, n, t, kd, d, fl, tx, gn⟩ = true := (head_iff _).2 ⟨HV.out, by constructor <;> simp only <;> omega, HD.out, hgo⟩
                have HH := Lib.hid hH
                have B4 := Lib.hid (thenBelow B2.out BB.out)
                have R4 := Lib.hid (range_below R2.out BB.out)
                clear hH hgo HA HO GB
                obtain ⟨c0, c1, c2, c3, c4, c5, c6, c7⟩ := ev_cells R4.out
                simp only [Nat.zero_add] at c0 c1 c2 c3 c4 c5 c6 c7
                clear c0 c1 c2 c4 c7
                by_cases hk1 : kd = 1
                · subst hk1
                  have hX : X = txtE fl tx := HC.out.symm.trans (chk_put HH.out rfl)
                  have DT := Lib.hid (refDocText_is fl tx wr)
                  rw [← hX] at DT
                  clear hX EL HC
                  go_wp2_with fail
                  refine DT.out.mono ?_
                  rintro e w5 ⟨rfl, hb5⟩
                  have B5 := Lib.hid (thenBelow B4.out hb5)
                  clear hb5
                  go_wp2
                  go_ret
                  exact ⟨rfl, B5.out⟩
                · have hk1' : (kd == 1) = false := by simp [hk1]
                  have hk1n : (kd != 1) = true := by simp [hk1]
                  by_cases hk2 : kd = 2
                  · subst hk2
                    by_cases hf0 : fl = 0
                    · subst hf0
                      by_cases ht0 : tx.size = 0
                      · have hX : X = 0 := HC.out.symm.trans (chk_drop HH.out rfl rfl ht0)
                        subst hX
                        have he : tx = ByteArray.empty := by
                          apply ByteArray.ext
                          exact Array.eq_empty_of_size_eq_zero ht0
                        subst he
                        clear HC EL
                        go_wp2
                        go_ret
                        exact ⟨rfl, B4.out⟩
                      · have hX := EL.out hk1 (by omega)
                        subst hX
                        have TS := toList_size tx
                        have f1 : tx.toList ≠ [] := fun h => by rw [h] at TS; exact ht0 TS.symm
                        have f2 : tx.toList.isEmpty = false := by simpa using f1
                        clear TS HC EL
                        go_wp2
                        go_ret
                        exact ⟨rfl, B4.out⟩
                    · have hX := EL.out hk1 (by omega)
                      subst hX
                      have hf0' : (fl == 0) = false := by simp [hf0]
                      clear HC EL
                      go_wp2
                      go_ret
                      exact ⟨rfl, B4.out⟩
                  · have hX := EL.out hk1 (by omega)
                    subst hX
                    have hk2' : (kd == 2) = false := by simp [hk2]
                    clear HC EL
                    go_wp2
                    go_ret
                    exact ⟨rfl, B4.out⟩
end Go.Proofs.YtijmijokgenflaaGreatDoor
