/- The statement StandingPatches, proved for every input that its row reads: part 34 of 54. -/
import Derived.Test.YtnjopndkommjnaaDoorPackStandingPatches12
import Derived.Test.YtnjopndkommjnaaDoorPackStandingPatches33
import Derived.Test.YtnjopndkommjnaaDoorPackStandingPatches23
/- standing.Diff: what leads from one answer to another one. -/
namespace Go.Proofs.YtnjopndkommjnaaDoor
open Go Go.RowKit
set_option linter.unusedVariables false
set_option maxRecDepth 1000000

def RetChgs (w : World) (D : List Chg) (e : Ending) (w' : World) : Prop := ∃ v, e = .returned v ∧ w'.ownsRow w.heap.size 30 3 v D.length (ccl D) ∧ Below w.heap.size w w'
theorem wentL_snoc (l : List Ht) (h : Ht) (now : List Ht) : wentL (l ++ [h]) now = wentL l now ++ if scoresOf now h.id = [] then [⟨2, h⟩] else [] := by
  unfold wentL
  rw [List.filter_append, List.map_append]
  congr 1
  by_cases e : scoresOf now h.id = [] <;> simp [e]
theorem cameL_snoc (old : List Ht) (l : List Ht) (h : Ht) : cameL old (l ++ [h]) = cameL old l ++ cameOf old h := by simp [cameL]
theorem wentL_len (l now : List Ht) : (wentL l now).length ≤ l.length := by unfold wentL; rw [List.length_map]; exact List.length_filter_le _ _
theorem int_head {w : World} {B : Nat} {p : Option Addr} {c : Nat} {s : Int} {t : List Int} (h : w.ownsRow B 3 1 (.slice p (s :: t).length c) (s :: t).length (icl (s :: t))) : ∃ g, p = some ⟨g, 0, none⟩ ∧ w.cell? ⟨g, 0, none⟩ = some (.int .i64 s) := by
  rcases h.2 with ⟨_, h1⟩ | ⟨g, cap, cur, h0, _⟩
  · simp at h1
  · injection h0 with h0 _ _
    subst h0
    exact ⟨g, rfl, World.ownsRow.cellAt h 0 (by simp)⟩
theorem exec_idxI {o : Oper} {a : Act} (x y : Operand) (ho : o.op = .indexAddr 45 x y) (b f len cap k : Nat) (hx : a.eval x = .slice (some ⟨b, f, none⟩) len cap) (hy : a.eval y = .int .i64 (k : Int)) (hk : k < len) (w : World) :
    (execOp a.eval o).run Tryd.prog w = .ok (.value (.pointer (some ⟨b, f + k * 1, none⟩))) w := by
  have hs : ∀ w : World, (sizeOf (Tryd.prog.elem 45)).run Tryd.prog w = .ok 1 w := fun w => by kernel_rfl
  unfold execOp
  simp only [ho, hx, hy]
  refine run_value_of ?_
  rw [run_indexAt_slice (h := Tryd.underlying45), if_pos (by omega), hs]
  simp only [Result.andThen_ok, Int.toNat_natCast]
  cases k <;> simp [Addr.add]
theorem exec_neqI {P : Program} {o : Oper} {a : Act} (t yt : TypeId) (x y : Operand) (ho : o.op = .binOp .neq t x y yt) (X Y : Int) (b : Bool) (hb : (!(X == Y)) = b) (hx : a.eval x = .int .i64 X) (hy : a.eval y = .int .i64 Y) (w : World) :
    (execOp a.eval o).run P w = .ok (.value (.bool b)) w := by
  subst hb
  unfold execOp
  simp only [ho, hx, hy]
  rfl
theorem from_drewN {w w' : World} (h : Below w.drew.heap.size w.drew w') : Below w.heap.size w w' := ⟨h.os, h.tape, h.output, h.size, h.block⟩
set_option maxHeartbeats 4000000 in
theorem diff_is (p q : Option Addr) (c d : Nat) (old now : List Ht) (w : World) (h : HtsAt w p old) (hn : old.length ≤ 1000) (h2 : HtsAt w q now) (hn2 : now.length ≤ 1000) :
    Calls Tryd.prog 10 #[.slice p old.length c, .slice q now.length d] w (RetChgs w (diffL old now)) := by
  have HO := Lib.hid h; have HN := Lib.hid h2
  clear h h2
  go_enter Tryd.func10, Tryd.ntmps10
  go_wp2_with fail
  refine (named_is p c old w HO.out (by omega)).mono ?_
  rintro e w1 ⟨r1, c1, es1, rfl, n1, hr1, b1⟩
  have N1 := Lib.hid n1; have B1 := Lib.hid b1
  clear n1 b1
  dsimp only
  go_wp2_with fail
  refine (named_is q d now w1 (HN.out.below B1.out) (by omega)).mono ?_
  rintro e w2 ⟨r2, c2, es2, rfl, n2, hr2, b2⟩
  have T1 := Lib.hid (N1.out.later b2); have T2 := Lib.hid n2; have B2 := Lib.hid (thenBelow B1.out b2)
  clear n2 b2 N1 B1
  dsimp only
  go_wp2_with fail
  go_loopw [7, 19] (fun v i wr => ∃ (j : Nat) (D : List Chg), j ≤ old.length ∧ i = .int .i64 j ∧ Hid (D = wentL (old.take j) now) ∧ D.length ≤ j ∧ Hid (wr.ownsRow w2.heap.size 30 3 v D.length (ccl D)) ∧ Hid (Below w2.heap.size w2 wr)) (fun _ i _ => old.length - (intOf i).toNat)
  case atStart => exact ⟨0, [], Nat.zero_le _, rfl, Lib.hid rfl, Nat.le_refl _, Lib.hid ⟨rfl, .inl ⟨rfl, rfl⟩⟩, Lib.hid (Below.refl _ _)⟩
  case round =>
    obtain ⟨j, D, hj, rfl, HD, hDj, OD, BB⟩ := hrel
    obtain ⟨p4, c4, rfl⟩ := own_slice OD.out
    by_cases hjl : j < old.length
    · have hjl' : (j : Int) < old.length := by omega
      obtain ⟨b, o, rfl, hlt, hr⟩ := (HO.out.below (thenBelow B2.out BB.out)).at hjl
      obtain ⟨k0, k1⟩ := ht_cells hr
      have TK : Hid (old.take (j + 1) = old.take j ++ [old[j]]) := Lib.hid (List.take_succ_eq_append_getElem hjl)
      clear hr hlt
      obtain ⟨y, hy⟩ : ∃ y, old[j] = y := ⟨_, rfl⟩
      rw [hy] at k0 k1 TK
      clear hy
      obtain ⟨yi, ys⟩ := y
      simp only at k0 k1
      have b7 := below_alloc wr (.cells #[.string yi, .int .i64 ys] 28)
      have B7 := Lib.hid (thenBelow BB.out b7)
      have O7 := Lib.hid (own_later OD.out b7)
      obtain ⟨v, hva, hvo, hvl⟩ := (T2.out.later B7.out).look yi
      obtain ⟨p5, c5, rfl⟩ := own_slice hvo
      have lk := hvl _ (Below.refl _ _)
      have h7 := heap_alloc_new wr (.cells #[.string yi, .int .i64 ys] 28)
      have R7 : Hid ((wr.alloc (.cells #[.string yi, .int .i64 ys] 28)).rangeAt wr.heap.size 0 [.string yi, .int .i64 ys]) := Lib.hid (range_of_block h7)
      have ZZ : Hid ((wr.alloc (.cells #[.string yi, .int .i64 ys] 28)).heap.size = wr.heap.size + 1) := Lib.hid (by simp)
      have z7 : w2.heap.size ≤ (wr.alloc (.cells #[.string yi, .int .i64 ys] 28)).heap.size := B7.out.size
      clear hva hvo hvl b7 h7
      obtain ⟨n, hn5⟩ : ∃ n, (scoresOf now yi).length = n := ⟨_, rfl⟩
      rw [hn5] at lk
      have HN5 := Lib.hid hn5
      clear hn5
      by_cases h0 : n = 0
      · subst h0
        have KD : Hid (D ++ [⟨2, ⟨yi, ys⟩⟩] = wentL (old.take (j + 1)) now) := Lib.hid (by rw [TK.out, wentL_snoc, if_pos (List.eq_nil_of_length_eq_zero HN5.out), ← HD.out])
        clear TK HD
        go_wp2_with (first | refine wpList_gload rfl _ rfl wr.heap.size 0 rfl _ R7.out _ Tryd.underlying28 rfl (sizeHt ⟨yi, ys⟩) ?_ | (at_builtin; refine wpList_chg _ rfl _ _ rfl w2.heap.size D.length _ _ rfl O7.out ⟨2, ⟨yi, ys⟩⟩ (by rw [ZZ.out]; rfl) (by omega) z7 ?_))
        intro v9 w9 o9 g9
        have B9 := Lib.hid (B7.out.grown g9 B7.out.size (fun k hk => (O7.out.lt k hk).1))
        have O9 : Hid (w9.ownsRow w2.heap.size 30 3 v9 (D ++ [(⟨2, ⟨yi, ys⟩⟩ : Chg)]).length (ccl (D ++ [(⟨2, ⟨yi, ys⟩⟩ : Chg)]))) := Lib.hid (by rw [ccl_snoc, List.length_append]; exact o9)
        clear o9 g9 R7 lk ZZ z7
        go_wp2
        go_roundw
        case rel => exact ⟨j + 1, _, by omega, by go_num, KD, by rw [List.length_append]; simp; omega, O9, B9⟩
        case measure => simp [intOf]; omega
      · have h0' : ¬ ((n : Int) = 0) := by omega
        have KD : Hid (D = wentL (old.take (j + 1)) now) := Lib.hid (by rw [TK.out, wentL_snoc, if_neg (fun e => h0 (by rw [← HN5.out, e]; rfl)), List.append_nil, ← HD.out])
        clear TK HD
        go_wp2
        go_roundw
        case rel => exact ⟨j + 1, D, by omega, by go_num, KD, by omega, O7, B7⟩
        case measure => simp [intOf]; omega
    · obtain rfl : j = old.length := by omega
      have hjl' : ¬ ((old.length : Nat) : Int) < old.length := by omega
      rw [List.take_length] at HD
      go_wp2_with fail
      go_loopw [7, 37] (fun v i wr => ∃ (j : Nat) (D : List Chg), j ≤ now.length ∧ i = .int .i64 j ∧ Hid (D = wentL old now ++ cameL old (now.take j)) ∧ D.length ≤ old.length + j ∧ Hid (wr.ownsRow w2.heap.size 30 3 v D.length (ccl D)) ∧ Hid (Below w2.heap.size w2 wr)) (fun _ i _ => now.length - (intOf i).toNat)
      case atStart => exact ⟨0, D, Nat.zero_le _, rfl, Lib.hid (by rw [HD.out]; simp [cameL]), hDj, OD, BB⟩
      case round =>
        clear HD hDj OD BB
        obtain ⟨j, D, hj, rfl, HD, hDj, OD, BB⟩ := hrel
        obtain ⟨p4, c4, rfl⟩ := own_slice OD.out
        by_cases hjl : j < now.length
        · have hjl' : (j : Int) < now.length := by omega
          obtain ⟨b, o, rfl, hlt, hr⟩ := (HN.out.below (thenBelow B2.out BB.out)).at hjl
          obtain ⟨k0, k1⟩ := ht_cells hr
          have TK : Hid (now.take (j + 1) = now.take j ++ [now[j]]) := Lib.hid (List.take_succ_eq_append_getElem hjl)
          clear hr hlt
          obtain ⟨y, hy⟩ : ∃ y, now[j] = y := ⟨_, rfl⟩
          rw [hy] at k0 k1 TK
          clear hy
          obtain ⟨yi, ys⟩ := y
          simp only at k0 k1
          have b7 := below_alloc wr (.cells #[.string yi, .int .i64 ys] 28)
          have B7 := Lib.hid (thenBelow BB.out b7)
          have O7 := Lib.hid (own_later OD.out b7)
          obtain ⟨v, hva, hvo, hvl⟩ := (T1.out.later B7.out).look yi
          obtain ⟨p5, c5, rfl⟩ := own_slice hvo
          have lk := hvl _ (Below.refl _ _)
          have h7 := heap_alloc_new wr (.cells #[.string yi, .int .i64 ys] 28)
          have R7 : Hid ((wr.alloc (.cells #[.string yi, .int .i64 ys] 28)).rangeAt wr.heap.size 0 [.string yi, .int .i64 ys]) := Lib.hid (range_of_block h7)
          have ZZ : Hid ((wr.alloc (.cells #[.string yi, .int .i64 ys] 28)).heap.size = wr.heap.size + 1) := Lib.hid (by simp)
          have z7 : w2.heap.size ≤ (wr.alloc (.cells #[.string yi, .int .i64 ys] 28)).heap.size := B7.out.size
          have KD : Hid (D ++ cameOf old ⟨yi, ys⟩ = wentL old now ++ cameL old (now.take (j + 1))) := Lib.hid (by rw [TK.out, cameL_snoc, ← List.append_assoc, ← HD.out])
          clear hva hvl b7 TK HD
          cases hsc : scoresOf old yi with
          | nil =>
            rw [hsc] at lk
            simp only [List.length_nil] at lk
            have e1 : cameOf old ⟨yi, ys⟩ = [⟨1, ⟨yi, ys⟩⟩] := by unfold cameOf; simp only [hsc]
            rw [e1] at KD
            clear hvo h7 e1
            go_wp2_with (first | refine wpList_gload rfl _ rfl wr.heap.size 0 rfl _ R7.out _ Tryd.underlying28 rfl (sizeHt ⟨yi, ys⟩) ?_ | (at_builtin; refine wpList_chg _ rfl _ _ rfl w2.heap.size D.length _ _ rfl O7.out ⟨1, ⟨yi, ys⟩⟩ (by rw [ZZ.out]; rfl) (by omega) z7 ?_))
            intro v9 w9 o9 g9
            have B9 := Lib.hid (B7.out.grown g9 B7.out.size (fun k hk => (O7.out.lt k hk).1))
            have O9 : Hid (w9.ownsRow w2.heap.size 30 3 v9 (D ++ [(⟨1, ⟨yi, ys⟩⟩ : Chg)]).length (ccl (D ++ [(⟨1, ⟨yi, ys⟩⟩ : Chg)]))) := Lib.hid (by rw [ccl_snoc, List.length_append]; exact o9)
            clear o9 g9 R7 lk ZZ z7
            go_wp2
            go_roundw
            case rel => exact ⟨j + 1, _, by omega, by go_num, KD, by rw [List.length_append]; simp; omega, O9, B9⟩
            case measure => simp [intOf]; omega
          | cons s t =>
            rw [hsc] at lk hvo
            obtain ⟨g5, rfl, m5⟩ := int_head hvo
            have hn0 : ¬ (((s :: t).length : Nat) : Int) = 0 := by simp only [List.length_cons]; omega
            obtain ⟨n, hn⟩ : ∃ n, (s :: t).length = n := ⟨_, rfl⟩
            have hn1 : 0 < n := by rw [← hn]; simp
            rw [hn] at lk hn0
            have M5 := Lib.hid m5
            have e1 : cameOf old ⟨yi, ys⟩ = if s = ys then [] else [⟨3, ⟨yi, ys⟩⟩] := by unfold cameOf; simp only [hsc]
            rw [e1] at KD
            clear hvo h7 e1 m5 hn hsc
            go_wp2_with fail
            obtain ⟨G, hG⟩ : ∃ G, wr.heap.size = G := ⟨_, rfl⟩
            rw [hG] at R7 ZZ ⊢
            generalize wr.alloc (.cells #[.string yi, .int .i64 ys] 28) = w7 at B7 O7 lk R7 ZZ z7 M5 ⊢
            generalize hQ : Exit.then _ _ = QX
            have m1 : w7.drew.cell? ⟨G, 1, none⟩ = some (.int .i64 ys) := by have := R7.out 1 _ rfl; simpa using this
            have b0 := Below.refl w7.drew.heap.size w7.drew
            have l9 : wr.heap.size = G := hG
            clear lk
            by_cases hse : s = ys
            · rw [if_pos hse, List.append_nil] at KD
              have KE : ∀ U : World, Below w7.drew.heap.size w7.drew U → QX .normal { tmps := #[.slice p old.length c, .slice (some ⟨b, o, none⟩) now.length d, undef, undef, .slice none 0 0, .map (some r1), .map (some r2), .slice p4 D.length c4, undef, u9, undef, .pointer (some ⟨G, 0, none⟩), .slice (some ⟨g5, 0, none⟩) n c5, .slice p old.length c, .map (some r1), .slice (some ⟨b, o, none⟩) now.length d, .map (some r2), .slice p old.length c, .int .i64 (old.length : Int), .int .i64 (old.length : Int), .bool false, u21, u22, u23, u24, u25, u26, u27, u28, u29, u30, u31, u32, u33, u34, .slice (some ⟨b, o, none⟩) now.length d, .int .i64 (now.length : Int), .int .i64 (j : Int), .bool true, .pointer (some ⟨b, o + j * 2, none⟩), .agg #[.string yi, .int .i64 ys], .map (some r1), .pointer (some ⟨G, 0, none⟩), .string yi, .slice (some ⟨g5, 0, none⟩) n c5, .slice (some ⟨g5, 0, none⟩) n c5, .int .i64 (n : Int), .bool ((n : Int) == 0), u48, u49, u50, u51, u52, .slice (some ⟨g5, 0, none⟩) n c5, .pointer (some ⟨g5, 0 + 0 * 1, none⟩), .int .i64 s, .pointer (some ⟨G, 1, none⟩), .int .i64 ys, .bool false, u59, u60, u61, u62, u63, u64, undef, undef, undef], defers := [] } U := by
                intro U hU
                rw [← hQ]
                clear hQ
                simp only [Exit.then]
                have B8 := Lib.hid (thenBelow B7.out (from_drewN hU)); have O8 := Lib.hid (own_later O7.out (from_drewN hU))
                clear hU b0 m1 R7 ZZ z7
                go_wp2
                go_roundw
                case rel => exact ⟨j + 1, _, by omega, by go_num, KD, by omega, O8, B8⟩
                case measure => simp [intOf]; omega
              refine rg_last (by kernel_rfl) rfl (S := fun U => Below w7.drew.heap.size w7.drew U) ?_
              refine rgd_pure 0 (some 53) rfl rfl (.slice (some ⟨g5, 0, none⟩) n c5) (by kernel_rfl) (by kernel_rfl) (by kernel_rfl) (fun _ _ _ _ h => h) (by kernel_rfl) (fun w => by kernel_rfl) b0 ?_
              refine rgd_pure 1 (some 54) rfl rfl (.pointer (some ⟨g5, 0 + 0 * 1, none⟩)) (by kernel_rfl) (by kernel_rfl) (by kernel_rfl) (fun _ _ _ _ h => h) (by kernel_rfl) (exec_idxI _ _ rfl g5 0 n c5 0 (by kernel_rfl) (by kernel_rfl) hn1) b0 ?_
              refine rgd_pureS 2 (some 55) rfl rfl (.int .i64 s) (by kernel_rfl) (by kernel_rfl) (by kernel_rfl) (fun _ _ _ _ h => h) (by kernel_rfl) (fun U hU => exec_load1 _ _ rfl Tryd.underlying3 rfl ⟨g5, 0, none⟩ _ (by kernel_rfl) (cell_hold2 M5.out (from_drewN hU))) b0 ?_
              refine rgd_pure 3 (some 56) rfl rfl (.pointer (some ⟨G, 1, none⟩)) (by kernel_rfl) (by kernel_rfl) (by kernel_rfl) (fun _ _ _ _ h => h) (by kernel_rfl) (fun w => by kernel_rfl) b0 ?_
              refine rgd_pureS 4 (some 57) rfl rfl (.int .i64 ys) (by kernel_rfl) (by kernel_rfl) (by kernel_rfl) (fun _ _ _ _ h => h) (by kernel_rfl) (fun U hU => exec_load1 _ _ rfl Tryd.underlying3 rfl ⟨G, 1, none⟩ _ (by kernel_rfl) (cell_hold2 m1 hU)) b0 ?_
              refine rgd_pure 5 (some 58) rfl rfl (.bool false) (by kernel_rfl) (by kernel_rfl) (by kernel_rfl) (fun _ _ _ _ h => h) (by kernel_rfl) (fun w => exec_neqI _ _ _ _ rfl s ys _ (by simp [hse]) (by kernel_rfl) (by kernel_rfl) w) b0 ?_
              exact wpAnyH_done (by kernel_rfl) (Eq.mp (by kernel_rfl) (KE _ b0)) _
            · rw [if_neg hse] at KD
              have KE : ∀ U : World, Below w7.drew.heap.size w7.drew U → QX .normal { tmps := #[.slice p old.length c, .slice (some ⟨b, o, none⟩) now.length d, undef, undef, .slice none 0 0, .map (some r1), .map (some r2), .slice p4 D.length c4, undef, u9, undef, .pointer (some ⟨G, 0, none⟩), .slice (some ⟨g5, 0, none⟩) n c5, .slice p old.length c, .map (some r1), .slice (some ⟨b, o, none⟩) now.length d, .map (some r2), .slice p old.length c, .int .i64 (old.length : Int), .int .i64 (old.length : Int), .bool false, u21, u22, u23, u24, u25, u26, u27, u28, u29, u30, u31, u32, u33, u34, .slice (some ⟨b, o, none⟩) now.length d, .int .i64 (now.length : Int), .int .i64 (j : Int), .bool true, .pointer (some ⟨b, o + j * 2, none⟩), .agg #[.string yi, .int .i64 ys], .map (some r1), .pointer (some ⟨G, 0, none⟩), .string yi, .slice (some ⟨g5, 0, none⟩) n c5, .slice (some ⟨g5, 0, none⟩) n c5, .int .i64 (n : Int), .bool ((n : Int) == 0), u48, u49, u50, u51, u52, .slice (some ⟨g5, 0, none⟩) n c5, .pointer (some ⟨g5, 0 + 0 * 1, none⟩), .int .i64 s, .pointer (some ⟨G, 1, none⟩), .int .i64 ys, .bool true, u59, u60, u61, u62, u63, u64, undef, undef, undef], defers := [] } U := by
                intro U hU
                rw [← hQ]
                clear hQ
                simp only [Exit.then]
                have B8 := Lib.hid (thenBelow B7.out (from_drewN hU)); have O8 := Lib.hid (own_later O7.out (from_drewN hU)); have R8 := Lib.hid (range_below R7.out (from_drewN hU))
                have z8 : w2.heap.size ≤ U.heap.size := B8.out.size
                clear hU b0 m1 R7 ZZ z7
                go_wp2_with (first | refine wpList_gload rfl _ rfl G 0 rfl _ R8.out _ Tryd.underlying28 rfl (sizeHt ⟨yi, ys⟩) ?_ | (at_builtin; refine wpList_chg _ rfl _ _ rfl w2.heap.size D.length _ _ rfl O8.out ⟨3, ⟨yi, ys⟩⟩ rfl (by omega) z8 ?_))
                intro v9 w9 o9 g9
                have B9 := Lib.hid (B8.out.grown g9 B8.out.size (fun k hk => (O8.out.lt k hk).1))
                have O9 : Hid (w9.ownsRow w2.heap.size 30 3 v9 (D ++ [(⟨3, ⟨yi, ys⟩⟩ : Chg)]).length (ccl (D ++ [(⟨3, ⟨yi, ys⟩⟩ : Chg)]))) := Lib.hid (by rw [ccl_snoc, List.length_append]; exact o9)
                clear o9 g9 R8 z8
                go_wp2
                go_roundw
                case rel => exact ⟨j + 1, _, by omega, by go_num, KD, by rw [List.length_append]; simp; omega, O9, B9⟩
                case measure => simp [intOf]; omega
              refine rg_last (by kernel_rfl) rfl (S := fun U => Below w7.drew.heap.size w7.drew U) ?_
              refine rgd_pure 0 (some 53) rfl rfl (.slice (some ⟨g5, 0, none⟩) n c5) (by kernel_rfl) (by kernel_rfl) (by kernel_rfl) (fun _ _ _ _ h => h) (by kernel_rfl) (fun w => by kernel_rfl) b0 ?_
              refine rgd_pure 1 (some 54) rfl rfl (.pointer (some ⟨g5, 0 + 0 * 1, none⟩)) (by kernel_rfl) (by kernel_rfl) (by kernel_rfl) (fun _ _ _ _ h => h) (by kernel_rfl) (exec_idxI _ _ rfl g5 0 n c5 0 (by kernel_rfl) (by kernel_rfl) hn1) b0 ?_
              refine rgd_pureS 2 (some 55) rfl rfl (.int .i64 s) (by kernel_rfl) (by kernel_rfl) (by kernel_rfl) (fun _ _ _ _ h => h) (by kernel_rfl) (fun U hU => exec_load1 _ _ rfl Tryd.underlying3 rfl ⟨g5, 0, none⟩ _ (by kernel_rfl) (cell_hold2 M5.out (from_drewN hU))) b0 ?_
              refine rgd_pure 3 (some 56) rfl rfl (.pointer (some ⟨G, 1, none⟩)) (by kernel_rfl) (by kernel_rfl) (by kernel_rfl) (fun _ _ _ _ h => h) (by kernel_rfl) (fun w => by kernel_rfl) b0 ?_
              refine rgd_pureS 4 (some 57) rfl rfl (.int .i64 ys) (by kernel_rfl) (by kernel_rfl) (by kernel_rfl) (fun _ _ _ _ h => h) (by kernel_rfl) (fun U hU => exec_load1 _ _ rfl Tryd.underlying3 rfl ⟨G, 1, none⟩ _ (by kernel_rfl) (cell_hold2 m1 hU)) b0 ?_
              refine rgd_pure 5 (some 58) rfl rfl (.bool true) (by kernel_rfl) (by kernel_rfl) (by kernel_rfl) (fun _ _ _ _ h => h) (by kernel_rfl) (fun w => exec_neqI _ _ _ _ rfl s ys _ (by simp [hse]) (by kernel_rfl) (by kernel_rfl) w) b0 ?_
              exact wpAnyH_done (by kernel_rfl) (Eq.mp (by kernel_rfl) (KE _ b0)) _
        · obtain rfl : j = now.length := by omega
          have hjl' : ¬ ((now.length : Nat) : Int) < now.length := by omega
          rw [List.take_length] at HD
          have SO := Lib.hid (stsAny w2.heap.size p4 c4 D wr OD.out (by omega) BB.out.size)
          go_wp2_with fail
          refine SO.out.mono ?_
          rintro e w9 ⟨rfl, o9, b9⟩
          have B9 := Lib.hid (B2.out.trans ((BB.out.trans b9).mono B2.out.size))
          have O9 := Lib.hid (own_base o9 B2.out.size)
          clear o9 b9 SO
          dsimp only
          go_wp2
          go_ret
          refine ⟨_, rfl, ?_, B9.out⟩
          have e1 : diffL old now = isrt ltC D := by unfold diffL; rw [HD.out]
          rw [e1, isrt_len]
          exact O9.out
end Go.Proofs.YtnjopndkommjnaaDoor
