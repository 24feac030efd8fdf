/- The statement DocsReads, proved for every input that its row reads: part 32 of 54. -/
import Derived.Test.YtijmijokgenflaaGreatDoorPackDocsReads25
import Derived.Deep.CutBlock
/- insertionSortCmpFunc: a piece of a row put in order. -/
namespace Go.Proofs.YtijmijokgenflaaGreatDoor
open Go Go.RowKit
set_option linter.unusedVariables false
set_option maxRecDepth 1000000

theorem exec_gtrGW {P : Program} {o : Oper} {a : Act} (t yt : TypeId) (x y : Operand) (ho : o.op = .binOp .gtr t x y yt) (X Y : Int) (b : Bool) (hb : decide (Y < X) = b) (hx : a.eval x = .int .i64 X) (hy : a.eval y = .int .i64 Y) (w : World) :
    (execOp a.eval o).run P w = .ok (.value (.bool b)) w := by
  subst hb
  unfold execOp
  simp only [ho, hx, hy]
  go_simp
set_option maxHeartbeats 1000000 in
theorem insW_is (lt : Wr → Wr → Bool) (hlt : SW lt) (F : FuncId) (caps : Array Value) (HF : TellsW F caps lt) (B g c N : Nat) (P M S : List Wr) (a b : Nat) (w : World) (hN : (P ++ (M ++ S)).length = N) (h : RowW w B g c (P ++ (M ++ S))) (ha : a = P.length) (hb : b = P.length + M.length) (hbig : N ≤ 1000000) :
    Calls Tryz.prog 95 #[.slice (some ⟨g, 0, none⟩) N c, .int .i64 (a : Int), .int .i64 (b : Int), .func (.func F) #[] caps] w (SwW w B g c (P ++ (isrt lt M ++ S))) := by
  obtain ⟨n, hn⟩ : ∃ n, M.length = n := ⟨_, rfl⟩
  have HN := Lib.hid hn; have HL := Lib.hid hN; have HA := Lib.hid ha; have TF := Lib.hid HF; have HW := Lib.hid hlt
  have START : Hid (RowW w B g c (P ++ (isrt lt (M.take 1) ++ (M.drop 1 ++ S)))) := Lib.hid (by
    have e : isrt lt (M.take 1) = M.take 1 := by
      cases M with
      | nil => rfl
      | cons x M => simp [isrt, mrg_nil]
    rw [e, ← List.append_assoc (M.take 1), List.take_append_drop]; exact h)
  have HB := Lib.hid (show b = a + n by omega)
  have lb : b ≤ N := by have h1 := hN; simp only [List.length_append] at h1; omega
  have ba : a ≤ 1000000 := by omega
  have lb2 : b ≤ 1000000 := by omega
  have lab : a ≤ b := by omega
  clear h ha hb hN hn HF hlt
  go_enter Tryz.func95, Tryz.ntmps95
  go_wp2
  go_loopw [8] (fun v wr => ∃ t T : Nat, 1 ≤ t ∧ (t ≤ n ∨ t = 1) ∧ Hid (T = a + t) ∧ v = .int .i64 (T : Int) ∧ RowW wr B g c (P ++ (isrt lt (M.take t) ++ (M.drop t ++ S))) ∧ w.grownBy wr (some g)) (fun v _ => b + 1 - (RowKit.intOf v).toNat)
  case atStart => exact ⟨1, a + 1, Nat.le_refl _, .inr rfl, Lib.hid rfl, by go_num, START.out, grRW _ _⟩
  case round =>
    obtain ⟨t, T, ht1, ht2, HT, rfl, hr, hg⟩ := hrel
    have RR := Lib.hid hr; have GR := Lib.hid hg
    clear hr hg START
    by_cases htn : t < n
    · have htn' : (T : Int) < (b : Int) := by have := HT.out; have := HB.out; omega
      have hTa : a + 1 ≤ T := by have := HT.out; omega
      have hTb : T ≤ b := by omega
      obtain ⟨z, hz⟩ : ∃ z, M[t]'(by rw [HN.out]; exact htn) = z := ⟨_, rfl⟩
      obtain ⟨U, hU⟩ : ∃ U, isrt lt (M.take t) = U := ⟨_, rfl⟩
      obtain ⟨R, hR⟩ : ∃ R, M.drop (t + 1) ++ S = R := ⟨_, rfl⟩
      have lU : U.length = t := by rw [← hU, isrt_len, List.length_take, HN.out]; omega
      have SU := Lib.hid (show Srt lt U by rw [← hU]; exact isrt_srt HW.out _)
      have NX : Hid (isrt lt (M.take (t + 1)) = mrg lt U [z]) := Lib.hid (by rw [List.take_succ_eq_append_getElem (by rw [HN.out]; exact htn), isrt_snoc, hU, hz])
      have R0 : Hid (RowW wr B g c (P ++ (U ++ (z :: ([] ++ R))))) := Lib.hid (by
        have := RR.out
        rw [hU, List.drop_eq_getElem_cons (by rw [HN.out]; exact htn), hz, List.cons_append, hR] at this
        exact this)
      have lR : P.length + t + 1 + R.length = N := by rw [← hR, ← HL.out]; simp [HN.out]; omega
      have HRR := Lib.hid hR; have LU := Lib.hid lU
      clear hz hU hR lU RR
      go_wp2
      go_loopw [9] (fun v wy => ∃ j J : Nat, j ≤ t ∧ Hid (J = a + j) ∧ v = .int .i64 (J : Int) ∧ (∃ U1 U2, U = U1 ++ U2 ∧ U1.length = j ∧ (∀ u ∈ U2, lt z u = true) ∧ RowW wy B g c (P ++ (U1 ++ (z :: (U2 ++ R))))) ∧ w.grownBy wy (some g)) (fun v _ => (RowKit.intOf v).toNat)
      case atStart => exact ⟨t, T, Nat.le_refl _, HT, rfl, ⟨U, [], by simp, LU.out, by simp, R0.out⟩, GR.out⟩
      case round =>
        obtain ⟨j, I, hjt, HI, rfl, ⟨U1, U2, e1, l1, hU2, hr⟩, hg⟩ := hrel
        clear R0 GR
        have RR := Lib.hid hr; have GR := Lib.hid hg; have E1 := Lib.hid e1; have L1 := Lib.hid l1; have H2 := Lib.hid hU2
        clear hr hg hU2 e1 l1
        rcases Nat.eq_zero_or_pos j with hj0 | hj0
        · subst hj0
          obtain rfl := List.eq_nil_of_length_eq_zero L1.out
          have NE : Hid (mrg lt U [z] = z :: U2) := Lib.hid (by rw [E1.out]; exact mrg_one (U1 := []) (by simp) H2.out)
          obtain rfl : I = a := by have := HI.out; omega
          have ng : ¬ (I : Int) > (I : Int) := by omega
          go_wp2_with fail
          generalize hQ : Exit.then _ _ = QX
          have GD := Lib.hid (grDW GR.out)
          have RD := Lib.hid (show RowW wr.drew B g c (P ++ (mrg lt U [z] ++ R)) by rw [NE.out]; exact RR.out)
          have KE : QX .normal { tmps := #[.slice (some ⟨g, 0, none⟩) N c, .int .i64 (I : Int), .int .i64 (b : Int), .func (.func F) #[] caps, undef, undef, undef, undef, .int .i64 (T : Int), .int .i64 (I : Int), .int .i64 (I : Int), .int .i64 ((I : Int) + 1), .int .i64 (T : Int), .int .i64 (b : Int), .bool true, u15, u16, .int .i64 (T : Int), .int .i64 (I : Int), .int .i64 (I : Int), .bool false, .bool false, undef, undef, undef, undef, undef, undef, undef, undef, undef, undef, undef, undef, .bool false, u35, u36, u37, u38, u39, u40, u41, u42, u43, u44, u45, u46, u47, u48, u49, u50, u51, u52], defers := [] } wr.drew := by
            rw [← hQ]
            clear hQ
            simp only [Exit.then]
            generalize wr.drew = w9 at GD RD ⊢
            rw [← NX.out, ← HRR.out] at RD
            clear RR GR E1 L1 H2 NE NX
            go_wp2
            go_roundw
            case rel => exact ⟨t + 1, T + 1, by omega, by omega, Lib.hid (by have := HT.out; omega), by go_num, RD.out, GD.out⟩
            case measure => simp [intOf]; omega
          refine rg_last (by kernel_rfl) rfl (S := fun U => True) ?_
          refine rgd_pure 0 (some 18) rfl rfl (.int .i64 (I : Int)) (by kernel_rfl) (by kernel_rfl) (by kernel_rfl) (fun _ _ _ _ h => h) (by kernel_rfl) (fun w => by kernel_rfl) trivial ?_
          refine rgd_pure 1 (some 19) rfl rfl (.int .i64 (I : Int)) (by kernel_rfl) (by kernel_rfl) (by kernel_rfl) (fun _ _ _ _ h => h) (by kernel_rfl) (fun w => by kernel_rfl) trivial ?_
          refine rgd_pure 2 (some 20) rfl rfl (.bool false) (by kernel_rfl) (by kernel_rfl) (by kernel_rfl) (fun _ _ _ _ h => h) (by kernel_rfl) (fun w => exec_gtrGW _ _ _ _ rfl (I : Int) (I : Int) false (by simp) (by kernel_rfl) (by kernel_rfl) w) trivial ?_
          refine rgd_pure 3 (some 21) rfl rfl (.bool false) (by kernel_rfl) (by kernel_rfl) (by kernel_rfl) (fun _ _ _ _ h => h) (by kernel_rfl) (fun w => by kernel_rfl) trivial ?_
          refine rgd_skip 4 (some 22) rfl rfl (by kernel_rfl) (by kernel_rfl) (by kernel_rfl) (fun _ _ _ _ h => h) (by kernel_rfl) trivial ?_
          refine rgd_skip 5 (some 23) rfl rfl (by kernel_rfl) (by kernel_rfl) (by kernel_rfl) (fun _ _ _ _ h => h) (by kernel_rfl) trivial ?_
          refine rgd_skip 6 (some 24) rfl rfl (by kernel_rfl) (by kernel_rfl) (by kernel_rfl) (fun _ _ _ _ h => h) (by kernel_rfl) trivial ?_
          refine rgd_skip 7 (some 25) rfl rfl (by kernel_rfl) (by kernel_rfl) (by kernel_rfl) (fun _ _ _ _ h => h) (by kernel_rfl) trivial ?_
          refine rgd_skip 8 (some 26) rfl rfl (by kernel_rfl) (by kernel_rfl) (by kernel_rfl) (fun _ _ _ _ h => h) (by kernel_rfl) trivial ?_
          refine rgd_skip 9 (some 27) rfl rfl (by kernel_rfl) (by kernel_rfl) (by kernel_rfl) (fun _ _ _ _ h => h) (by kernel_rfl) trivial ?_
          refine rgd_skip 10 (some 28) rfl rfl (by kernel_rfl) (by kernel_rfl) (by kernel_rfl) (fun _ _ _ _ h => h) (by kernel_rfl) trivial ?_
          refine rgd_skip 11 (some 29) rfl rfl (by kernel_rfl) (by kernel_rfl) (by kernel_rfl) (fun _ _ _ _ h => h) (by kernel_rfl) trivial ?_
          refine rgd_skip 12 (some 30) rfl rfl (by kernel_rfl) (by kernel_rfl) (by kernel_rfl) (fun _ _ _ _ h => h) (by kernel_rfl) trivial ?_
          refine rgd_skip 13 (some 31) rfl rfl (by kernel_rfl) (by kernel_rfl) (by kernel_rfl) (fun _ _ _ _ h => h) (by kernel_rfl) trivial ?_
          refine rgd_skip 14 (some 32) rfl rfl (by kernel_rfl) (by kernel_rfl) (by kernel_rfl) (fun _ _ _ _ h => h) (by kernel_rfl) trivial ?_
          refine rgd_skip 15 (some 33) rfl rfl (by kernel_rfl) (by kernel_rfl) (by kernel_rfl) (fun _ _ _ _ h => h) (by kernel_rfl) trivial ?_
          refine rgd_pure 16 (some 34) rfl rfl (.bool false) (by kernel_rfl) (by kernel_rfl) (by kernel_rfl) (fun _ _ _ _ h => h) (by kernel_rfl) (fun w => by kernel_rfl) trivial ?_
          exact wpAnyH_done (by kernel_rfl) (Eq.mp (by kernel_rfl) KE) _
        · obtain ⟨x, U3, e3, l3⟩ : ∃ x U3, U1 = U3 ++ [x] ∧ U3.length = j - 1 := by
            have h1 := L1.out
            have hne : U1 ≠ [] := by intro e; rw [e] at h1; simp at h1; omega
            exact ⟨U1.getLast hne, U1.dropLast, (List.dropLast_concat_getLast hne).symm, by rw [List.length_dropLast]; omega⟩
          have hI := HI.out
          have ga : (I : Int) > (a : Int) := by omega
          obtain ⟨J, hJ⟩ : ∃ J, J = a + (j - 1) := ⟨_, rfl⟩
          obtain ⟨LL, hLL⟩ : ∃ LL, P ++ (U1 ++ (z :: (U2 ++ R))) = LL := ⟨_, rfl⟩
          have lLL : LL.length = N := by
            have h1 := congrArg List.length E1.out; have h2 := L1.out; have h3 := LU.out
            rw [← hLL]; simp at h1 ⊢; omega
          have hTI : I ≤ T := by have := HT.out; omega
          have hlI : I < LL.length := by have h3 := LU.out; have := HA.out; have := HT.out; rw [lLL]; omega
          have hlJ : J < LL.length := by have := hlI; omega
          have e4 : LL = (P ++ U3) ++ x :: ([] ++ z :: (U2 ++ R)) := by rw [← hLL, e3]; simp
          have eJ : J = (P ++ U3).length := by rw [List.length_append, l3, hJ, HA.out]
          have eI : I = (P ++ U3).length + 1 + ([] : List Wr).length := by rw [List.length_append, l3, hI, HA.out]; simp; omega
          have LJ : LL[J]'hlJ = x := by subst e4; subst eJ; simp
          have LI : LL[I]'hlI = z := by
            subst e4; subst eI
            rw [List.getElem_append_right (by omega)]
            simp
          have RL0 := RR.out
          rw [hLL] at RL0
          have RL := Lib.hid RL0
          have hJI : (I : Int) - 1 = (J : Int) := by omega
          have e4' := e4
          obtain ⟨bz, hbz⟩ : ∃ q, lt z x = q := ⟨_, rfl⟩
          have HBZ := Lib.hid hbz
          have E3 := Lib.hid e3; have L3 := Lib.hid l3; have EJ := Lib.hid eJ; have EI := Lib.hid eI; have E4 := Lib.hid e4'
          have hIN : I ≤ 1000000 := by omega
          have hJb : J + 1 = I := by omega
          have HJ := Lib.hid hJ
          clear RL0 hLL e4 e4' eJ eI hbz e3 l3 RR hJ hI
          go_wp2_with fail
          generalize hQ : Exit.then _ _ = QX
          have hbz2 : lt z x = bz := HBZ.out
          have KE1 : ∀ (iv : Int) (V2 : World), RowW V2 B g c LL → w.grownBy V2 (some g) → QX .normal { tmps := #[.slice (some ⟨g, 0, none⟩) N c, .int .i64 (a : Int), .int .i64 (b : Int), .func (.func F) #[] caps, undef, undef, undef, undef, .int .i64 (T : Int), .int .i64 (I : Int), .int .i64 (a : Int), .int .i64 ((a : Int) + 1), .int .i64 (T : Int), .int .i64 (b : Int), .bool true, u15, u16, .int .i64 (T : Int), .int .i64 (I : Int), .int .i64 (a : Int), .bool true, .bool true, .func (.func F) #[] caps, .slice (some ⟨g, 0, none⟩) N c, .int .i64 (I : Int), .pointer (some ⟨g, 0 + I * 6, none⟩), .agg z.cells.toArray, .slice (some ⟨g, 0, none⟩) N c, .int .i64 (I : Int), .int .i64 (J : Int), .pointer (some ⟨g, 0 + J * 6, none⟩), .agg x.cells.toArray, .int .i64 iv, .bool bz, .bool bz, u35, u36, u37, u38, u39, u40, u41, u42, u43, u44, u45, u46, u47, u48, u49, u50, u51, u52], defers := [] } V2 := by
            intro iv V2 hr hg
            rw [← hQ]
            clear hQ
            simp only [Exit.then]
            have R2 := Lib.hid hr; have G2 := Lib.hid hg
            clear hr hg RL GR
            cases bz with
            | false =>
              have NE : Hid (mrg lt U [z] = U1 ++ z :: U2) := Lib.hid (by
                have hs : Srt lt U1 := by have := SU.out; rw [E1.out] at this; exact (List.pairwise_append.1 this).1
                rw [E1.out]
                refine mrg_one (fun u hu => ?_) H2.out
                have l1 : U1.length = (j - 1) + 1 := by have := L1.out; omega
                have hx : U1[j - 1]'(by omega) = x := by simp only [E3.out]; rw [List.getElem_append_right (by have := L3.out; omega)]; simp
                have := srt_upto HW.out hs (s := j - 1) (by omega) (z := z) (by rw [hx]; exact hbz2)
                rw [← l1, List.take_length] at this
                exact this u hu)
              have RN : Hid (RowW V2 B g c (P ++ (isrt lt (M.take (t + 1)) ++ (M.drop (t + 1) ++ S)))) := Lib.hid (by
                rw [NX.out, NE.out, HRR.out]
                have := R2.out
                rw [E4.out] at this
                have e : (P ++ U3) ++ x :: ([] ++ z :: (U2 ++ R)) = P ++ (U1 ++ z :: U2 ++ R) := by rw [E3.out]; simp
                rw [e] at this
                exact this)
              clear NE R2 E1 L1 H2 E3 L3 EJ EI E4 LI LJ hbz2 HBZ NX
              go_wp2
              go_roundw
              case rel => exact ⟨t + 1, T + 1, by omega, by omega, Lib.hid (by have := HT.out; omega), by go_num, RN.out, G2.out⟩
              case measure => simp [intOf]; omega
            | true =>
              go_wp2_with fail
              generalize hQ : Exit.inBlock _ _ = QX
              have RD : RowW V2.drew B g c LL := R2.out
              have RZ := Lib.hid ((RD.set (i := I) hlI x).set (i := J) (by rw [List.length_set]; exact hlJ) z)
              have GZ := Lib.hid (grTW (grTW (grDW G2.out) (grown_setCells g x.cells V2.drew (I * 6))) (grown_setCells g z.cells _ (J * 6)))
              have SM : Hid ((LL.set I x).set J z = P ++ (U3 ++ (z :: (([x] ++ U2) ++ R)))) := Lib.hid (by
                have h1 := swap_mid (P ++ U3) [] (U2 ++ R) x z
                rw [List.set_comm _ _ (by simp)] at h1
                rw [E4.out, EI.out, EJ.out]
                rw [h1]
                simp)
              rw [SM.out] at RZ
              have KE : QX .normal { tmps := #[.slice (some ⟨g, 0, none⟩) N c, .int .i64 (a : Int), .int .i64 (b : Int), .func (.func F) #[] caps, undef, undef, undef, undef, .int .i64 (T : Int), .int .i64 (I : Int), .int .i64 (a : Int), .int .i64 ((a : Int) + 1), .int .i64 (T : Int), .int .i64 (b : Int), .bool true, u15, u16, .int .i64 (T : Int), .int .i64 (I : Int), .int .i64 (a : Int), .bool true, .bool true, .func (.func F) #[] caps, .slice (some ⟨g, 0, none⟩) N c, .int .i64 (I : Int), .pointer (some ⟨g, 0 + I * 6, none⟩), .agg z.cells.toArray, .slice (some ⟨g, 0, none⟩) N c, .int .i64 (I : Int), .int .i64 (J : Int), .pointer (some ⟨g, 0 + J * 6, none⟩), .agg x.cells.toArray, .int .i64 iv, .bool true, .bool true, u35, u36, .slice (some ⟨g, 0, none⟩) N c, .int .i64 (I : Int), .slice (some ⟨g, 0, none⟩) N c, .int .i64 (I : Int), .int .i64 (J : Int), .slice (some ⟨g, 0, none⟩) N c, .int .i64 (I : Int), .int .i64 (J : Int), .pointer (some ⟨g, 0 + J * 6, none⟩), .agg x.cells.toArray, .slice (some ⟨g, 0, none⟩) N c, .int .i64 (I : Int), .pointer (some ⟨g, 0 + I * 6, none⟩), .agg z.cells.toArray, .pointer (some ⟨g, 0 + I * 6, none⟩), .pointer (some ⟨g, 0 + J * 6, none⟩)], defers := [] } ((V2.drew.setCells g (I * 6) x.cells).setCells g (J * 6) z.cells) := by
                rw [← hQ]
                clear hQ
                simp only [Exit.inBlock, Exit.then]
                generalize ((V2.drew.setCells g (I * 6) x.cells).setCells g (J * 6) z.cells) = w9 at RZ GZ ⊢
                have H2' : Hid (∀ u ∈ [x] ++ U2, lt z u = true) := Lib.hid fun u hu => by
                  rcases List.mem_append.1 hu with hu | hu
                  · rw [List.mem_singleton.1 hu]; exact hbz2
                  · exact H2.out u hu
                have E1' : Hid (U = U3 ++ ([x] ++ U2)) := Lib.hid (by rw [E1.out, E3.out]; simp)
                clear RD R2 G2 LI LJ hbz2 HBZ E1 H2 E3 E4 EI EJ SM
                go_wp2
                go_roundw
                case rel => exact ⟨j - 1, J, by omega, HJ, rfl, ⟨U3, [x] ++ U2, E1'.out, L3.out, H2'.out, RZ.out⟩, GZ.out⟩
                case measure => simp [intOf]; omega
              refine rg_last (by kernel_rfl) rfl (S := fun _ => True) ?_
              refine rgd_pure 0 (some 37) rfl rfl (.slice (some ⟨g, 0, none⟩) N c) (by kernel_rfl) (by kernel_rfl) (by kernel_rfl) (fun _ _ _ _ h => h) (by kernel_rfl) (exec_is _ (.inl rfl) _ (by kernel_rfl)) trivial ?_
              refine rgd_pure 1 (some 38) rfl rfl (.int .i64 (I : Int)) (by kernel_rfl) (by kernel_rfl) (by kernel_rfl) (fun _ _ _ _ h => h) (by kernel_rfl) (exec_is _ (.inl rfl) _ (by kernel_rfl)) trivial ?_
              refine rgd_pure 2 (some 39) rfl rfl (.slice (some ⟨g, 0, none⟩) N c) (by kernel_rfl) (by kernel_rfl) (by kernel_rfl) (fun _ _ _ _ h => h) (by kernel_rfl) (exec_is _ (.inl rfl) _ (by kernel_rfl)) trivial ?_
              refine rgd_pure 3 (some 40) rfl rfl (.int .i64 (I : Int)) (by kernel_rfl) (by kernel_rfl) (by kernel_rfl) (fun _ _ _ _ h => h) (by kernel_rfl) (exec_is _ (.inl rfl) _ (by kernel_rfl)) trivial ?_
              refine rgd_pure 4 (some 41) rfl rfl (.int .i64 (J : Int)) (by kernel_rfl) (by kernel_rfl) (by kernel_rfl) (fun _ _ _ _ h => h) (by kernel_rfl) (fun w => exec_subGW _ _ _ _ rfl (I : Int) 1 (J : Int) (by rw [IntKind.wrap_i64]; omega) (by kernel_rfl) (by kernel_rfl) w) trivial ?_
              refine rgd_pure 5 (some 42) rfl rfl (.slice (some ⟨g, 0, none⟩) N c) (by kernel_rfl) (by kernel_rfl) (by kernel_rfl) (fun _ _ _ _ h => h) (by kernel_rfl) (exec_is _ (.inl rfl) _ (by kernel_rfl)) trivial ?_
              refine rgd_pure 6 (some 43) rfl rfl (.int .i64 (I : Int)) (by kernel_rfl) (by kernel_rfl) (by kernel_rfl) (fun _ _ _ _ h => h) (by kernel_rfl) (exec_is _ (.inl rfl) _ (by kernel_rfl)) trivial ?_
              refine rgd_pure 7 (some 44) rfl rfl (.int .i64 (J : Int)) (by kernel_rfl) (by kernel_rfl) (by kernel_rfl) (fun _ _ _ _ h => h) (by kernel_rfl) (fun w => exec_subGW _ _ _ _ rfl (I : Int) 1 (J : Int) (by rw [IntKind.wrap_i64]; omega) (by kernel_rfl) (by kernel_rfl) w) trivial ?_
              refine rgd_pure 8 (some 45) rfl rfl (.pointer (some ⟨g, 0 + J * 6, none⟩)) (by kernel_rfl) (by kernel_rfl) (by kernel_rfl) (fun _ _ _ _ h => h) (by kernel_rfl) (fun w => exec_idxW _ _ rfl g 0 N c J (by kernel_rfl) (by kernel_rfl) (by omega) w) trivial ?_
              refine rgd_pure 10 (some 47) rfl rfl (.slice (some ⟨g, 0, none⟩) N c) (by kernel_rfl) (by kernel_rfl) (by kernel_rfl) (fun _ _ _ _ h => h) (by kernel_rfl) (exec_is _ (.inl rfl) _ (by kernel_rfl)) trivial ?_
              refine rgd_pure 11 (some 48) rfl rfl (.int .i64 (I : Int)) (by kernel_rfl) (by kernel_rfl) (by kernel_rfl) (fun _ _ _ _ h => h) (by kernel_rfl) (exec_is _ (.inl rfl) _ (by kernel_rfl)) trivial ?_
              refine rgd_pure 12 (some 49) rfl rfl (.pointer (some ⟨g, 0 + I * 6, none⟩)) (by kernel_rfl) (by kernel_rfl) (by kernel_rfl) (fun _ _ _ _ h => h) (by kernel_rfl) (fun w => exec_idxW _ _ rfl g 0 N c I (by kernel_rfl) (by kernel_rfl) (by omega) w) trivial ?_
              refine rgd_acts 9 13 (some 46) (some 50) (by kernel_rfl) rfl rfl (by kernel_rfl) (.agg x.cells.toArray) V2.drew (exec_ldW _ rfl RD J hlJ x LJ (by kernel_rfl)) trivial rfl rfl (by kernel_rfl) (.agg z.cells.toArray) V2.drew (exec_ldW _ rfl RD I hlI z LI (by kernel_rfl)) trivial ?_ ?_
              · refine rgd_run 13 (some 50) (by kernel_rfl) rfl rfl (by kernel_rfl) (.agg z.cells.toArray) V2.drew (exec_ldW _ rfl RD I hlI z LI (by kernel_rfl)) trivial ?_
                refine rgd_pure 14 (some 51) rfl rfl (.pointer (some ⟨g, 0 + I * 6, none⟩)) (by kernel_rfl) (by kernel_rfl) (by kernel_rfl) (fun _ _ _ _ h => h) (by kernel_rfl) (fun w => exec_idxW _ _ rfl g 0 N c I (by kernel_rfl) (by kernel_rfl) (by omega) w) trivial ?_
                refine rgd_do 15 none (by kernel_rfl) rfl rfl (by kernel_rfl) (V2.drew.setCells g (I * 6) x.cells) (exec_stW _ _ rfl RD I hlI x (by kernel_rfl) (by kernel_rfl)) trivial ?_
                refine rgd_pure 16 (some 52) rfl rfl (.pointer (some ⟨g, 0 + J * 6, none⟩)) (by kernel_rfl) (by kernel_rfl) (by kernel_rfl) (fun _ _ _ _ h => h) (by kernel_rfl) (fun w => exec_idxW _ _ rfl g 0 N c J (by kernel_rfl) (by kernel_rfl) (by omega) w) trivial ?_
                refine rgd_do 17 none (by kernel_rfl) rfl rfl (by kernel_rfl) ((V2.drew.setCells g (I * 6) x.cells).setCells g (J * 6) z.cells) (exec_stW _ _ rfl (RD.set (i := I) hlI x) J (by rw [List.length_set]; exact hlJ) z (by kernel_rfl) (by kernel_rfl)) trivial ?_
                exact wpAnyH_done (by kernel_rfl) (Eq.mp (by kernel_rfl) KE) _
              · refine rgd_run 9 (some 46) (by kernel_rfl) rfl rfl (by kernel_rfl) (.agg x.cells.toArray) V2.drew (exec_ldW _ rfl RD J hlJ x LJ (by kernel_rfl)) trivial ?_
                refine rgd_pure 14 (some 51) rfl rfl (.pointer (some ⟨g, 0 + I * 6, none⟩)) (by kernel_rfl) (by kernel_rfl) (by kernel_rfl) (fun _ _ _ _ h => h) (by kernel_rfl) (fun w => exec_idxW _ _ rfl g 0 N c I (by kernel_rfl) (by kernel_rfl) (by omega) w) trivial ?_
                refine rgd_do 15 none (by kernel_rfl) rfl rfl (by kernel_rfl) (V2.drew.setCells g (I * 6) x.cells) (exec_stW _ _ rfl RD I hlI x (by kernel_rfl) (by kernel_rfl)) trivial ?_
                refine rgd_pure 16 (some 52) rfl rfl (.pointer (some ⟨g, 0 + J * 6, none⟩)) (by kernel_rfl) (by kernel_rfl) (by kernel_rfl) (fun _ _ _ _ h => h) (by kernel_rfl) (fun w => exec_idxW _ _ rfl g 0 N c J (by kernel_rfl) (by kernel_rfl) (by omega) w) trivial ?_
                refine rgd_do 17 none (by kernel_rfl) rfl rfl (by kernel_rfl) ((V2.drew.setCells g (I * 6) x.cells).setCells g (J * 6) z.cells) (exec_stW _ _ rfl (RD.set (i := I) hlI x) J (by rw [List.length_set]; exact hlJ) z (by kernel_rfl) (by kernel_rfl)) trivial ?_
                exact wpAnyH_done (by kernel_rfl) (Eq.mp (by kernel_rfl) KE) _
          obtain ⟨AG, hAG⟩ : ∃ A, (#[.agg z.cells.toArray, .agg x.cells.toArray] ++ caps : Array Value) = A := ⟨_, rfl⟩
          have TLL : Calls Tryz.prog F AG wr.drew (TellPW (lt z x) wr.drew) := by rw [← hAG]; exact TF.out.tell z x wr.drew
          have TLE : (callFunc F AG).run Tryz.prog wr.drew = .ok (.enter F AG) wr.drew := TF.out.enter _ _
          have h0 : RowW wr.drew B g c LL ∧ w.grownBy wr.drew (some g) := ⟨RL.out, grDW GR.out⟩
          refine rg_last (by kernel_rfl) rfl (S := fun U => RowW U B g c LL ∧ w.grownBy U (some g)) ?_
          refine rgd_pure 0 (some 18) rfl rfl (.int .i64 (I : Int)) (by kernel_rfl) (by kernel_rfl) (by kernel_rfl) (fun _ _ _ _ h => h) (by kernel_rfl) (fun w => by kernel_rfl) h0 ?_
          refine rgd_pure 1 (some 19) rfl rfl (.int .i64 (a : Int)) (by kernel_rfl) (by kernel_rfl) (by kernel_rfl) (fun _ _ _ _ h => h) (by kernel_rfl) (fun w => by kernel_rfl) h0 ?_
          refine rgd_pure 2 (some 20) rfl rfl (.bool true) (by kernel_rfl) (by kernel_rfl) (by kernel_rfl) (fun _ _ _ _ h => h) (by kernel_rfl) (fun w => exec_gtrGW _ _ _ _ rfl (I : Int) (a : Int) true (by simpa using ga) (by kernel_rfl) (by kernel_rfl) w) h0 ?_
          refine rgd_pure 3 (some 21) rfl rfl (.bool true) (by kernel_rfl) (by kernel_rfl) (by kernel_rfl) (fun _ _ _ _ h => h) (by kernel_rfl) (fun w => by kernel_rfl) h0 ?_
          refine rgd_pure 4 (some 22) rfl rfl (.func (.func F) #[] caps) (by kernel_rfl) (by kernel_rfl) (by kernel_rfl) (fun _ _ _ _ h => h) (by kernel_rfl) (fun w => by kernel_rfl) h0 ?_
          refine rgd_pure 5 (some 23) rfl rfl (.slice (some ⟨g, 0, none⟩) N c) (by kernel_rfl) (by kernel_rfl) (by kernel_rfl) (fun _ _ _ _ h => h) (by kernel_rfl) (fun w => by kernel_rfl) h0 ?_
          refine rgd_pure 6 (some 24) rfl rfl (.int .i64 (I : Int)) (by kernel_rfl) (by kernel_rfl) (by kernel_rfl) (fun _ _ _ _ h => h) (by kernel_rfl) (fun w => by kernel_rfl) h0 ?_
          refine rgd_pure 7 (some 25) rfl rfl (.pointer (some ⟨g, 0 + I * 6, none⟩)) (by kernel_rfl) (by kernel_rfl) (by kernel_rfl) (fun _ _ _ _ h => h) (by kernel_rfl) (fun w => exec_idxW _ _ rfl g 0 N c I (by kernel_rfl) (by kernel_rfl) (by omega) w) h0 ?_
          refine rgd_pureS 8 (some 26) rfl rfl (.agg z.cells.toArray) (by kernel_rfl) (by kernel_rfl) (by kernel_rfl) (fun _ _ _ _ h => h) (by kernel_rfl) (fun U hU => exec_ldW _ rfl hU.1 I hlI z LI (by kernel_rfl)) h0 ?_
          refine rgd_pure 9 (some 27) rfl rfl (.slice (some ⟨g, 0, none⟩) N c) (by kernel_rfl) (by kernel_rfl) (by kernel_rfl) (fun _ _ _ _ h => h) (by kernel_rfl) (fun w => by kernel_rfl) h0 ?_
          refine rgd_pure 10 (some 28) rfl rfl (.int .i64 (I : Int)) (by kernel_rfl) (by kernel_rfl) (by kernel_rfl) (fun _ _ _ _ h => h) (by kernel_rfl) (fun w => by kernel_rfl) h0 ?_
          refine rgd_pure 11 (some 29) rfl rfl (.int .i64 (J : Int)) (by kernel_rfl) (by kernel_rfl) (by kernel_rfl) (fun _ _ _ _ h => h) (by kernel_rfl) (fun w => exec_subGW _ _ _ _ rfl (I : Int) 1 (J : Int) (by rw [IntKind.wrap_i64]; omega) (by kernel_rfl) (by kernel_rfl) w) h0 ?_
          refine rgd_pure 12 (some 30) rfl rfl (.pointer (some ⟨g, 0 + J * 6, none⟩)) (by kernel_rfl) (by kernel_rfl) (by kernel_rfl) (fun _ _ _ _ h => h) (by kernel_rfl) (fun w => exec_idxW _ _ rfl g 0 N c J (by kernel_rfl) (by kernel_rfl) (by omega) w) h0 ?_
          refine rgd_pureS 13 (some 31) rfl rfl (.agg x.cells.toArray) (by kernel_rfl) (by kernel_rfl) (by kernel_rfl) (fun _ _ _ _ h => h) (by kernel_rfl) (fun U hU => exec_ldW _ rfl hU.1 J hlJ x LJ (by kernel_rfl)) h0 ?_
          refine rgd_call 14 (some 32) (by kernel_rfl) rfl rfl (by kernel_rfl) F AG (exec_tellW _ _ _ rfl F caps (by kernel_rfl) _ AG (by kernel_rfl) hAG TLE) TLL ?_
          rintro _ V1 ⟨iv, rfl, hiv, hb1⟩
          have h1 : RowW V1 B g c LL ∧ w.grownBy V1 (some g) := ⟨h0.1.kept hb1, grTW h0.2 (grBW hb1)⟩
          rw [hbz2] at hiv
          refine ⟨_, rfl, h1, ?_⟩
          refine rgd_pure 15 (some 33) rfl rfl (.bool bz) (by kernel_rfl) (by kernel_rfl) (by kernel_rfl) (fun _ _ _ _ h => h) (by kernel_rfl) (fun w => exec_lss _ _ _ _ rfl iv 0 bz hiv (by kernel_rfl) (by kernel_rfl) w) h1 ?_
          refine rgd_pure 16 (some 34) rfl rfl (.bool bz) (by kernel_rfl) (by kernel_rfl) (by kernel_rfl) (fun _ _ _ _ h => h) (by kernel_rfl) (fun w => by kernel_rfl) h1 ?_
          exact wpAnyH_done (by kernel_rfl) (Eq.mp (by kernel_rfl) (KE1 iv V1 h1.1 h1.2)) _
    · have htn' : ¬ (T : Int) < (b : Int) := by have := HT.out; have := HB.out; omega
      have RF : Hid (RowW wr B g c (P ++ (isrt lt M ++ S))) := Lib.hid (by
        have := RR.out
        rw [List.take_of_length_le (by rw [HN.out]; omega), List.drop_of_length_le (by rw [HN.out]; omega)] at this
        exact this)
      clear RR
      go_wp2
      exact bodyPost_end (results_none rfl _ _ _) rfl ⟨rfl, RF.out, GR.out⟩
end Go.Proofs.YtijmijokgenflaaGreatDoor
