/- The statement StandingPatches, proved for every input that its row reads: part 15 of 54. -/
import Derived.Test.YtnjopndkommjnaaDoorPackStandingPatches14
/- swapRangeCmpFunc: two pieces of a row, as long, changed about. -/
namespace Go.Proofs.YtnjopndkommjnaaDoor
open Go Go.RowKit
set_option linter.unusedVariables false
set_option maxRecDepth 1000000

/-- a row behind a call -/
def SwC (w : World) (B g c : Nat) (L : List Chg) (e : Ending) (w' : World) : Prop := e = .returned (.tuple #[]) ∧ RowC w' B g c L ∧ w.grownBy w' (some g)
theorem exec_subGC {P : Program} {o : Oper} {a : Act} (t yt : TypeId) (x y : Operand) (ho : o.op = .binOp .sub t x y yt) (X Y R : Int) (hR : IntKind.i64.wrap (X - Y) = R) (hx : a.eval x = .int .i64 X) (hy : a.eval y = .int .i64 Y) (w : World) :
    (execOp a.eval o).run P w = .ok (.value (.int .i64 R)) w := by
  subst hR
  unfold execOp
  simp only [ho, hx, hy]
  rfl
theorem swr_step {α : Type} (P X M Y S : List α) (i : Nat) (hX : i < X.length) (hY : i < Y.length) :
    ∃ Q R, P ++ (Y.take i ++ X.drop i ++ (M ++ (X.take i ++ Y.drop i ++ S))) = (P ++ Y.take i) ++ X[i] :: (Q ++ Y[i] :: R) ∧ (P ++ Y.take i).length = P.length + i ∧ P.length + i + 1 + Q.length = P.length + X.length + M.length + i ∧
      P ++ (Y.take (i + 1) ++ X.drop (i + 1) ++ (M ++ (X.take (i + 1) ++ Y.drop (i + 1) ++ S))) = (P ++ Y.take i) ++ Y[i] :: (Q ++ X[i] :: R) := by
  refine ⟨X.drop (i + 1) ++ (M ++ X.take i), Y.drop (i + 1) ++ S, ?_, by simp; omega, by simp; omega, ?_⟩
  · rw [List.drop_eq_getElem_cons hX, List.drop_eq_getElem_cons hY]; simp only [List.append_assoc, List.cons_append, List.nil_append]
  · rw [List.take_succ_eq_append_getElem hX, List.take_succ_eq_append_getElem hY]; simp only [List.append_assoc, List.cons_append, List.nil_append]
set_option maxHeartbeats 1000000 in
theorem swapRC_is (B g c N : Nat) (P X M Y S : List Chg) (a b n : Nat) (fv : Value) (w : World) (hN : (P ++ (X ++ (M ++ (Y ++ S)))).length = N) (h : RowC w B g c (P ++ (X ++ (M ++ (Y ++ S))))) (ha : a = P.length) (hb : b = P.length + X.length + M.length) (hn : n = X.length) (hXY : X.length = Y.length) (hbig : N ≤ 1000000) :
    Calls Tryd.prog 63 #[.slice (some ⟨g, 0, none⟩) N c, .int .i64 (a : Int), .int .i64 (b : Int), .int .i64 (n : Int), fv] w (SwC w B g c (P ++ (Y ++ (M ++ (X ++ S))))) := by
  have HR := Lib.hid h; have HA := Lib.hid ha; have HB := Lib.hid hb; have HN := Lib.hid hn; have HXY := Lib.hid hXY; have HL := Lib.hid hN
  have la : a + n ≤ N := by rw [← hN, ha, hn]; simp
  have lb : b + n ≤ N := by rw [← hN, hb, hn]; simp; omega
  clear h ha hb hn hXY hN
  go_enter Tryd.func63, Tryd.ntmps63
  go_wp2
  go_loopw [10] (fun v wr => ∃ i : Nat, i ≤ n ∧ v = .int .i64 i ∧ RowC wr B g c (P ++ (Y.take i ++ X.drop i ++ (M ++ (X.take i ++ Y.drop i ++ S)))) ∧ w.grownBy wr (some g)) (fun v _ => n - (RowKit.intOf v).toNat)
  case atStart => exact ⟨0, Nat.zero_le _, rfl, by simpa using HR.out, grRC _ _⟩
  case round =>
    obtain ⟨i, hi, rfl, hr, hg⟩ := hrel
    have RR := Lib.hid hr; have GR := Lib.hid hg
    clear hr hg
    by_cases hin : i < n
    · have hin' : (i : Int) < n := by omega
      obtain ⟨Q, R, e1, l1, l2, e2⟩ := swr_step P X M Y S i (by rw [← HN.out]; exact hin) (by rw [← HXY.out, ← HN.out]; exact hin)
      have E2 := Lib.hid e2
      have R0 := RR.out
      rw [e1] at R0
      obtain ⟨x, hx⟩ : ∃ x, X[i]'(by rw [← HN.out]; exact hin) = x := ⟨_, rfl⟩
      obtain ⟨y, hy⟩ : ∃ y, Y[i]'(by rw [← HXY.out, ← HN.out]; exact hin) = y := ⟨_, rfl⟩
      rw [hx, hy] at R0 E2
      obtain ⟨I, hI⟩ : ∃ I, I = a + i := ⟨_, rfl⟩
      obtain ⟨J, hJ⟩ : ∃ J, J = b + i := ⟨_, rfl⟩
      have eI : I = (P ++ Y.take i).length := by rw [l1, hI, HA.out]
      have eJ : J = (P ++ Y.take i).length + 1 + Q.length := by rw [l1, l2, hJ, HB.out]
      clear e1 e2 l1 l2 hx hy
      generalize P ++ Y.take i = PP at R0 E2 eI eJ
      obtain ⟨LL, hLL⟩ : ∃ LL, PP ++ x :: (Q ++ y :: R) = LL := ⟨_, rfl⟩
      have lLL : LL.length = N := by rw [← hLL, ← HL.out]; have := congrArg List.length E2.out; simp at this ⊢; have h3 := HXY.out; omega
      have hlI : I < LL.length := by rw [lLL]; omega
      have hlJ : J < LL.length := by rw [lLL]; omega
      have LI : LL[I]'hlI = x := by subst hLL; subst eI; simp
      have LJ : LL[J]'hlJ = y := by
        subst hLL; subst eJ
        rw [List.getElem_append_right (by omega)]
        simp [show PP.length + 1 + Q.length - PP.length = Q.length + 1 by omega]
      have SM : Hid ((LL.set I y).set J x = PP ++ y :: (Q ++ x :: R)) := Lib.hid (by rw [← hLL, eJ, eI]; exact swap_mid PP Q R x y)
      rw [hLL] at R0
      have RW0 := Lib.hid R0
      clear R0 eI eJ hLL
      go_wp2_with fail
      generalize hQ : Exit.inBlock _ _ = QX
      have RD : RowC wr.drew B g c LL := RW0.out
      have RZ := Lib.hid ((RD.set (i := I) hlI y).set (i := J) (by rw [List.length_set]; exact hlJ) x)
      have GZ := Lib.hid (grTC (grTC (grDC GR.out) (grown_setCells g y.cells wr.drew (I * 3))) (grown_setCells g x.cells _ (J * 3)))
      rw [SM.out] at RZ
      have KE : QX .normal { tmps := #[.slice (some ⟨g, 0, none⟩) N c, .int .i64 (a : Int), .int .i64 (b : Int), .int .i64 (n : Int), fv, undef, undef, undef, undef, undef, .int .i64 (i : Int), .int .i64 (i : Int), .int .i64 (n : Int), .bool true, u14, u15, .slice (some ⟨g, 0, none⟩) N c, .int .i64 (a : Int), .int .i64 (i : Int), .int .i64 ((I : Nat) : Int), .slice (some ⟨g, 0, none⟩) N c, .int .i64 (b : Int), .int .i64 (i : Int), .int .i64 ((J : Nat) : Int), .slice (some ⟨g, 0, none⟩) N c, .int .i64 (b : Int), .int .i64 (i : Int), .int .i64 ((J : Nat) : Int), .pointer (some ⟨g, 0 + J * 3, none⟩), .agg y.cells.toArray, .slice (some ⟨g, 0, none⟩) N c, .int .i64 (a : Int), .int .i64 (i : Int), .int .i64 ((I : Nat) : Int), .pointer (some ⟨g, 0 + I * 3, none⟩), .agg x.cells.toArray, .pointer (some ⟨g, 0 + I * 3, none⟩), .pointer (some ⟨g, 0 + J * 3, none⟩)], defers := [] } ((wr.drew.setCells g (I * 3) y.cells).setCells g (J * 3) x.cells) := by
        rw [← hQ]
        clear hQ
        simp only [Exit.inBlock, Exit.then]
        generalize ((wr.drew.setCells g (I * 3) y.cells).setCells g (J * 3) x.cells) = w9 at RZ GZ ⊢
        clear RD RW0 RR LI LJ
        go_wp2
        go_roundw
        case rel => exact ⟨i + 1, by omega, by go_num, by rw [E2.out]; exact RZ.out, GZ.out⟩
        case measure => simp [intOf]; omega
      refine rg_last (by kernel_rfl) rfl (S := fun _ => True) ?_
      refine rgd_pure 0 (some 16) rfl rfl (.slice (some ⟨g, 0, none⟩) N c) (by kernel_rfl) (by kernel_rfl) (by kernel_rfl) (fun _ _ _ _ h => h) (by kernel_rfl) (exec_is _ (.inl rfl) _ (by kernel_rfl)) trivial ?_
      refine rgd_pure 1 (some 17) rfl rfl (.int .i64 (a : Int)) (by kernel_rfl) (by kernel_rfl) (by kernel_rfl) (fun _ _ _ _ h => h) (by kernel_rfl) (exec_is _ (.inl rfl) _ (by kernel_rfl)) trivial ?_
      refine rgd_pure 2 (some 18) rfl rfl (.int .i64 (i : Int)) (by kernel_rfl) (by kernel_rfl) (by kernel_rfl) (fun _ _ _ _ h => h) (by kernel_rfl) (exec_is _ (.inl rfl) _ (by kernel_rfl)) trivial ?_
      refine rgd_pure 3 (some 19) rfl rfl (.int .i64 ((I : Nat) : Int)) (by kernel_rfl) (by kernel_rfl) (by kernel_rfl) (fun _ _ _ _ h => h) (by kernel_rfl) (fun w => exec_addI _ _ _ _ rfl ((a : Int)) ((i : Int)) (((I : Nat) : Int)) (by rw [IntKind.wrap_i64]; omega) (by kernel_rfl) (by kernel_rfl) w) trivial ?_
      refine rgd_pure 4 (some 20) rfl rfl (.slice (some ⟨g, 0, none⟩) N c) (by kernel_rfl) (by kernel_rfl) (by kernel_rfl) (fun _ _ _ _ h => h) (by kernel_rfl) (exec_is _ (.inl rfl) _ (by kernel_rfl)) trivial ?_
      refine rgd_pure 5 (some 21) rfl rfl (.int .i64 (b : Int)) (by kernel_rfl) (by kernel_rfl) (by kernel_rfl) (fun _ _ _ _ h => h) (by kernel_rfl) (exec_is _ (.inl rfl) _ (by kernel_rfl)) trivial ?_
      refine rgd_pure 6 (some 22) rfl rfl (.int .i64 (i : Int)) (by kernel_rfl) (by kernel_rfl) (by kernel_rfl) (fun _ _ _ _ h => h) (by kernel_rfl) (exec_is _ (.inl rfl) _ (by kernel_rfl)) trivial ?_
      refine rgd_pure 7 (some 23) rfl rfl (.int .i64 ((J : Nat) : Int)) (by kernel_rfl) (by kernel_rfl) (by kernel_rfl) (fun _ _ _ _ h => h) (by kernel_rfl) (fun w => exec_addI _ _ _ _ rfl ((b : Int)) ((i : Int)) (((J : Nat) : Int)) (by rw [IntKind.wrap_i64]; omega) (by kernel_rfl) (by kernel_rfl) w) trivial ?_
      refine rgd_pure 8 (some 24) rfl rfl (.slice (some ⟨g, 0, none⟩) N c) (by kernel_rfl) (by kernel_rfl) (by kernel_rfl) (fun _ _ _ _ h => h) (by kernel_rfl) (exec_is _ (.inl rfl) _ (by kernel_rfl)) trivial ?_
      refine rgd_pure 9 (some 25) rfl rfl (.int .i64 (b : Int)) (by kernel_rfl) (by kernel_rfl) (by kernel_rfl) (fun _ _ _ _ h => h) (by kernel_rfl) (exec_is _ (.inl rfl) _ (by kernel_rfl)) trivial ?_
      refine rgd_pure 10 (some 26) rfl rfl (.int .i64 (i : Int)) (by kernel_rfl) (by kernel_rfl) (by kernel_rfl) (fun _ _ _ _ h => h) (by kernel_rfl) (exec_is _ (.inl rfl) _ (by kernel_rfl)) trivial ?_
      refine rgd_pure 11 (some 27) rfl rfl (.int .i64 ((J : Nat) : Int)) (by kernel_rfl) (by kernel_rfl) (by kernel_rfl) (fun _ _ _ _ h => h) (by kernel_rfl) (fun w => exec_addI _ _ _ _ rfl ((b : Int)) ((i : Int)) (((J : Nat) : Int)) (by rw [IntKind.wrap_i64]; omega) (by kernel_rfl) (by kernel_rfl) w) trivial ?_
      refine rgd_pure 12 (some 28) rfl rfl (.pointer (some ⟨g, 0 + J * 3, none⟩)) (by kernel_rfl) (by kernel_rfl) (by kernel_rfl) (fun _ _ _ _ h => h) (by kernel_rfl) (fun w => exec_idxC _ _ rfl g 0 N c J (by kernel_rfl) (by kernel_rfl) (by omega) w) trivial ?_
      refine rgd_pure 14 (some 30) rfl rfl (.slice (some ⟨g, 0, none⟩) N c) (by kernel_rfl) (by kernel_rfl) (by kernel_rfl) (fun _ _ _ _ h => h) (by kernel_rfl) (exec_is _ (.inl rfl) _ (by kernel_rfl)) trivial ?_
      refine rgd_pure 15 (some 31) rfl rfl (.int .i64 (a : Int)) (by kernel_rfl) (by kernel_rfl) (by kernel_rfl) (fun _ _ _ _ h => h) (by kernel_rfl) (exec_is _ (.inl rfl) _ (by kernel_rfl)) trivial ?_
      refine rgd_pure 16 (some 32) rfl rfl (.int .i64 (i : Int)) (by kernel_rfl) (by kernel_rfl) (by kernel_rfl) (fun _ _ _ _ h => h) (by kernel_rfl) (exec_is _ (.inl rfl) _ (by kernel_rfl)) trivial ?_
      refine rgd_pure 17 (some 33) rfl rfl (.int .i64 ((I : Nat) : Int)) (by kernel_rfl) (by kernel_rfl) (by kernel_rfl) (fun _ _ _ _ h => h) (by kernel_rfl) (fun w => exec_addI _ _ _ _ rfl ((a : Int)) ((i : Int)) (((I : Nat) : Int)) (by rw [IntKind.wrap_i64]; omega) (by kernel_rfl) (by kernel_rfl) w) trivial ?_
      refine rgd_pure 18 (some 34) rfl rfl (.pointer (some ⟨g, 0 + I * 3, none⟩)) (by kernel_rfl) (by kernel_rfl) (by kernel_rfl) (fun _ _ _ _ h => h) (by kernel_rfl) (fun w => exec_idxC _ _ rfl g 0 N c I (by kernel_rfl) (by kernel_rfl) (by omega) w) trivial ?_
      refine rgd_acts 13 19 (some 29) (some 35) (by kernel_rfl) rfl rfl (by kernel_rfl) (.agg y.cells.toArray) wr.drew (exec_ldC _ rfl RD J hlJ y LJ (by kernel_rfl)) trivial rfl rfl (by kernel_rfl) (.agg x.cells.toArray) wr.drew (exec_ldC _ rfl RD I hlI x LI (by kernel_rfl)) trivial ?_ ?_
      · refine rgd_run 19 (some 35) (by kernel_rfl) rfl rfl (by kernel_rfl) (.agg x.cells.toArray) wr.drew (exec_ldC _ rfl RD I hlI x LI (by kernel_rfl)) trivial ?_
        refine rgd_pure 20 (some 36) rfl rfl (.pointer (some ⟨g, 0 + I * 3, none⟩)) (by kernel_rfl) (by kernel_rfl) (by kernel_rfl) (fun _ _ _ _ h => h) (by kernel_rfl) (fun w => exec_idxC _ _ rfl g 0 N c I (by kernel_rfl) (by kernel_rfl) (by omega) w) trivial ?_
        refine rgd_do 21 none (by kernel_rfl) rfl rfl (by kernel_rfl) (wr.drew.setCells g (I * 3) y.cells) (exec_stC _ _ rfl RD I hlI y (by kernel_rfl) (by kernel_rfl)) trivial ?_
        refine rgd_pure 22 (some 37) rfl rfl (.pointer (some ⟨g, 0 + J * 3, none⟩)) (by kernel_rfl) (by kernel_rfl) (by kernel_rfl) (fun _ _ _ _ h => h) (by kernel_rfl) (fun w => exec_idxC _ _ rfl g 0 N c J (by kernel_rfl) (by kernel_rfl) (by omega) w) trivial ?_
        refine rgd_do 23 none (by kernel_rfl) rfl rfl (by kernel_rfl) ((wr.drew.setCells g (I * 3) y.cells).setCells g (J * 3) x.cells) (exec_stC _ _ rfl (RD.set (i := I) hlI y) J (by rw [List.length_set]; exact hlJ) x (by kernel_rfl) (by kernel_rfl)) trivial ?_
        exact wpAnyH_done (by kernel_rfl) (Eq.mp (by kernel_rfl) KE) _
      · refine rgd_run 13 (some 29) (by kernel_rfl) rfl rfl (by kernel_rfl) (.agg y.cells.toArray) wr.drew (exec_ldC _ rfl RD J hlJ y LJ (by kernel_rfl)) trivial ?_
        refine rgd_pure 20 (some 36) rfl rfl (.pointer (some ⟨g, 0 + I * 3, none⟩)) (by kernel_rfl) (by kernel_rfl) (by kernel_rfl) (fun _ _ _ _ h => h) (by kernel_rfl) (fun w => exec_idxC _ _ rfl g 0 N c I (by kernel_rfl) (by kernel_rfl) (by omega) w) trivial ?_
        refine rgd_do 21 none (by kernel_rfl) rfl rfl (by kernel_rfl) (wr.drew.setCells g (I * 3) y.cells) (exec_stC _ _ rfl RD I hlI y (by kernel_rfl) (by kernel_rfl)) trivial ?_
        refine rgd_pure 22 (some 37) rfl rfl (.pointer (some ⟨g, 0 + J * 3, none⟩)) (by kernel_rfl) (by kernel_rfl) (by kernel_rfl) (fun _ _ _ _ h => h) (by kernel_rfl) (fun w => exec_idxC _ _ rfl g 0 N c J (by kernel_rfl) (by kernel_rfl) (by omega) w) trivial ?_
        refine rgd_do 23 none (by kernel_rfl) rfl rfl (by kernel_rfl) ((wr.drew.setCells g (I * 3) y.cells).setCells g (J * 3) x.cells) (exec_stC _ _ rfl (RD.set (i := I) hlI y) J (by rw [List.length_set]; exact hlJ) x (by kernel_rfl) (by kernel_rfl)) trivial ?_
        exact wpAnyH_done (by kernel_rfl) (Eq.mp (by kernel_rfl) KE) _

    · obtain rfl : i = n := by omega
      have hin' : ¬ ((i : Nat) : Int) < i := by omega
      have RF : Hid (RowC wr B g c (P ++ (Y ++ (M ++ (X ++ S))))) := Lib.hid (by
        have := RR.out
        rw [List.take_of_length_le (l := Y) (by rw [← HXY.out, ← HN.out]; exact Nat.le_refl _), List.take_of_length_le (l := X) (by rw [← HN.out]; exact Nat.le_refl _), List.drop_of_length_le (l := X) (by rw [← HN.out]; exact Nat.le_refl _), List.drop_of_length_le (l := Y) (by rw [← HXY.out, ← HN.out]; exact Nat.le_refl _)] at this
        simpa using this)
      clear RR HN HA HB HXY HL HR
      go_wp2
      exact bodyPost_end (results_none rfl _ _ _) rfl ⟨rfl, RF.out, GR.out⟩
end Go.Proofs.YtnjopndkommjnaaDoor
