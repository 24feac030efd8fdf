/- The statement WireTold, proved for every input that its row reads: part 45 of 54. -/
import Derived.Test.YtgcbeeokddaihaaDoorPackWireTold44
/- wire.Check: may a message be? -/
namespace Go.Proofs.YtgcbeeokddaihaaDoor
open Go Go.RowKit
set_option linter.unusedVariables false
set_option maxRecDepth 1000000

section
variable {P : Program} {t e : TypeId} {a : Act} {o : Oper}
theorem exec_veqB (V : Vec P t e) (yt : TypeId) (x y : Operand) (ho : o.op = .binOp .eql t x y yt) (hm : P.eqGuardType P.depth t = false) (f g : Nat → Int) (B : Bool) (hfg : veq f g = B) (hx : a.eval x = .agg (vf f)) (hy : a.eval y = .agg (vf g)) (w : World) :
    (execOp a.eval o).run P w = .ok (.value (.bool B)) w := by
  unfold execOp
  simp only [ho, hx, hy]
  exact run_value_of (by rw [Sem.run_bind, run_eqGuard_agg (hm := hm), Result.andThen_ok, V.eql f g w, hfg])
end
set_option maxHeartbeats 16000000 in
theorem ofKind_is (m : Mg) (w : World) (hL : WrsAt w m.sp m.L) (hT : Shapes w) : Calls Tryd.prog 26 #[.agg m.cells.toArray] w (RetBool w (kindM m)) := by
  obtain ⟨N, hN⟩ : ∃ X, noState m.seen m.L = X := ⟨_, rfl⟩
  obtain ⟨C, hC⟩ : ∃ X, canB m.seen m.L = X := ⟨_, rfl⟩
  obtain ⟨NB, hNB⟩ : ∃ X, veq m.base (fun _ => 0) = X := ⟨_, rfl⟩
  obtain ⟨FL, hFL⟩ : ∃ X, veq m.floor (fun _ => 0) = X := ⟨_, rfl⟩
  have DS : Hid (∀ V : World, Calls Tryd.prog 22 #[.agg (scs m.seen (.slice m.sp m.L.length m.sc)), .agg (scs (fun _ => 0) (.slice none 0 0))] V (RetBool V N)) := Lib.hid fun V => by rw [← hN]; exact docSame0_is m.seen m.sp m.sc m.L V
  have CN : Hid (∀ V : World, Below w.heap.size w V → Calls Tryd.prog 44 #[.agg (scs m.seen (.slice m.sp m.L.length m.sc))] V (RetBool V C)) := Lib.hid fun V hV => by rw [← hC]; exact docCan_is m.seen m.sp m.sc m.L V (hL.below hV) (hT.below hV)
  have H1 : Hid (m.kind = 1 → kindM m = (decide (m.E.length = 0) && (NB && (N && FL)))) := Lib.hid fun h => by unfold kindM noBaseM noFullM; rw [if_pos h, hN, hNB, hFL]
  have H2 : Hid (m.kind = 2 → kindM m = (decide (m.E.length > 0) && (N && FL))) := Lib.hid fun h => by unfold kindM noBaseM noFullM; rw [if_neg (by omega), if_pos h, hN, hFL]
  have H3 : Hid (m.kind = 3 → kindM m = (C && NB)) := Lib.hid fun h => by unfold kindM noBaseM; rw [if_neg (by omega), if_neg (by omega), if_pos h, hNB, hC]
  have H4 : Hid (m.kind ≠ 1 → m.kind ≠ 2 → m.kind ≠ 3 → kindM m = false) := Lib.hid fun h1 h2 h3 => by unfold kindM; rw [if_neg h1, if_neg h2, if_neg h3]
  have HNB := Lib.hid hNB; have HFL := Lib.hid hFL
  clear hN hC hNB hFL hL hT
  go_enter Tryd.func26, Tryd.ntmps26
  go_wp2_with (refine wpList_gbox rfl _ rfl m.cells.toArray rfl ?_)
  intro g w1 l1 h1 hb1
  have X1 : Hid (Mx w1 g m) := Lib.hid h1
  have B1 := Lib.hid hb1
  clear h1 hb1
  go_wp2_with fail
  rename_i K2 hK2
  have m0 : Mx w1.drew g m ∧ Below w.heap.size w w1.drew := ⟨X1.out.later (Below.refl _ _).drew, B1.out.drew⟩
  have FIN : ∀ (NF : Bool) (x14 x15 x16 x17 : Value) (U : World), NF = (N && FL) → Mx U g m → Below w.heap.size w U → K2 { tmps := #[.agg m.cells.toArray, .pointer (some ⟨g, 0, none⟩), .bool false, .bool NB, .bool NF, .pointer (some ⟨g, 67, none⟩), .agg (vf m.base), .agg (vf fun _ => 0), .bool NB, .pointer (some ⟨g, 132, none⟩), .agg (scs m.seen (.slice m.sp m.L.length m.sc)), .agg (scs (fun _ => 0) (.slice none 0 0)), .bool N, .bool N, x14, x15, x16, x17, .bool NF, undef, undef, undef, undef, undef, undef, undef, undef, undef, undef, undef, undef, undef, undef, undef, undef, undef, undef, undef, undef, undef, undef, undef, undef, undef, undef, undef, undef, undef, undef, undef], defers := [] } U := by
    intro NF x14 x15 x16 x17 U hNF hM hB
    refine hK2 _ _ ?_
    have HN := Lib.hid hNF; have X2 := Lib.hid hM; have B2 := Lib.hid hB
    clear hK2 hNF hM hB m0 X1 B1 DS HNB HFL
    have kk := X2.out.parts.kind
    have ke := X2.out.parts.evs
    by_cases k1 : m.kind = 1
    · have e1 : (m.kind == 1) = true := by rw [k1]; rfl
      have HK := Lib.hid (H1.out k1)
      rw [← HN.out] at HK
      clear k1
      by_cases h0 : m.E.length = 0
      · have e0 : ((m.E.length : Int) == 0) = true := by rw [h0]; rfl
        rw [decide_eq_true h0] at HK
        clear h0
        cases NB with
        | false =>
          go_wp2
          go_ret
          exact ⟨by rw [HK.out]; rfl, B2.out⟩
        | true =>
          go_wp2
          go_ret
          exact ⟨by rw [HK.out]; rfl, B2.out⟩
      · have e0 : ((m.E.length : Int) == 0) = false := beq_eq_false_iff_ne.2 (by omega)
        rw [decide_eq_false h0] at HK
        clear h0
        go_wp2
        go_ret
        exact ⟨by rw [HK.out]; rfl, B2.out⟩
    have e1 : (m.kind == 1) = false := by simpa using k1
    by_cases k2 : m.kind = 2
    · have e2 : (m.kind == 2) = true := by rw [k2]; rfl
      have HK := Lib.hid (H2.out k2)
      rw [← HN.out] at HK
      clear k1 k2
      by_cases h0 : m.E.length > 0
      · have e0 : (m.E.length : Int) > 0 := by omega
        rw [decide_eq_true h0] at HK
        clear h0
        go_wp2
        go_ret
        exact ⟨by rw [HK.out]; rfl, B2.out⟩
      · have e0 : ¬ (m.E.length : Int) > 0 := by omega
        rw [decide_eq_false h0] at HK
        clear h0
        go_wp2
        go_ret
        exact ⟨by rw [HK.out]; rfl, B2.out⟩
    have e2 : (m.kind == 2) = false := by simpa using k2
    by_cases k3 : m.kind = 3
    · have e3 : (m.kind == 3) = true := by rw [k3]; rfl
      have HK := Lib.hid (H3.out k3)
      have SW : Hid (U.rangeAt g 132 (scs m.seen (.slice m.sp m.L.length m.sc)).toList) := Lib.hid X2.out.parts.st
      clear k1 k2 k3 ke
      go_wp2_with (refine wpList_gload rfl _ rfl g 132 rfl _ SW.out _ Tryd.underlying27 rfl (sizeStl _ _) ?_)
      refine (CN.out U B2.out).mono ?_
      rintro e w3 ⟨rfl, hb3⟩
      have B3 := Lib.hid (thenBelow B2.out hb3)
      clear hb3 CN SW kk
      cases C with
      | false =>
        go_wp2
        go_ret
        exact ⟨by rw [HK.out]; rfl, B3.out⟩
      | true =>
        go_wp2
        go_ret
        exact ⟨by rw [HK.out]; rfl, B3.out⟩
    have e3 : (m.kind == 3) = false := by simpa using k3
    have HK := Lib.hid (H4.out k1 k2 k3)
    clear k1 k2 k3
    go_wp2
    go_ret
    exact ⟨by rw [HK.out]; rfl, B2.out⟩
  cases N with
  | true =>
    refine rg_calm (by kernel_rfl) rfl (S := fun U => Mx U g m ∧ Below w.heap.size w U) ?_
    refine rgd_pure 0 (some 5) rfl rfl (.pointer (some ⟨g, 67, none⟩)) (by kernel_rfl) (by kernel_rfl) (by kernel_rfl) (fun _ _ _ _ h => h) (by kernel_rfl) (fun w => by kernel_rfl) m0 ?_
    refine rgd_pureS 1 (some 6) rfl rfl (.agg (vf m.base)) (by kernel_rfl) (by kernel_rfl) (by kernel_rfl) (fun _ _ _ _ h => h) (by kernel_rfl) (fun U hU => exec_gload 23 _ rfl g 67 (by kernel_rfl) _ hU.1.parts.base Tryd.underlying23 rfl (sizeVcl m.base)) m0 ?_
    refine rgd_pure 2 (some 7) rfl rfl (.agg (vf fun _ => 0)) (by kernel_rfl) (by kernel_rfl) (by kernel_rfl) (fun _ _ _ _ h => h) (by kernel_rfl) (fun w => by kernel_rfl) m0 ?_
    refine rgd_pure 3 (some 8) rfl rfl (.bool NB) (by kernel_rfl) (by kernel_rfl) (by kernel_rfl) (fun _ _ _ _ h => h) (by kernel_rfl) (exec_veqB vecI _ _ _ rfl (by kernel_rfl) (m.base) (fun _ => 0) NB HNB.out (by kernel_rfl) (by kernel_rfl)) m0 ?_
    refine rgd_pure 4 (some 9) rfl rfl (.pointer (some ⟨g, 132, none⟩)) (by kernel_rfl) (by kernel_rfl) (by kernel_rfl) (fun _ _ _ _ h => h) (by kernel_rfl) (fun w => by kernel_rfl) m0 ?_
    refine rgd_pureS 5 (some 10) rfl rfl (.agg (scs m.seen (.slice m.sp m.L.length m.sc))) (by kernel_rfl) (by kernel_rfl) (by kernel_rfl) (fun _ _ _ _ h => h) (by kernel_rfl) (fun U hU => exec_gload 27 _ rfl g 132 (by kernel_rfl) _ hU.1.parts.st Tryd.underlying27 rfl (sizeStl _ _)) m0 ?_
    refine rgd_pure 6 (some 11) rfl rfl (.agg (scs (fun _ => 0) (.slice none 0 0))) (by kernel_rfl) (by kernel_rfl) (by kernel_rfl) (fun _ _ _ _ h => h) (by kernel_rfl) (fun w => by kernel_rfl) m0 ?_
    refine rgd_call 7 (some 12) (by kernel_rfl) rfl rfl (by kernel_rfl) 22 (#[.agg (scs m.seen (.slice m.sp m.L.length m.sc)), .agg (scs (fun _ => 0) (.slice none 0 0))]) (by kernel_rfl) (DS.out _) ?_
    rintro _ U1 ⟨rfl, bU1⟩
    have m1 : Mx U1 g m ∧ Below w.heap.size w U1 := ⟨m0.1.later bU1, thenBelow m0.2 bU1⟩
    refine ⟨_, rfl, m1, ?_⟩
    refine rgd_pure 8 (some 13) rfl rfl (.bool true) (by kernel_rfl) (by kernel_rfl) (by kernel_rfl) (fun _ _ _ _ h => h) (by kernel_rfl) (fun w => by kernel_rfl) m1 ?_
    refine rgd_pure 9 (some 14) rfl rfl (.pointer (some ⟨g, 197, none⟩)) (by kernel_rfl) (by kernel_rfl) (by kernel_rfl) (fun _ _ _ _ h => h) (by kernel_rfl) (fun w => by kernel_rfl) m1 ?_
    refine rgd_pureS 10 (some 15) rfl rfl (.agg (vf m.floor)) (by kernel_rfl) (by kernel_rfl) (by kernel_rfl) (fun _ _ _ _ h => h) (by kernel_rfl) (fun U hU => exec_gload 23 _ rfl g 197 (by kernel_rfl) _ hU.1.parts.floor Tryd.underlying23 rfl (sizeVcl m.floor)) m1 ?_
    refine rgd_pure 11 (some 16) rfl rfl (.agg (vf fun _ => 0)) (by kernel_rfl) (by kernel_rfl) (by kernel_rfl) (fun _ _ _ _ h => h) (by kernel_rfl) (fun w => by kernel_rfl) m1 ?_
    refine rgd_pure 12 (some 17) rfl rfl (.bool FL) (by kernel_rfl) (by kernel_rfl) (by kernel_rfl) (fun _ _ _ _ h => h) (by kernel_rfl) (exec_veqB vecI _ _ _ rfl (by kernel_rfl) (m.floor) (fun _ => 0) FL HFL.out (by kernel_rfl) (by kernel_rfl)) m1 ?_
    refine rgd_pure 13 (some 18) rfl rfl (.bool FL) (by kernel_rfl) (by kernel_rfl) (by kernel_rfl) (fun _ _ _ _ h => h) (by kernel_rfl) (fun w => by kernel_rfl) m1 ?_
    refine rgd_pure 14 (some 3) rfl rfl (.bool NB) (by kernel_rfl) (by kernel_rfl) (by kernel_rfl) (fun _ _ _ _ h => h) (by kernel_rfl) (fun w => by kernel_rfl) m1 ?_
    refine rgd_pure 15 (some 4) rfl rfl (.bool FL) (by kernel_rfl) (by kernel_rfl) (by kernel_rfl) (fun _ _ _ _ h => h) (by kernel_rfl) (fun w => by kernel_rfl) m1 ?_
    have KE := FIN FL (.pointer (some ⟨g, 197, none⟩)) (.agg (vf m.floor)) (.agg (vf fun _ => 0)) (.bool FL) U1 (by rfl) m1.1 m1.2
    exact wpAnyH_done (by kernel_rfl) (Eq.mp (by kernel_rfl) KE) _
  | false =>
    refine rg_calm (by kernel_rfl) rfl (S := fun U => Mx U g m ∧ Below w.heap.size w U) ?_
    refine rgd_pure 0 (some 5) rfl rfl (.pointer (some ⟨g, 67, none⟩)) (by kernel_rfl) (by kernel_rfl) (by kernel_rfl) (fun _ _ _ _ h => h) (by kernel_rfl) (fun w => by kernel_rfl) m0 ?_
    refine rgd_pureS 1 (some 6) rfl rfl (.agg (vf m.base)) (by kernel_rfl) (by kernel_rfl) (by kernel_rfl) (fun _ _ _ _ h => h) (by kernel_rfl) (fun U hU => exec_gload 23 _ rfl g 67 (by kernel_rfl) _ hU.1.parts.base Tryd.underlying23 rfl (sizeVcl m.base)) m0 ?_
    refine rgd_pure 2 (some 7) rfl rfl (.agg (vf fun _ => 0)) (by kernel_rfl) (by kernel_rfl) (by kernel_rfl) (fun _ _ _ _ h => h) (by kernel_rfl) (fun w => by kernel_rfl) m0 ?_
    refine rgd_pure 3 (some 8) rfl rfl (.bool NB) (by kernel_rfl) (by kernel_rfl) (by kernel_rfl) (fun _ _ _ _ h => h) (by kernel_rfl) (exec_veqB vecI _ _ _ rfl (by kernel_rfl) (m.base) (fun _ => 0) NB HNB.out (by kernel_rfl) (by kernel_rfl)) m0 ?_
    refine rgd_pure 4 (some 9) rfl rfl (.pointer (some ⟨g, 132, none⟩)) (by kernel_rfl) (by kernel_rfl) (by kernel_rfl) (fun _ _ _ _ h => h) (by kernel_rfl) (fun w => by kernel_rfl) m0 ?_
    refine rgd_pureS 5 (some 10) rfl rfl (.agg (scs m.seen (.slice m.sp m.L.length m.sc))) (by kernel_rfl) (by kernel_rfl) (by kernel_rfl) (fun _ _ _ _ h => h) (by kernel_rfl) (fun U hU => exec_gload 27 _ rfl g 132 (by kernel_rfl) _ hU.1.parts.st Tryd.underlying27 rfl (sizeStl _ _)) m0 ?_
    refine rgd_pure 6 (some 11) rfl rfl (.agg (scs (fun _ => 0) (.slice none 0 0))) (by kernel_rfl) (by kernel_rfl) (by kernel_rfl) (fun _ _ _ _ h => h) (by kernel_rfl) (fun w => by kernel_rfl) m0 ?_
    refine rgd_call 7 (some 12) (by kernel_rfl) rfl rfl (by kernel_rfl) 22 (#[.agg (scs m.seen (.slice m.sp m.L.length m.sc)), .agg (scs (fun _ => 0) (.slice none 0 0))]) (by kernel_rfl) (DS.out _) ?_
    rintro _ U1 ⟨rfl, bU1⟩
    have m1 : Mx U1 g m ∧ Below w.heap.size w U1 := ⟨m0.1.later bU1, thenBelow m0.2 bU1⟩
    refine ⟨_, rfl, m1, ?_⟩
    refine rgd_pure 8 (some 13) rfl rfl (.bool false) (by kernel_rfl) (by kernel_rfl) (by kernel_rfl) (fun _ _ _ _ h => h) (by kernel_rfl) (fun w => by kernel_rfl) m1 ?_
    refine rgd_skip 9 (some 14) rfl rfl (by kernel_rfl) (by kernel_rfl) (by kernel_rfl) (fun _ _ _ _ h => h) (by kernel_rfl) m1 ?_
    refine rgd_skip 10 (some 15) rfl rfl (by kernel_rfl) (by kernel_rfl) (by kernel_rfl) (fun _ _ _ _ h => h) (by kernel_rfl) m1 ?_
    refine rgd_skip 11 (some 16) rfl rfl (by kernel_rfl) (by kernel_rfl) (by kernel_rfl) (fun _ _ _ _ h => h) (by kernel_rfl) m1 ?_
    refine rgd_skip 12 (some 17) rfl rfl (by kernel_rfl) (by kernel_rfl) (by kernel_rfl) (fun _ _ _ _ h => h) (by kernel_rfl) m1 ?_
    refine rgd_pure 13 (some 18) rfl rfl (.bool false) (by kernel_rfl) (by kernel_rfl) (by kernel_rfl) (fun _ _ _ _ h => h) (by kernel_rfl) (fun w => by kernel_rfl) m1 ?_
    refine rgd_pure 14 (some 3) rfl rfl (.bool NB) (by kernel_rfl) (by kernel_rfl) (by kernel_rfl) (fun _ _ _ _ h => h) (by kernel_rfl) (fun w => by kernel_rfl) m1 ?_
    refine rgd_pure 15 (some 4) rfl rfl (.bool false) (by kernel_rfl) (by kernel_rfl) (by kernel_rfl) (fun _ _ _ _ h => h) (by kernel_rfl) (fun w => by kernel_rfl) m1 ?_
    have KE := FIN false undef undef undef undef U1 (by rfl) m1.1 m1.2
    exact wpAnyH_done (by kernel_rfl) (Eq.mp (by kernel_rfl) KE) _

/-- what wire.Check answers -/
noncomputable def mayE (m : Mg) : Int := if mayM m = true then 0 else 1
set_option maxHeartbeats 8000000 in
theorem wireCheck_is (m : Mg) (w : World) (hE : EvsAt w m.ep m.E) (hL : WrsAt w m.sp m.L) (hT : Shapes w) : Calls Tryd.prog 14 #[.agg m.cells.toArray] w (Check1 w (mayE m)) := by
  obtain ⟨G, hG⟩ : ∃ X, goM m = X := ⟨_, rfl⟩
  obtain ⟨H, hH⟩ : ∃ X, haveM m = X := ⟨_, rfl⟩
  obtain ⟨C, hC⟩ : ∃ X, kindM m = X := ⟨_, rfl⟩
  have P1 : Hid (∀ V : World, Calls Tryd.prog 24 #[.agg m.cells.toArray] V (RetBool V G)) := Lib.hid fun V => by rw [← hG]; exact wireGo_is m V
  have P2 : Hid (∀ V : World, Below w.heap.size w V → Calls Tryd.prog 25 #[.agg m.cells.toArray] V (RetBool V H)) := Lib.hid fun V hV => by rw [← hH]; exact mayHave_is m V (hE.below hV) (hT.below hV)
  have P3 : Hid (∀ V : World, Below w.heap.size w V → Calls Tryd.prog 26 #[.agg m.cells.toArray] V (RetBool V C)) := Lib.hid fun V hV => by rw [← hC]; exact ofKind_is m V (hL.below hV) (hT.below hV)
  have HR : Hid (mayE m = if (G && (H && C)) = true then 0 else 1) := Lib.hid (by unfold mayE mayM; rw [hG, hH, hC])
  clear hG hH hC hE hL hT
  go_enter Tryd.func14, Tryd.ntmps14
  go_wp2_with (refine wpList_gbox rfl _ rfl m.cells.toArray rfl ?_)
  intro g w1 l1 h1 hb1
  have X1 : Hid (Mx w1 g m) := Lib.hid h1
  have B1 := Lib.hid hb1
  have W1 := Lib.hid X1.out.whole
  clear h1 hb1
  go_wp2_with (refine wpList_gload rfl _ rfl g 0 rfl _ W1.out _ Tryd.underlying29 rfl (sizeMg m) ?_)
  refine (P1.out w1).mono ?_
  rintro e w2 ⟨rfl, hb2⟩
  have X2 := Lib.hid (X1.out.later hb2); have B2 := Lib.hid (thenBelow B1.out hb2)
  have W2 := Lib.hid X2.out.whole
  clear hb2 P1 X1 B1 W1
  cases G with
  | false =>
    go_wp2
    go_ret
    exact ⟨by rw [HR.out]; rfl, B2.out⟩
  | true =>
  go_wp2_with (refine wpList_gloadG (by rfl) _ rfl g 0 rfl _ W2.out _ Tryd.underlying29 rfl (sizeMg m) ?_)
  refine (P2.out w2 B2.out).mono ?_
  rintro e w3 ⟨rfl, hb3⟩
  have X3 := Lib.hid (X2.out.later hb3); have B3 := Lib.hid (thenBelow B2.out hb3)
  have W3 := Lib.hid X3.out.whole
  clear hb3 P2 X2 B2 W2
  cases H with
  | false =>
    go_wp2
    go_ret
    exact ⟨by rw [HR.out]; rfl, B3.out⟩
  | true =>
  go_wp2_with (refine wpList_gloadG (by rfl) _ rfl g 0 rfl _ W3.out _ Tryd.underlying29 rfl (sizeMg m) ?_)
  refine (P3.out w3 B3.out).mono ?_
  rintro e w4 ⟨rfl, hb4⟩
  have B4 := Lib.hid (thenBelow B3.out hb4)
  clear hb4 P3 X3 B3 W3
  cases C with
  | false =>
    go_wp2
    go_ret
    exact ⟨by rw [HR.out]; rfl, B4.out⟩
  | true =>
    go_wp2
    go_ret
    exact ⟨by rw [HR.out]; rfl, B4.out⟩
end Go.Proofs.YtgcbeeokddaihaaDoor
