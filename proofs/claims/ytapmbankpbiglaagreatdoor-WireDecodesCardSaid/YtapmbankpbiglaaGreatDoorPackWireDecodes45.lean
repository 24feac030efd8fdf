/- The statement WireDecodes, proved for every input that its row reads: part 45 of 54. -/
import Derived.Test.YtapmbankpbiglaaGreatDoorPackWireDecodes43
import Derived.Test.YtapmbankpbiglaaGreatDoorPackWireDecodes42
/- wire.Check: may a message be? -/
namespace Go.Proofs.YtapmbankpbiglaaGreatDoor
open Go Go.RowKit
set_option linter.unusedVariables false
set_option maxRecDepth 1000000

section
variable {P : Program} {t e : TypeId} {a : Act} {o : Oper}
theorem exec_veqB (V : Vec P t e) (yt : TypeId) (x y : Operand) (ho : o.op = .binOp .eql t x y yt) (hm : P.eqGuardType P.depth t = false) (f g : Nat → Int) (B : Bool) (hfg : veq f g = B) (hx : a.eval x = .agg (vf f)) (hy : a.eval y = .agg (vf g)) (w : World) :
    (execOp a.eval o).run P w = .ok (.value (.bool B)) w := by
  unfold execOp
  simp only [ho, hx, hy]
  exact run_value_of (by rw [Sem.run_bind, run_eqGuard_agg (hm := hm), Result.andThen_ok, V.eql f g w, hfg])
end
set_option maxHeartbeats 16000000 in
theorem ofKind_is (m : Mg) (w : World) (hL : WrsAt w m.sp m.L) (hT : Shapes w) : Calls Tryz.prog 38 #[.agg m.cells.toArray] w (RetBool w (kindM m)) := by
  obtain ⟨N, hN⟩ : ∃ X, noState m.seen m.L = X := ⟨_, rfl⟩
  obtain ⟨C, hC⟩ : ∃ X, canB m.seen m.L = X := ⟨_, rfl⟩
  obtain ⟨NB, hNB⟩ : ∃ X, veq m.base (fun _ => 0) = X := ⟨_, rfl⟩
  obtain ⟨FL, hFL⟩ : ∃ X, veq m.floor (fun _ => 0) = X := ⟨_, rfl⟩
  have DS : Hid (∀ V : World, Calls Tryz.prog 61 #[.agg (scs m.seen (.slice m.sp m.L.length m.sc)), .agg (scs (fun _ => 0) (.slice none 0 0))] V (RetBool V N)) := Lib.hid fun V => by rw [← hN]; exact docSame0_is m.seen m.sp m.sc m.L V
  have CN : Hid (∀ V : World, Below w.heap.size w V → Calls Tryz.prog 57 #[.agg (scs m.seen (.slice m.sp m.L.length m.sc))] V (RetBool V C)) := Lib.hid fun V hV => by rw [← hC]; exact docCan_is m.seen m.sp m.sc m.L V (hL.below hV) (hT.below hV)
  have H1 : Hid (m.kind = 1 → kindM m = (decide (m.E.length = 0) && (NB && (N && FL)))) := Lib.hid fun h => by unfold kindM noBaseM noFullM; rw [if_pos h, hN, hNB, hFL]
  have H2 : Hid (m.kind = 2 → kindM m = (decide (m.E.length > 0) && (N && FL))) := Lib.hid fun h => by unfold kindM noBaseM noFullM; rw [if_neg (by omega), if_pos h, hN, hFL]
  have H3 : Hid (m.kind = 3 → kindM m = (C && NB)) := Lib.hid fun h => by unfold kindM noBaseM; rw [if_neg (by omega), if_neg (by omega), if_pos h, hNB, hC]
  have H4 : Hid (m.kind ≠ 1 → m.kind ≠ 2 → m.kind ≠ 3 → kindM m = false) := Lib.hid fun h1 h2 h3 => by unfold kindM; rw [if_neg h1, if_neg h2, if_neg h3]
  have HNB := Lib.hid hNB; have HFL := Lib.hid hFL
  clear hN hC hNB hFL hL hT
  go_enter Tryz.func38, Tryz.ntmps38
  go_wp2_with (refine wpList_gbox rfl _ rfl m.cells.toArray rfl ?_)
  intro g w1 l1 h1 hb1
  have X1 : Hid (Mx w1 g m) := Lib.hid h1
  have B1 := Lib.hid hb1
  clear h1 hb1
  go_wp2_with fail
  rename_i K2 hK2
  have m0 : Mx w1.drew g m ∧ Below w.heap.size w w1.drew := ⟨X1.out.later (Below.refl _ _).drew, B1.out.drew⟩
  have FIN : ∀ (NF : Bool) (x14 x15 x16 x17 : Value) (U : World), NF = (N && FL) → Mx U g m → Below w.heap.size w U → K2 { tmps := #[.agg m.cells.toArray, .pointer (some ⟨g, 0, none⟩), .bool false, .bool NB, .bool NF, .pointer (some ⟨g, 67, none⟩), .agg (vf m.base), .agg (vf fun _ => 0), .bool NB, .pointer (some ⟨g, 132, none⟩), .agg (scs m.seen (.slice m.sp m.L.length m.sc)), .agg (scs (fun _ => 0) (.slice none 0 0)), .bool N, .bool N, x14, x15, x16, x17, .bool NF, undef, undef, undef, undef, undef, undef, undef, undef, undef, undef, undef, undef, undef, undef, undef, undef, undef, undef, undef, undef, undef, undef, undef, undef, undef, undef, undef, undef, undef, undef, undef], defers := [] } U := by
    intro NF x14 x15 x16 x17 U hNF hM hB
    refine hK2 _ _ ?_
    have HN := Lib.hid hNF; have X2 := Lib.hid hM; have B2 := Lib.hid hB
    clear hK2 hNF hM hB m0 X1 B1 DS HNB HFL
    have kk := X2.out.parts.kind
    have ke := X2.out.parts.evs
    by_cases k1 : m.kind = 1
    · have e1 : (m.kind == 1) = true := by rw [k1]; rfl
      have HK := Lib.hid (H1.out k1)
      rw [← HN.out] at HK
      clear k1
      by_cases h0 : m.E.length = 0
      · have e0 : ((m.E.length : Int) == 0) = true := by rw [h0]; rfl
        rw [decide_eq_true h0] at HK
        clear h0
        cases NB with
        | false =>
          go_wp2
          go_ret
          exact ⟨by rw [HK.out]; rfl, B2.out⟩
        | true =>
          go_wp2
          go_ret
          exact ⟨by rw [HK.out]; rfl, B2.out⟩
      · have e0 : ((m.E.length : Int) == 0) = false := beq_eq_false_iff_ne.2 (by omega)
        rw [decide_eq_false h0] at HK
        clear h0
        go_wp2
        go_ret
        exact ⟨by rw [HK.out]; rfl, B2.out⟩
    have e1 : (m.kind == 1) = false := by simpa using k1
    by_cases k2 : m.kind = 2
    · have e2 : (m.kind == 2) = true := by rw [k2]; rfl
      have HK := Lib.hid (H2.out k2)
      rw [← HN.out] at HK
      clear k1 k2
      by_cases h0 : m.E.length > 0
      · have e0 : (m.E.length : Int) > 0 := by omega
        rw [decide_eq_true h0] at HK
        clear h0
        go_wp2
        go_ret
        exact ⟨by rw [HK.out]; rfl, B2.out⟩
      · have e0 : ¬ (m.E.length : Int) > 0 := by omega
        rw [decide_eq_false h0] at HK
        clear h0
        go_wp2
        go_ret
        exact ⟨by rw [HK.out]; rfl, B2.out⟩
    have e2 : (m.kind == 2) = false := by simpa using k2
    by_cases k3 : m.kind = 3
    · have e3 : (m.kind == 3) = true := by rw [k3]; rfl
      have HK := Lib.hid (H3.out k3)
      have SW : Hid (U.rangeAt g 132 (scs m.seen (.slice m.sp m.L.length m.sc)).toList) := Lib.hid X2.out.parts.st
      clear k1 k2 k3 ke
      go_wp2_with (refine wpList_gload rfl _ rfl g 132 rfl _ SW.out _ Tryz.underlying29 rfl (sizeStl _ _) ?_)
      refine (CN.out U B2.out).mono ?_
      rintro e w3 ⟨rfl, hb3⟩
      have B3 := Lib.hid (thenBelow B2.out hb3)
      clear hb3 CN SW kk
      cases C with
      | false =>
        go_wp2
        go_ret
        exact ⟨by rw [HK.out]; rfl, B3.out⟩
      | true =>
        go_wp2
        go_ret
        exact ⟨by rw [HK.out]; rfl, B3.out⟩
    have e3 : (m.kind == 3) = false := by simpa using k3
    have HK := Lib.hid (H4.out k1 k2 k3)
    clear k1 k2 k3
    go_wp2
    go_ret
    exact ⟨by rw [HK.out]; rfl, B2.out⟩
  cases N with
  | true =>
    refine rg_calm (by kernel_rfl) rfl (S := fun U => Mx U g m ∧ Below w.heap.size w U) ?_
    refine rgd_pure 0 (some 5) rfl rfl (.pointer (some ⟨g, 67, none⟩)) (by kernel_rfl) (by kernel_rfl) (by kernel_rfl) (fun _ _ _ _ h => h) (by kernel_rfl) (fun w => by kernel_rfl) m0 ?_
    refine rgd_pureS 1 (some 6) rfl rfl (.agg (vf m.base)) (by kernel_rfl) (by kernel_rfl) (by kernel_rfl) (fun _ _ _ _ h => h) (by kernel_rfl) (fun U hU => exec_gload 25 _ rfl g 67 (by kernel_rfl) _ hU.1.parts.base Tryz.underlying25 rfl (sizeVcl m.base)) m0 ?_
    refine rgd_pure 2 (some 7) rfl rfl (.agg (vf fun _ => 0)) (by kernel_rfl) (by kernel_rfl) (by kernel_rfl) (fun _ _ _ _ h => h) (by kernel_rfl) (fun w => by kernel_rfl) m0 ?_
    refine rgd_pure 3 (some 8) rfl rfl (.bool NB) (by kernel_rfl) (by kernel_rfl) (by kernel_rfl) (fun _ _ _ _ h => h) (by kernel_rfl) (exec_veqB vecI _ _ _ rfl (by kernel_rfl) (m.base) (fun _ => 0) NB HNB.out (by kernel_rfl) (by kernel_rfl)) m0 ?_
    refine rgd_pure 4 (some 9) rfl rfl (.pointer (some ⟨g, 132, none⟩)) (by kernel_rfl) (by kernel_rfl) (by kernel_rfl) (fun _ _ _ _ h => h) (by kernel_rfl) (fun w => by kernel_rfl) m0 ?_
    refine rgd_pureS 5 (some 10) rfl rfl (.agg (scs m.seen (.slice m.sp m.L.length m.sc))) (by kernel_rfl) (by kernel_rfl) (by kernel_rfl) (fun _ _ _ _ h => h) (by kernel_rfl) (fun U hU => exec_gload 29 _ rfl g 132 (by kernel_rfl) _ hU.1.parts.st Tryz.underlying29 rfl (sizeStl _ _)) m0 ?_
    refine rgd_pure 6 (some 11) rfl rfl (.agg (scs (fun _ => 0) (.slice none 0 0))) (by kernel_rfl) (by kernel_rfl) (by kernel_rfl) (fun _ _ _ _ h => h) (by kernel_rfl) (fun w => by kernel_rfl) m0 ?_
    refine rgd_call 7 (some 12) (by kernel_rfl) rfl rfl (by kernel_rfl) 61 (#[.agg (scs m.seen (.slice m.sp m.L.length m.sc)), .agg (scs (fun _ => 0) (.slice none 0 0))]) (by kernel_rfl) (DS.out _) ?_
    rintro _ U1 ⟨rfl, bU1⟩
    have m1 : Mx U1 g m ∧ Below w.heap.size w U1 := ⟨m0.1.later bU1, thenBelow m0.2 bU1⟩
    refine ⟨_, rfl, m1, ?_⟩
    refine rgd_pure 8 (some 13) rfl rfl (.bool true) (by kernel_rfl) (by kernel_rfl) (by kernel_rfl) (fun _ _ _ _ h => h) (by kernel_rfl) (fun w => by kernel_rfl) m1 ?_
    refine rgd_pure 9 (some 14) rfl rfl (.pointer (some ⟨g, 197, none⟩)) (by kernel_rfl) (by kernel_rfl) (by kernel_rfl) (fun _ _ _ _ h => h) (by kernel_rfl) (fun w => by kernel_rfl) m1 ?_
    refine rgd_pureS 10 (some 15) rfl rfl (.agg (vf m.floor)) (by kernel_rfl) (by kernel_rfl) (by kernel_rfl) (fun _ _ _ _ h => h) (by kernel_rfl) (fun U hU => exec_gload 25 _ rfl g 197 (by kernel_rfl) _ hU.1.parts.floor Tryz.underlying25 rfl (sizeVcl m.floor)) m1 ?_
    refine rgd_pure 11 (some 16) rfl rfl (.agg (vf fun _ => 0)) (by kernel_rfl) (by kernel_rfl) (by kernel_rfl) (fun _ _ _ _ h => h) (by kernel_rfl) (fun w => by kernel_rfl) m1 ?_
    refine rgd_pure 12 (some 17) rfl rfl (.bool FL) (by kernel_rfl) (by kernel_rfl) (by kernel_rfl) (fun _ _ _ _ h => h) (by kernel_rfl) (exec_veqB vecI _ _ _ rfl (by kernel_rfl) (m.floor) (fun _ => 0) FL HFL.out (by kernel_rfl) (by kernel_rfl)) m1 ?_
    refine rgd_pure 13 (some 18) rfl rfl (.bool FL) (by kernel_rfl) (by kernel_rfl) (by kernel_rfl) (fun _ _ _ _ h => h) (by kernel_rfl) (fun w => by kernel_rfl) m1 ?_
    refine rgd_pure 14 (some 3) rfl rfl (.bool NB) (by kernel_rfl) (by kernel_rfl) (by kernel_rfl) (fun _ _ _ _ h => h) (by kernel_rfl) (fun w => by kernel_rfl) m1 ?_
    refine rgd_pure 15 (some 4) rfl rfl (.bool FL) (by kernel_rfl) (by kernel_rfl) (by kernel_rfl) (fun _ _ _ _ h => h) (by kernel_rfl) (fun w => by kernel_rfl) m1 ?_
    have KE := FIN FL (.pointer (some ⟨g, 197, none⟩)) (.agg (vf m.floor)) (.agg (vf fun _ => 0)) (.bool FL) U1 (by rfl) m1.1 m1.2
    exact wpAnyH_done (by kernel_rfl) (Eq.mp (by kernel_rfl) KE) _
  | false =>
    refine rg_calm (by kernel_rfl) rfl (S := fun U => Mx U g m ∧ Below w.heap.size w U) ?_
    refine rgd_pure 0 (some 5) rfl rfl (.pointer (some ⟨g, 67, none⟩)) (by kernel_rfl) (by kernel_rfl) (by kernel_rfl) (fun _ _ _ _ h => h) (by kernel_rfl) (fun w => by kernel_rfl) m0 ?_
    refine rgd_pureS 1 (some 6) rfl rfl (.agg (vf m.base)) (by kernel_rfl) (by kernel_rfl) (by kernel_rfl) (fun _ _ _ _ h => h) (by kernel_rfl) (fun U hU => exec_gload 25 _ rfl g 67 (by kernel_rfl) _ hU.1.parts.base Tryz.underlying25 rfl (sizeVcl m.base)) m0 ?_
    refine rgd_pure 2 (some 7) rfl rfl (.agg (vf fun _ => 0)) (by kernel_rfl) (by kernel_rfl) (by kernel_rfl) (fun _ _ _ _ h => h) (by kernel_rfl) (fun w => by kernel_rfl) m0 ?_
    refine rgd_pure 3 (some 8) rfl rfl (.bool NB) (by kernel_rfl) (by kernel_rfl) (by kernel_rfl) (fun _ _ _ _ h => h) (by kernel_rfl) (exec_veqB vecI _ _ _ rfl (by kernel_rfl) (m.base) (fun _ => 0) NB HNB.out (by kernel_rfl) (by kernel_rfl)) m0 ?_
    refine rgd_pure 4 (some 9) rfl rfl (.pointer (some ⟨g, 132, none⟩)) (by kernel_rfl) (by kernel_rfl) (by kernel_rfl) (fun _ _ _ _ h => h) (by kernel_rfl) (fun w => by kernel_rfl) m0 ?_
    refine rgd_pureS 5 (some 10) rfl rfl (.agg (scs m.seen (.slice m.sp m.L.length m.sc))) (by kernel_rfl) (by kernel_rfl) (by kernel_rfl) (fun _ _ _ _ h => h) (by kernel_rfl) (fun U hU => exec_gload 29 _ rfl g 132 (by kernel_rfl) _ hU.1.parts.st Tryz.underlying29 rfl (sizeStl _ _)) m0 ?_
    refine rgd_pure 6 (some 11) rfl rfl (.agg (scs (fun _ => 0) (.slice none 0 0))) (by kernel_rfl) (by kernel_rfl) (by kernel_rfl) (fun _ _ _ _ h => h) (by kernel_rfl) (fun w => by kernel_rfl) m0 ?_
    refine rgd_call 7 (some 12) (by kernel_rfl) rfl rfl (by kernel_rfl) 61 (#[.agg (scs m.seen (.slice m.sp m.L.length m.sc)), .agg (scs (fun _ => 0) (.slice none 0 0))]) (by kernel_rfl) (DS.out _) ?_
    rintro _ U1 ⟨rfl, bU1⟩
    have m1 : Mx U1 g m ∧ Below w.heap.size w U1 := ⟨m0.1.later bU1, thenBelow m0.2 bU1⟩
    refine ⟨_, rfl, m1, ?_⟩
    refine rgd_pure 8 (some 13) rfl rfl (.bool false) (by kernel_rfl) (by kernel_rfl) (by kernel_rfl) (fun _ _ _ _ h => h) (by kernel_rfl) (fun w => by kernel_rfl) m1 ?_
    refine rgd_skip 9 (some 14) rfl rfl (by kernel_rfl) (by kernel_rfl) (by kernel_rfl) (fun _ _ _ _ h => h) (by kernel_rfl) m1 ?_
    refine rgd_skip 10 (some 15) rfl rfl (by kernel_rfl) (by kernel_rfl) (by kernel_rfl) (fun _ _ _ _ h => h) (by kernel_rfl) m1 ?_
    refine rgd_skip 11 (some 16) rfl rfl (by kernel_rfl) (by kernel_rfl) (by kernel_rfl) (fun _ _ _ _ h => h) (by kernel_rfl) m1 ?_
    refine rgd_skip 12 (some 17) rfl rfl (by kernel_rfl) (by kernel_rfl) (by kernel_rfl) (fun _ _ _ _ h => h) (by kernel_rfl) m1 ?_
    refine rgd_pure 13 (some 18) rfl rfl (.bool false) (by kernel_rfl) (by kernel_rfl) (by kernel_rfl) (fun _ _ _ _ h => h) (by kernel_rfl) (fun w => by kernel_rfl) m1 ?_
    refine rgd_pure 14 (some 3) rfl rfl (.bool NB) (by kernel_rfl) (by kernel_rfl) (by kernel_rfl) (fun _ _ _ _ h => h) (by kernel_rfl) (fun w => by kernel_rfl) m1 ?_
    refine rgd_pure 15 (some 4) rfl rfl (.bool false) (by kernel_rfl) (by kernel_rfl) (by kernel_rfl) (fun _ _ _ _ h => h) (by kernel_rfl) (fun w => by kernel_rfl) m1 ?_
    have KE := FIN false undef undef undef undef U1 (by rfl) m1.1 m1.2
    exact wpAnyH_done (by kernel_rfl) (Eq.mp (by kernel_rfl) KE) _

/-- what wire.Check answers -/
noncomputable def mayE (m : Mg) : Int := if mayM m = true then 0 else 1
set_option maxHeartbeats 8000000 in
theorem wireCheck_is (m : Mg) (w : World) (hE : EvsAt w m.ep m.E) (hL : WrsAt w m.sp m.L) (hT : Shapes w) : Calls Tryz.prog 15 #[.agg m.cells.toArray] w (Check1 w (mayE m)) := by
  obtain ⟨G, hG⟩ : ∃ X, goM m = X := ⟨_, rfl⟩
  obtain ⟨H, hH⟩ : ∃ X, haveM m = X := ⟨_, rfl⟩
  obtain ⟨C, hC⟩ : ∃ X, kindM m = X := ⟨_, rfl⟩
  have P1 : Hid (∀ V : World, Calls Tryz.prog 36 #[.agg m.cells.toArray] V (RetBool V G)) := Lib.hid fun V => by rw [← hG]; exact wireGo_is m V
  have P2 : Hid (∀ V : World, Below w.heap.size w V → Calls Tryz.prog 37 #[.agg m.cells.toArray] V (RetBool V H)) := Lib.hid fun V hV => by rw [← hH]; exact mayHave_is m V (hE.below hV) (hT.below hV)
  have P3 : Hid (∀ V : World, Below w.heap.size w V → Calls Tryz.prog 38 #[.agg m.cells.toArray] V (RetBool V C)) := Lib.hid fun V hV => by rw [← hC]; exact ofKind_is m V (hL.below hV) (hT.below hV)
  have HR : Hid (mayE m = if (G && (H && C)) = true then 0 else 1) := Lib.hid (by unfold mayE mayM; rw [hG, hH, hC])
  clear hG hH hC hE hL hT
  go_enter Tryz.func15, Tryz.ntmps15
  go_wp2_with (refine wpList_gbox rfl _ rfl m.cells.toArray rfl ?_)
  intro g w1 l1 h1 hb1
  have X1 : Hid (Mx w1 g m) := Lib.hid h1
  have B1 := Lib.hid hb1
  have W1 := Lib.hid X1.out.whole
  clear h1 hb1
  go_wp2_with (refine wpList_gload rfl _ rfl g 0 rfl _ W1.out _ Tryz.underlying31 rfl (sizeMg m) ?_)
  refine (P1.out w1).mono ?_
  rintro e w2 ⟨rfl, hb2⟩
  have X2 := Lib.hid (X1.out.later hb2); have B2 := Lib.hid (thenBelow B1.out hb2)
  have W2 := Lib.hid X2.out.whole
  clear hb2 P1 X1 B1 W1
  cases G with
  | false =>
    go_wp2
    go_ret
    exact ⟨by rw [HR.out]; rfl, B2.out⟩
  | true =>
  go_wp2_with (refine wpList_gloadG (by rfl) _ rfl g 0 rfl _ W2.out _ Tryz.underlying31 rfl (sizeMg m) ?_)
  refine (P2.out w2 B2.out).mono ?_
  rintro e w3 ⟨rfl, hb3⟩
  have X3 := Lib.hid (X2.out.later hb3); have B3 := Lib.hid (thenBelow B2.out hb3)
  have W3 := Lib.hid X3.out.whole
  clear hb3 P2 X2 B2 W2
  cases H with
  | false =>
    go_wp2
    go_ret
    exact ⟨by rw [HR.out]; rfl, B3.out⟩
  | true =>
  go_wp2_with (refine wpList_gloadG (by rfl) _ rfl g 0 rfl _ W3.out _ Tryz.underlying31 rfl (sizeMg m) ?_)
  refine (P3.out w3 B3.out).mono ?_
  rintro e w4 ⟨rfl, hb4⟩
  have B4 := Lib.hid (thenBelow B3.out hb4)
  clear hb4 P3 X3 B3 W3
  cases C with
  | false =>
    go_wp2
    go_ret
    exact ⟨by rw [HR.out]; rfl, B4.out⟩
  | true =>
    go_wp2
    go_ret
    exact ⟨by rw [HR.out]; rfl, B4.out⟩
end Go.Proofs.YtapmbankpbiglaaGreatDoor
/- A message's bytes, not sealed. -/
namespace Go.Proofs.YtapmbankpbiglaaGreatDoor
open Go Go.RowKit
set_option linter.unusedVariables false
set_option maxRecDepth 1000000

set_option maxHeartbeats 8000000 in
theorem putEvents_is (p : Option Addr) (c : Nat) (l : List UInt8) (ep : Option Addr) (ec : Nat) (E : List EvP) (w : World) (hb : Given w p c l) (hE : EvsAt w ep E) (hT : Shapes w) (hn : E.length ≤ 1024) (hlen : l.length ≤ 140737488350000) :
    Calls Tryz.prog 50 #[.slice p l.length c, .slice ep E.length ec] w (RetOwn w 5 (l ++ evsB E)) := by
  have HE := Lib.hid hE; have HT := Lib.hid hT; have HG := Lib.hid hb
  have N4 := Lib.hid hn
  have WN : Hid ((Lit.int .i64 (E.length : Int)).wf = true) := Lib.hid (wf_ok (by omega))
  have EL := enc_len E.length
  have NM : Hid (Calls Tryz.prog 48 #[.slice p l.length c, .int .i64 (E.length : Int)] w (RetOwn w 5 (l ++ Cod.enc E.length))) := Lib.hid (by have := num_any p c l (E.length : Int) w hb.lies (fun e => (hb.none e).1) hb.le WN.out (by omega); simpa using this)
  clear hb hE hT hn
  obtain ⟨X, hX⟩ : ∃ X, l ++ evsB E = X := ⟨_, rfl⟩
  rw [hX]
  obtain ⟨LB, hLB⟩ : ∃ Y, l ++ Cod.enc E.length = Y := ⟨_, rfl⟩
  have HX : Hid (LB ++ E.flatMap (fun x => wrB x.e) = X) := Lib.hid (by rw [← hX, ← hLB]; unfold evsB; simp only [List.append_assoc])
  have nB : LB.length ≤ 140737488350009 := by rw [← hLB, List.length_append]; omega
  rw [hLB] at NM
  clear hX hLB
  go_enter Tryz.func50, Tryz.ntmps50
  go_wp2_with fail
  refine NM.out.mono ?_
  rintro e w1 ⟨v1, rfl, ho1, hb1⟩
  have O1 := Lib.hid ho1; have B1 := Lib.hid hb1
  clear ho1 hb1 NM
  go_wp2
  go_loopw [0, 13] (fun v i wr => ∃ (k : Nat) (LJ : List UInt8), k ≤ E.length ∧ i = .int .i64 k ∧ Hid (LJ = LB ++ (E.take k).flatMap (fun x => wrB x.e)) ∧ LJ.length ≤ 140737488350009 + 3000 * k ∧ wr.ownsRow w.heap.size 5 1 v LJ.length (bys LJ) ∧ Below w.heap.size w wr) (fun _ i _ => E.length - (RowKit.intOf i).toNat)
  case atStart => exact ⟨0, LB, Nat.zero_le _, rfl, Lib.hid (by simp), by omega, O1.out, B1.out⟩
  case round =>
    clear O1 B1
    obtain ⟨k, LJ, hk, rfl, HJ, hj, hown, hb⟩ := hrel
    have BB := Lib.hid hb; have OO := Lib.hid hown
    have hL4 : E.length ≤ 1024 := N4.out
    clear hown hb
    by_cases hkl : k < E.length
    · have hkl' : (k : Int) < E.length := by omega
      have HEr := Lib.hid (HE.out.below BB.out)
      obtain ⟨b, o, rfl, hlt, hq⟩ := HEr.out.at hkl
      have OK := Lib.hid (HEr.out.ok _ (List.getElem_mem hkl))
      obtain ⟨x, hx⟩ : ∃ x, E[k] = x := ⟨_, rfl⟩
      rw [hx] at hq OK
      have yl := wrB_len x.e
      obtain ⟨LW, hLW⟩ : ∃ X, wrB x.e = X := ⟨_, rfl⟩
      have DW : Hid (∀ V : World, Below wr.heap.size wr V → Calls Tryz.prog 73 #[.agg x.cells.toArray] V (RetOwn V 5 LW)) := Lib.hid fun V hV => by rw [← hLW]; exact evWritten_is x V (OK.out.below hV) (HT.out.below (thenBelow BB.out hV))
      have HJ2 : Hid (LJ ++ LW = LB ++ (E.take (k + 1)).flatMap (fun x => wrB x.e)) := Lib.hid (by rw [evs_take E k hkl, HJ.out, hx, hLW, List.append_assoc])
      rw [hLW] at yl
      clear hLW HJ hx OK
      obtain ⟨c0, c1, c2, c3, c4, c5, c6, c7⟩ := ev_cells hq
      clear hq
      obtain ⟨⟨r, n, t, kd, dd, fl, tx, gg⟩, gp, gc⟩ := x
      simp only at c0 c1 c2 c3 c4 c5 c6 c7
      have ba := below_alloc wr (.cells #[.int .i64 r, .int .i64 n, .int .i64 t, .int .i64 kd, .string dd, .int .i64 fl, .string tx, .slice gp gg.length gc] 79)
      have na := heap_alloc_new wr (.cells #[.int .i64 r, .int .i64 n, .int .i64 t, .int .i64 kd, .string dd, .int .i64 fl, .string tx, .slice gp gg.length gc] 79)
      have R4 : Hid ((wr.alloc (.cells #[.int .i64 r, .int .i64 n, .int .i64 t, .int .i64 kd, .string dd, .int .i64 fl, .string tx, .slice gp gg.length gc] 79)).rangeAt wr.heap.size 0 (EvP.cells ⟨⟨r, n, t, kd, dd, fl, tx, gg⟩, gp, gc⟩)) := Lib.hid (range_of_block na)
      have BA := Lib.hid ba
      have B5 := Lib.hid (thenBelow BB.out ba); have O5 := Lib.hid (own_later OO.out ba)
      clear ba na OO
      go_wp2_with (refine wpList_gload rfl _ rfl wr.heap.size 0 rfl _ R4.out _ Tryz.underlying79 rfl (sizeEv _) ?_)
      refine (DW.out _ BA.out).mono ?_
      intro e w6 hr6
      obtain ⟨p6, q6, rfl, g6, b6⟩ := hr6.given
      have G6 := Lib.hid g6; have B6 := Lib.hid (thenBelow B5.out b6); have O6 := Lib.hid (own_later O5.out b6)
      have hz := B6.out.size
      clear hr6 g6 b6 DW R4 O5 c0 c1 c2 c3 c4 c5 c6 c7 BA
      go_wp2_with (at_builtin; refine wpList_bytesW isU8 _ rfl _ _ rfl w.heap.size LJ.length LJ _ rfl O6.out p6 LW.length q6 LW rfl G6.out.lies rfl (fun e => ⟨by rw [(G6.out.none e).1]; rfl, (G6.out.none e).2⟩) (by have := N4.out; omega) hz ?_)
      intro v7 w7 o7 b7
      have O7 : Hid (w7.ownsRow w.heap.size 5 1 v7 (LJ ++ LW).length (bys (LJ ++ LW))) := Lib.hid (by rw [List.length_append]; exact o7)
      have B7 := Lib.hid (B6.out.trans b7)
      have nJ : Hid ((LJ ++ LW).length ≤ 140737488350009 + 3000 * (k + 1)) := Lib.hid (by rw [List.length_append]; omega)
      clear o7 b7 hz
      go_wp2
      go_roundw
      case rel => exact ⟨k + 1, LJ ++ LW, by omega, by go_num, HJ2, nJ.out, O7.out, B7.out⟩
      case measure => simp [RowKit.intOf]; omega
    · obtain rfl : k = E.length := by omega
      have hkl' : ¬ ((E.length : Nat) : Int) < E.length := by omega
      have HJ2 : Hid (LJ = X) := Lib.hid (by rw [HJ.out, List.take_length]; exact HX.out)
      have FO : Hid (RetOwn w 5 X (.returned u0) wr) := Lib.hid (by rw [← HJ2.out]; exact ⟨u0, rfl, OO.out, BB.out⟩)
      clear HJ HJ2 OO hj
      go_wp2
      go_ret
      exact FO.out
set_option maxHeartbeats 16000000 in
theorem wireWritten_is (m : Mg) (w : World) (hM : mayM m = true) (hE : EvsAt w m.ep m.E) (hL : WrsAt w m.sp m.L) (hT : Shapes w) : Calls Tryz.prog 27 #[.agg m.cells.toArray] w (RetOwn w 5 (mgB m)) := by
  obtain ⟨⟨s1, s2⟩, ⟨d1, d2⟩, KD0⟩ := may_parts hM
  have NE0 : m.E.length ≤ 1024 := by unfold mayM haveM at hM; simp only [Bool.and_eq_true, decide_eq_true_eq] at hM; exact hM.2.1.1
  have HE := Lib.hid hE; have HT := Lib.hid hT; have HW := Lib.hid hL
  have KD := Lib.hid KD0; have NE := Lib.hid NE0
  have WK : Hid ((Lit.int .i64 m.kind).wf = true) := Lib.hid (wf_ok (by rcases KD0 with h | h | ⟨h, _⟩ <;> omega))
  have WS : Hid ((Lit.int .i64 m.src).wf = true) := Lib.hid (wf_ok (by omega)); have WD : Hid ((Lit.int .i64 m.dst).wf = true) := Lib.hid (wf_ok (by omega))
  have e1 := enc_len m.kind.toNat; have e2 := enc_len m.src.toNat; have e3 := enc_len m.dst.toNat
  have e4 := vbytes_len m.ack; have e5 := vbytes_len m.base; have e6 := vbytes_len m.floor
  clear hM hE hL hT KD0 NE0 s1 s2 d1 d2
  obtain ⟨X, hX⟩ : ∃ X, mgB m = X := ⟨_, rfl⟩
  rw [hX]
  have HX := Lib.hid hX
  clear hX
  go_enter Tryz.func27, Tryz.ntmps27
  go_wp2_with (refine wpList_gbox rfl _ rfl m.cells.toArray rfl ?_)
  intro g w1 l1 h1 hb1
  have X1 : Hid (Mx w1 g m) := Lib.hid h1
  have B1 := Lib.hid hb1
  have kk := X1.out.parts.kind
  clear h1 hb1
  go_wp2_with fail
  refine (num_any none 0 [] m.kind w1 (Lies.nil _ _) (fun _ => rfl) (Nat.le_refl _) WK.out (by simp)).mono ?_
  intro e w2 hr2
  rw [List.nil_append] at hr2
  obtain ⟨L1, hL1⟩ : ∃ X, Cod.enc m.kind.toNat = X := ⟨_, rfl⟩
  rw [hL1] at hr2 e1
  have HL1 := Lib.hid hL1
  clear hL1
  obtain ⟨p1, q1, rfl, g1, b2⟩ := hr2.given
  have X2 := Lib.hid (X1.out.later b2); have B2 := Lib.hid (thenBelow B1.out b2); have G1 := Lib.hid g1
  clear hr2 g1 b2 X1 B1 kk
  go_wp2_with fail
  rename_i K2 hK2
  have m0 : Mx w2.drew g m ∧ Below w.heap.size w w2.drew := ⟨X2.out.later (Below.refl _ _).drew, B2.out.drew⟩
  refine rg_calm (by kernel_rfl) rfl (S := fun U => Mx U g m ∧ Below w.heap.size w U) ?_
  refine rgd_pure 0 (some 7) rfl rfl (.slice p1 L1.length q1) (by kernel_rfl) (by kernel_rfl) (by kernel_rfl) (fun _ _ _ _ h => h) (by kernel_rfl) (fun w => by kernel_rfl) m0 ?_
  refine rgd_pure 1 (some 8) rfl rfl (.pointer (some ⟨g, 1, none⟩)) (by kernel_rfl) (by kernel_rfl) (by kernel_rfl) (fun _ _ _ _ h => h) (by kernel_rfl) (fun w => by kernel_rfl) m0 ?_
  refine rgd_pureS 2 (some 9) rfl rfl (.int .i64 m.src) (by kernel_rfl) (by kernel_rfl) (by kernel_rfl) (fun _ _ _ _ h => h) (by kernel_rfl) (fun U hU => exec_load1 _ _ rfl Tryz.underlying3 rfl ⟨g, 1, none⟩ _ (by kernel_rfl) hU.1.parts.src) m0 ?_
  refine rgd_pure 4 (some 11) rfl rfl (.pointer (some ⟨g, 2, none⟩)) (by kernel_rfl) (by kernel_rfl) (by kernel_rfl) (fun _ _ _ _ h => h) (by kernel_rfl) (fun w => by kernel_rfl) m0 ?_
  refine rgd_pureS 5 (some 12) rfl rfl (.int .i64 m.dst) (by kernel_rfl) (by kernel_rfl) (by kernel_rfl) (fun _ _ _ _ h => h) (by kernel_rfl) (fun U hU => exec_load1 _ _ rfl Tryz.underlying3 rfl ⟨g, 2, none⟩ _ (by kernel_rfl) hU.1.parts.dst) m0 ?_
  have kL1 := G1.out.below (Below.refl _ _).drew
  refine rgd_call 3 (some 10) (by kernel_rfl) rfl rfl (by kernel_rfl) 48 (#[.slice p1 L1.length q1, .int .i64 m.src]) (by kernel_rfl) (num_any p1 q1 L1 m.src _ kL1.lies (fun e => (kL1.none e).1) kL1.le WS.out (by omega)) ?_
  rintro e U2 hrU2
  obtain ⟨L2, hL2⟩ : ∃ X, L1 ++ Cod.enc (m.src).toNat = X := ⟨_, rfl⟩
  have nL2 : L2.length ≤ 18 := by rw [← hL2]; simp only [List.length_append]; omega
  rw [hL2] at hrU2
  have HL2 := Lib.hid hL2
  clear hL2
  obtain ⟨p2, q2, rfl, kL2, bL2⟩ := hrU2.given
  have m1 : Mx U2 g m ∧ Below w.heap.size w U2 := ⟨m0.1.later bL2, thenBelow m0.2 bL2⟩
  refine ⟨_, rfl, m1, ?_⟩
  refine rgd_call 6 (some 13) (by kernel_rfl) rfl rfl (by kernel_rfl) 48 (#[.slice p2 L2.length q2, .int .i64 m.dst]) (by kernel_rfl) (num_any p2 q2 L2 m.dst _ kL2.lies (fun e => (kL2.none e).1) kL2.le WD.out (by omega)) ?_
  rintro e U3 hrU3
  obtain ⟨L3, hL3⟩ : ∃ X, L2 ++ Cod.enc (m.dst).toNat = X := ⟨_, rfl⟩
  have nL3 : L3.length ≤ 27 := by rw [← hL3]; simp only [List.length_append]; omega
  rw [hL3] at hrU3
  have HL3 := Lib.hid hL3
  clear hL3
  obtain ⟨p3, q3, rfl, kL3, bL3⟩ := hrU3.given
  have m2 : Mx U3 g m ∧ Below w.heap.size w U3 := ⟨m1.1.later bL3, thenBelow m1.2 bL3⟩
  refine ⟨_, rfl, m2, ?_⟩
  refine rgd_pure 7 (some 3) rfl rfl (.slice p3 L3.length q3) (by kernel_rfl) (by kernel_rfl) (by kernel_rfl) (fun _ _ _ _ h => h) (by kernel_rfl) (fun w => by kernel_rfl) m2 ?_
  have KE : K2 { tmps := #[.agg m.cells.toArray, .pointer (some ⟨g, 0, none⟩), .slice none 0 0, .slice p3 L3.length q3, .pointer (some ⟨g, 0, none⟩), .int .i64 m.kind, .slice p1 L1.length q1, .slice p1 L1.length q1, .pointer (some ⟨g, 1, none⟩), .int .i64 m.src, .slice p2 L2.length q2, .pointer (some ⟨g, 2, none⟩), .int .i64 m.dst, .slice p3 L3.length q3, undef, undef, undef, undef, undef, undef, undef, undef, undef, undef, undef, undef, undef, undef, undef, undef, undef, undef, undef, undef, undef, undef, undef, undef, undef, undef, undef, undef, undef], defers := [] } U3 := by
    refine hK2 _ _ ?_
    have X3 := Lib.hid m2.1; have B3 := Lib.hid m2.2; have G3 := Lib.hid kL3
    clear hK2 m0 m1 m2 kL1 kL2 kL3 bL2 bL3 hrU2 hrU3 X2 B2 G1
    have AK := Lib.hid X3.out.parts.ack
    go_wp2_with (refine wpList_gload rfl _ rfl g 3 rfl _ AK.out _ Tryz.underlying25 rfl (sizeVcl m.ack) ?_)
    refine (vput_is p3 q3 L3 m.ack U3 G3.out (by omega)).mono ?_
    intro e w4 hr4
    obtain ⟨L4, hL4⟩ : ∃ X, L3 ++ vbytes m.ack = X := ⟨_, rfl⟩
    have nL4 : L4.length ≤ 1300 := by rw [← hL4]; simp only [List.length_append]; omega
    rw [hL4] at hr4
    have HL4 := Lib.hid hL4
    clear hL4
    have B4r := Lib.hid (hr4.after B3.out)
    obtain ⟨p4, q4, rfl, g4, b4⟩ := hr4.given
    have X4 := Lib.hid (X3.out.later b4); have B4 := Lib.hid (thenBelow B3.out b4); have G4 := Lib.hid g4
    have HH : Hid (L4 = Cod.enc m.kind.toNat ++ Cod.enc m.src.toNat ++ Cod.enc m.dst.toNat ++ vbytes m.ack) := Lib.hid (by rw [← HL4.out, ← HL3.out, ← HL2.out, ← HL1.out])
    clear hr4 g4 b4 X3 B3 AK G3
    have kk := X4.out.parts.kind
    rcases KD.out with k1 | k2 | ⟨k3, hcan⟩
    · have z2 : (m.kind == 2) = false := by rw [k1]; rfl
      have z3 : (m.kind == 3) = false := by rw [k1]; rfl
      have HF : Hid (L4 = X) := Lib.hid (by rw [HH.out, ← HX.out]; unfold mgB; rw [if_neg (by omega), if_neg (by omega), List.append_nil])
      have FO : Hid (RetOwn w 5 X (.returned (.slice p4 L4.length q4)) w4) := Lib.hid (by rw [← HF.out]; exact B4r.out)
      clear k1 HF
      go_wp2
      go_ret
      exact FO.out
    · have z2 : (m.kind == 2) = true := by rw [k2]; rfl
      have HF : Hid (L4 ++ vbytes m.base ++ evsB m.E = X) := Lib.hid (by rw [HH.out, ← HX.out]; unfold mgB; rw [if_pos k2]; simp only [List.append_assoc])
      clear k2
      go_wp2_with fail
      rename_i K3 hK3
      have m0 : Mx w4.drew g m ∧ Below w.heap.size w w4.drew := ⟨X4.out.later (Below.refl _ _).drew, B4.out.drew⟩
      refine rg_last (by kernel_rfl) rfl (S := fun U => Mx U g m ∧ Below w.heap.size w U) ?_
      refine rgd_pure 0 (some 22) rfl rfl (.slice p4 L4.length q4) (by kernel_rfl) (by kernel_rfl) (by kernel_rfl) (fun _ _ _ _ h => h) (by kernel_rfl) (fun w => by kernel_rfl) m0 ?_
      refine rgd_pure 1 (some 23) rfl rfl (.pointer (some ⟨g, 67, none⟩)) (by kernel_rfl) (by kernel_rfl) (by kernel_rfl) (fun _ _ _ _ h => h) (by kernel_rfl) (fun w => by kernel_rfl) m0 ?_
      refine rgd_pureS 2 (some 24) rfl rfl (.agg (vf m.base)) (by kernel_rfl) (by kernel_rfl) (by kernel_rfl) (fun _ _ _ _ h => h) (by kernel_rfl) (fun U hU => exec_gload 25 _ rfl g 67 (by kernel_rfl) _ hU.1.parts.base Tryz.underlying25 rfl (sizeVcl m.base)) m0 ?_
      refine rgd_pure 4 (some 26) rfl rfl (.pointer (some ⟨g, 131, none⟩)) (by kernel_rfl) (by kernel_rfl) (by kernel_rfl) (fun _ _ _ _ h => h) (by kernel_rfl) (fun w => by kernel_rfl) m0 ?_
      refine rgd_pureS 5 (some 27) rfl rfl (.slice m.ep m.E.length m.ec) (by kernel_rfl) (by kernel_rfl) (by kernel_rfl) (fun _ _ _ _ h => h) (by kernel_rfl) (fun U hU => exec_load1 _ _ rfl Tryz.underlying26 rfl ⟨g, 131, none⟩ _ (by kernel_rfl) hU.1.parts.evs) m0 ?_
      have kL4 := G4.out.below (Below.refl _ _).drew
      refine rgd_call 3 (some 25) (by kernel_rfl) rfl rfl (by kernel_rfl) 49 (#[.slice p4 L4.length q4, .agg (vf m.base)]) (by kernel_rfl) (vput_is p4 q4 L4 m.base _ kL4 (by omega)) ?_
      rintro e U5 hrU5
      obtain ⟨L5, hL5⟩ : ∃ X, X = L4 ++ vbytes m.base := ⟨_, rfl⟩
      have nL5 : L5.length ≤ 2600 := by rw [hL5]; simp only [List.length_append]; omega
      rw [← hL5] at hrU5
      have HL5 : Hid (L4 ++ vbytes m.base = L5) := Lib.hid hL5.symm
      clear hL5
      obtain ⟨p5, q5, rfl, kL5, bL5⟩ := hrU5.given
      have m1 : Mx U5 g m ∧ Below w.heap.size w U5 := ⟨m0.1.later bL5, thenBelow m0.2 bL5⟩
      refine ⟨_, rfl, m1, ?_⟩
      have n9 := evsB_len m.E
      have n8 := NE.out
      refine rgd_call 6 (some 28) (by kernel_rfl) rfl rfl (by kernel_rfl) 50 (#[.slice p5 L5.length q5, .slice m.ep m.E.length m.ec]) (by kernel_rfl) (putEvents_is p5 q5 L5 m.ep m.ec m.E _ kL5 (HE.out.below m1.2) (HT.out.below m1.2) NE.out (by omega)) ?_
      rintro e U6 hrU6
      obtain ⟨L6, hL6⟩ : ∃ X, X = L5 ++ evsB m.E := ⟨_, rfl⟩
      have nL6 : L6.length ≤ 4000000 := by rw [hL6]; simp only [List.length_append]; omega
      rw [← hL6] at hrU6
      have HL6 : Hid (L5 ++ evsB m.E = L6) := Lib.hid hL6.symm
      clear hL6
      obtain ⟨p6, q6, rfl, kL6, bL6⟩ := hrU6.given
      have m2 : Mx U6 g m ∧ Below w.heap.size w U6 := ⟨m1.1.later bL6, thenBelow m1.2 bL6⟩
      refine ⟨_, rfl, m2, ?_⟩
      refine rgd_pure 7 (some 3) rfl rfl (.slice p6 L6.length q6) (by kernel_rfl) (by kernel_rfl) (by kernel_rfl) (fun _ _ _ _ h => h) (by kernel_rfl) (fun w => by kernel_rfl) m2 ?_
      have KE3 : K3 { tmps := #[.agg m.cells.toArray, .pointer (some ⟨g, 0, none⟩), .slice none 0 0, .slice p6 L6.length q6, .pointer (some ⟨g, 0, none⟩), .int .i64 m.kind, .slice p1 L1.length q1, .slice p1 L1.length q1, .pointer (some ⟨g, 1, none⟩), .int .i64 m.src, .slice p2 L2.length q2, .pointer (some ⟨g, 2, none⟩), .int .i64 m.dst, .slice p3 L3.length q3, .slice p3 L3.length q3, .pointer (some ⟨g, 3, none⟩), .agg (vf m.ack), .slice p4 L4.length q4, .pointer (some ⟨g, 0, none⟩), .int .i64 m.kind, .bool true, .bool true, .slice p4 L4.length q4, .pointer (some ⟨g, 67, none⟩), .agg (vf m.base), .slice p5 L5.length q5, .pointer (some ⟨g, 131, none⟩), .slice m.ep m.E.length m.ec, .slice p6 L6.length q6, undef, undef, undef, undef, undef, undef, undef, undef, undef, undef, undef, undef, undef, undef], defers := [] } U6 := by
        refine hK3 _ _ ?_
        have FO : Hid (RetOwn w 5 X (.returned (.slice p6 L6.length q6)) U6) := Lib.hid (by rw [← HF.out, HL5.out, HL6.out]; exact hrU6.after m1.2)
        clear hK3 m0 m1 m2 kL5 kL6 bL5 bL6 hrU5 hrU6 kk z2
        go_wp2
        go_ret
        exact FO.out
      exact wpAnyH_done (by kernel_rfl) (Eq.mp (by kernel_rfl) KE3) _
    · have z2 : (m.kind == 2) = false := by rw [k3]; rfl
      have z3 : (m.kind == 3) = true := by rw [k3]; rfl
      have HF : Hid (L4 ++ stB m.seen m.L ++ vbytes m.floor ++ evsB m.E = X) := Lib.hid (by rw [HH.out, ← HX.out]; unfold mgB; rw [if_neg (by omega), if_pos k3]; simp only [List.append_assoc])
      have HC := Lib.hid hcan
      have nS : (stB m.seen m.L).length ≤ 8700000 := by
        have h1 := vbytes_len m.seen; have h2 := enc_len m.L.length
        have h3 := wts_len m.L fun y hy => small_of ((can_iff.1 hcan).fine y hy).1
        have h4 := (can_iff.1 hcan).len
        unfold stB
        simp only [List.length_append]; omega
      clear k3 hcan
      go_wp2_with fail
      rename_i K3 hK3
      have m0 : Mx w4.drew g m ∧ Below w.heap.size w w4.drew := ⟨X4.out.later (Below.refl _ _).drew, B4.out.drew⟩
      refine rg_calm (by kernel_rfl) rfl (S := fun U => Mx U g m ∧ Below w.heap.size w U) ?_
      refine rgd_pure 0 (some 31) rfl rfl (.slice p4 L4.length q4) (by kernel_rfl) (by kernel_rfl) (by kernel_rfl) (fun _ _ _ _ h => h) (by kernel_rfl) (fun w => by kernel_rfl) m0 ?_
      refine rgd_pure 1 (some 32) rfl rfl (.pointer (some ⟨g, 132, none⟩)) (by kernel_rfl) (by kernel_rfl) (by kernel_rfl) (fun _ _ _ _ h => h) (by kernel_rfl) (fun w => by kernel_rfl) m0 ?_
      refine rgd_pureS 2 (some 33) rfl rfl (.agg (scs m.seen (.slice m.sp m.L.length m.sc))) (by kernel_rfl) (by kernel_rfl) (by kernel_rfl) (fun _ _ _ _ h => h) (by kernel_rfl) (fun U hU => exec_gload 29 _ rfl g 132 (by kernel_rfl) _ hU.1.parts.st Tryz.underlying29 rfl (sizeStl _ _)) m0 ?_
      refine rgd_pure 4 (some 35) rfl rfl (.pointer (some ⟨g, 197, none⟩)) (by kernel_rfl) (by kernel_rfl) (by kernel_rfl) (fun _ _ _ _ h => h) (by kernel_rfl) (fun w => by kernel_rfl) m0 ?_
      refine rgd_pureS 5 (some 36) rfl rfl (.agg (vf m.floor)) (by kernel_rfl) (by kernel_rfl) (by kernel_rfl) (fun _ _ _ _ h => h) (by kernel_rfl) (fun U hU => exec_gload 25 _ rfl g 197 (by kernel_rfl) _ hU.1.parts.floor Tryz.underlying25 rfl (sizeVcl m.floor)) m0 ?_
      have kL4 := G4.out.below (Below.refl _ _).drew
      refine rgd_call 3 (some 34) (by kernel_rfl) rfl rfl (by kernel_rfl) 51 (#[.slice p4 L4.length q4, .agg (scs m.seen (.slice m.sp m.L.length m.sc))]) (by kernel_rfl) (docPut_is p4 q4 L4 m.seen m.sp m.sc m.L _ kL4 (HW.out.below m0.2) HC.out (HT.out.below m0.2) (by omega)) ?_
      rintro e U5 hrU5
      obtain ⟨L5, hL5⟩ : ∃ X, X = L4 ++ stB m.seen m.L := ⟨_, rfl⟩
      have nL5 : L5.length ≤ 8800000 := by rw [hL5]; simp only [List.length_append]; omega
      rw [← hL5] at hrU5
      have HL5 : Hid (L4 ++ stB m.seen m.L = L5) := Lib.hid hL5.symm
      clear hL5
      obtain ⟨p5, q5, rfl, kL5, bL5⟩ := hrU5.given
      have m1 : Mx U5 g m ∧ Below w.heap.size w U5 := ⟨m0.1.later bL5, thenBelow m0.2 bL5⟩
      refine ⟨_, rfl, m1, ?_⟩
      refine rgd_call 6 (some 37) (by kernel_rfl) rfl rfl (by kernel_rfl) 49 (#[.slice p5 L5.length q5, .agg (vf m.floor)]) (by kernel_rfl) (vput_is p5 q5 L5 m.floor _ kL5 (by omega)) ?_
      rintro e U6 hrU6
      obtain ⟨L6, hL6⟩ : ∃ X, X = L5 ++ vbytes m.floor := ⟨_, rfl⟩
      have nL6 : L6.length ≤ 8900000 := by rw [hL6]; simp only [List.length_append]; omega
      rw [← hL6] at hrU6
      have HL6 : Hid (L5 ++ vbytes m.floor = L6) := Lib.hid hL6.symm
      clear hL6
      obtain ⟨p6, q6, rfl, kL6, bL6⟩ := hrU6.given
      have m2 : Mx U6 g m ∧ Below w.heap.size w U6 := ⟨m1.1.later bL6, thenBelow m1.2 bL6⟩
      refine ⟨_, rfl, m2, ?_⟩
      refine rgd_pure 7 (some 3) rfl rfl (.slice p6 L6.length q6) (by kernel_rfl) (by kernel_rfl) (by kernel_rfl) (fun _ _ _ _ h => h) (by kernel_rfl) (fun w => by kernel_rfl) m2 ?_
      have KE3 : K3 { tmps := #[.agg m.cells.toArray, .pointer (some ⟨g, 0, none⟩), .slice none 0 0, .slice p6 L6.length q6, .pointer (some ⟨g, 0, none⟩), .int .i64 m.kind, .slice p1 L1.length q1, .slice p1 L1.length q1, .pointer (some ⟨g, 1, none⟩), .int .i64 m.src, .slice p2 L2.length q2, .pointer (some ⟨g, 2, none⟩), .int .i64 m.dst, .slice p3 L3.length q3, .slice p3 L3.length q3, .pointer (some ⟨g, 3, none⟩), .agg (vf m.ack), .slice p4 L4.length q4, .pointer (some ⟨g, 0, none⟩), .int .i64 m.kind, .bool false, .bool false, undef, undef, undef, undef, undef, undef, undef, .bool true, .bool true, .slice p4 L4.length q4, .pointer (some ⟨g, 132, none⟩), .agg (scs m.seen (.slice m.sp m.L.length m.sc)), .slice p5 L5.length q5, .pointer (some ⟨g, 197, none⟩), .agg (vf m.floor), .slice p6 L6.length q6, undef, undef, undef, undef, undef], defers := [] } U6 := by
        refine hK3 _ _ ?_
        have X6 := Lib.hid m2.1; have B6 := Lib.hid m2.2; have G6 := Lib.hid kL6
        clear hK3 m0 m1 m2 kL5 kL6 bL5 bL6 hrU5 hrU6 kk z2 z3
        have ke := X6.out.parts.evs
        go_wp2_with fail
        refine (putEvents_is p6 q6 L6 m.ep m.ec m.E U6 G6.out (HE.out.below B6.out) (HT.out.below B6.out) NE.out (by omega)).mono ?_
        intro e w7 hr7
        obtain ⟨v7, rfl, hO7, hB7⟩ := hr7.after B6.out
        have FO : Hid (RetOwn w 5 X (.returned v7) w7) := Lib.hid (by rw [← HF.out, HL5.out, HL6.out]; exact ⟨v7, rfl, hO7, hB7⟩)
        clear hr7 hO7 hB7 ke
        go_wp2
        go_ret
        exact FO.out
      exact wpAnyH_done (by kernel_rfl) (Eq.mp (by kernel_rfl) KE3) _
  exact wpAnyH_done (by kernel_rfl) (Eq.mp (by kernel_rfl) KE) _
end Go.Proofs.YtapmbankpbiglaaGreatDoor
