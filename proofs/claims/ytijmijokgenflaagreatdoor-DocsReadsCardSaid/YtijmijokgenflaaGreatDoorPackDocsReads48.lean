/- The statement DocsReads, proved for every input that its row reads: part 48 of 54. -/
import Derived.Test.YtijmijokgenflaaGreatDoorPackDocsReads31
import Derived.Test.YtijmijokgenflaaGreatDoorPackDocsReads37
import Derived.Test.YtijmijokgenflaaGreatDoorPackDocsReads44
import Derived.Test.YtijmijokgenflaaGreatDoorPackDocsReads28
import Derived.Test.YtijmijokgenflaaGreatDoorPackDocsReads20
import Derived.Test.YtijmijokgenflaaGreatDoorBoxEqS
import Derived.Test.YtijmijokgenflaaGreatDoorPackDocsReads46
import Derived.Test.YtijmijokgenflaaGreatDoorPackDocsReads47
import Derived.Test.YtijmijokgenflaaGreatDoorPackDocsReads25
/- The walk of DocsReads. -/
namespace Go.Proofs.YtijmijokgenflaaGreatDoor
open Go Go.RowKit
set_option linter.unusedVariables false
set_option maxRecDepth 1000000

theorem exec_eqlTR {o : Oper} {a : Act} (yt : TypeId) (x y : Operand) (ho : o.op = .binOp .eql 4 x y yt) (X : Bool) (hx : a.eval x = .bool X) (hy : a.eval y = .bool X) (w : World) :
    (execOp a.eval o).run Tryz.prog w = .ok (.value (.bool true)) w := by
  have hb : ∀ w : World, (binOp .eql 4 (.bool X) (.bool X)).run Tryz.prog w = .ok (.bool true) w := fun w => by cases X <;> kernel_rfl
  unfold execOp
  simp only [ho, hx, hy]
  refine run_value_of ?_
  rw [Sem.run_bind]
  have hg : (eqGuard .eql 4 x y (.bool X) (.bool X)).run Tryz.prog w = .ok () w := by
    unfold eqGuard
    go_simp
  rw [hg]
  exact hb w
theorem exec_neqTR {o : Oper} {a : Act} (yt : TypeId) (x y : Operand) (ho : o.op = .binOp .neq 4 x y yt) (X : Bool) (hx : a.eval x = .bool X) (hy : a.eval y = .bool X) (w : World) :
    (execOp a.eval o).run Tryz.prog w = .ok (.value (.bool false)) w := by
  unfold execOp
  simp only [ho, hx, hy]
  refine run_value_of ?_
  cases X <;> kernel_rfl
set_option maxHeartbeats 8000000 in
theorem docsReads_walk (F : Nat → Int) (p : Option Addr) (c : Nat) (L : List Wr) (G : Nat → Int) (q : Option Addr) (d : Nat) (M : List Wr) (doc : ByteArray) (field : Int) (W : World) (hw : WrsAt W p L) (ho : ∀ a, p = some a → ∃ b o, a = ⟨b, o, none⟩) (hw2 : WrsAt W q M) (ho2 : ∀ a, q = some a → ∃ b o, a = ⟨b, o, none⟩) (hT : Shapes W) :
    Calls Tryz.prog 3 #[.agg (scs F (.slice p L.length c)), .agg (scs G (.slice q M.length d)), .string doc, .int .i64 field] W (Yes W) := by
  have HW := Lib.hid hw; have HM := Lib.hid hw2; have HT := Lib.hid hT; have HO := Lib.hid ho; have HO2 := Lib.hid ho2
  clear hw ho hw2 ho2 hT
  go_enter Tryz.func3, Tryz.ntmps3
  go_wp2_with (refine wpList_gbox rfl _ rfl (scs F (.slice p L.length c)) rfl ?_)
  intro g2 w1 l2 h2 hb1
  have S1 : Hid (Sx w1 g2 F (.slice p L.length c)) := Lib.hid h2
  have B1 := Lib.hid hb1
  clear h2 hb1
  go_wp2_with (refine wpList_gbox rfl _ rfl (scs G (.slice q M.length d)) rfl ?_)
  intro g3 w2 l3 h3 hb2
  have S2 := Lib.hid (S1.out.later hb2); have B2 := Lib.hid (thenBelow B1.out hb2)
  have T2 : Hid (Sx w2 g3 G (.slice q M.length d)) := Lib.hid h3
  have SW := Lib.hid (S2.out.whole)
  clear h3 hb2 S1
  go_wp2_with (refine wpList_gload rfl _ rfl g2 0 rfl _ SW.out _ Tryz.underlying26 rfl (sizeStl _ _) ?_)
  refine (smallS_is F p c L w2 (HW.out.below B2.out)).mono ?_
  rintro e w3 ⟨b9, rfl, hb9, hb3⟩
  have S3 := Lib.hid (S2.out.later hb3); have T3 := Lib.hid (T2.out.later hb3); have B3 := Lib.hid (thenBelow B2.out hb3)
  clear hb3 S2 T2 SW
  cases b9 with
  | false =>
    clear hb9
    have AW := Lib.hid (awake12 w3 (HT.out.below B3.out))
    go_wp2_with fail
    refine AW.out.mono ?_
    rintro e w99 ⟨rfl, hb99⟩
    have B99 := Lib.hid (thenBelow B3.out hb99)
    clear hb99 AW
    go_wp2
    go_ret
    exact ⟨rfl, B99.out⟩
  | true =>
  have SM : L.length ≤ 120 := hb9 rfl
  clear hb9
  have SW := Lib.hid (T3.out.whole)
  go_wp2_with (refine wpList_gloadG (by rfl) _ rfl g3 0 rfl _ SW.out _ Tryz.underlying26 rfl (sizeStl _ _) ?_)
  refine (smallS_is G q d M w3 (HM.out.below B3.out)).mono ?_
  rintro e w4 ⟨b9, rfl, hb9, hb3⟩
  have S4 := Lib.hid (S3.out.later hb3); have T4 := Lib.hid (T3.out.later hb3); have B4 := Lib.hid (thenBelow B3.out hb3)
  clear hb3 S3 T3 SW
  cases b9 with
  | false =>
    clear hb9
    have AW := Lib.hid (awake12 w4 (HT.out.below B4.out))
    go_wp2_with fail
    refine AW.out.mono ?_
    rintro e w99 ⟨rfl, hb99⟩
    have B99 := Lib.hid (thenBelow B4.out hb99)
    clear hb99 AW
    go_wp2
    go_ret
    exact ⟨rfl, B99.out⟩
  | true =>
  have SM2 : M.length ≤ 120 := hb9 rfl
  clear hb9
  by_cases hdl : (doc.size : Int) > 4096
  · have hdl' : ¬ (doc.size : Int) ≤ 4096 := by omega
    have AW := Lib.hid (awake12 w4 (HT.out.below B4.out))
    go_wp2_with fail
    refine AW.out.mono ?_
    rintro e w99 ⟨rfl, hb99⟩
    have B99 := Lib.hid (thenBelow B4.out hb99)
    clear hb99 AW
    go_wp2
    go_ret
    exact ⟨rfl, B99.out⟩
  have SW := Lib.hid (S4.out.whole)
  have HT4 := Lib.hid (thenBelow B4.out (Below.refl _ _))
  go_wp2_with (refine wpList_gload rfl _ rfl g2 0 rfl _ SW.out _ Tryz.underlying26 rfl (sizeStl _ _) ?_)
  have X1 := docReadA_is F p c L doc w4 (HW.out.below B4.out) HO.out (by omega)
  have X2 : Hid (∀ V : World, Below W.heap.size W V → Calls Tryz.prog 7 #[.agg (scs F (.slice p L.length c)), .string doc] V (ReadDR V L doc)) := Lib.hid fun V hV => refRead_is F p c L doc V (HW.out.below hV) (by omega)
  unfold ReadDR at X1 X2
  obtain ⟨⟨ri, r0, r1, r2, r3⟩, hrd⟩ : ∃ d, readD L doc = d := ⟨_, rfl⟩
  obtain ⟨tb, htb⟩ : ∃ b, thereB L doc = b := ⟨_, rfl⟩
  rw [hrd, htb] at X1 X2
  clear hrd htb HT4 SW
  simp only [dvA] at X1 X2
  refine X1.mono ?_
  rintro e w5 ⟨rfl, hb5⟩
  have S5 := Lib.hid (S4.out.later hb5); have T5 := Lib.hid (T4.out.later hb5); have B5 := Lib.hid (thenBelow B4.out hb5)
  clear X1 hb5 S4 T4 B4
  have ba := below_alloc w5 (.cells #[.string ri, .string r0, .string r1, .string r2, .string r3] 31)
  have S6 := Lib.hid (S5.out.later ba); have T6 := Lib.hid (T5.out.later ba); have B6 := Lib.hid (thenBelow B5.out ba)
  have D6 := Lib.hid (heap_alloc_new w5 (.cells #[.string ri, .string r0, .string r1, .string r2, .string r3] 31))
  clear S5 T5 B5 ba
  dsimp only
  have SW := Lib.hid (S6.out.whole)
  go_wp2_with (refine wpList_gload rfl _ rfl g2 0 rfl _ SW.out _ Tryz.underlying26 rfl (sizeStl _ _) ?_)
  generalize w5.alloc (.cells #[.string ri, .string r0, .string r1, .string r2, .string r3] 31) = w6 at S6 T6 B6 D6 SW ⊢
  obtain ⟨g9, hg9⟩ : ∃ g9, w5.heap.size = g9 := ⟨_, rfl⟩
  rw [hg9] at D6 ⊢
  clear hg9 SW
  refine (X2.out w6 B6.out).mono ?_
  rintro e w7 ⟨rfl, hb7⟩
  have S7 := Lib.hid (S6.out.later hb7); have T7 := Lib.hid (T6.out.later hb7); have B7 := Lib.hid (thenBelow B6.out hb7)
  have D7 := Lib.hid ((hb7.block g9 (Array.getElem?_eq_some_iff.1 D6.out).1).trans D6.out)
  clear X2 hb7 S6 T6 B6 D6
  have ba := below_alloc w7 (.cells #[.string ri, .string r0, .string r1, .string r2, .string r3] 31)
  have S8 := Lib.hid (S7.out.later ba); have T8 := Lib.hid (T7.out.later ba); have B8 := Lib.hid (thenBelow B7.out ba)
  have D8 := Lib.hid ((ba.block g9 (Array.getElem?_eq_some_iff.1 D7.out).1).trans D7.out)
  have E8 := Lib.hid (heap_alloc_new w7 (.cells #[.string ri, .string r0, .string r1, .string r2, .string r3] 31))
  clear S7 T7 B7 D7 ba
  dsimp only
  have SW := Lib.hid (S8.out.whole)
  go_wp2_with (refine wpList_gload rfl _ rfl g2 0 rfl _ SW.out _ Tryz.underlying26 rfl (sizeStl _ _) ?_)
  generalize w7.alloc (.cells #[.string ri, .string r0, .string r1, .string r2, .string r3] 31) = w8 at S8 T8 B8 D8 E8 SW ⊢
  obtain ⟨g11, hg11⟩ : ∃ g11, w7.heap.size = g11 := ⟨_, rfl⟩
  rw [hg11] at E8 ⊢
  clear hg11 SW
  refine (docOf_is F p c L doc field w8 (HW.out.below B8.out) HO.out (by omega)).mono ?_
  rintro e w9 ⟨v9, rfl, o9, hb9⟩
  have hOL := ofW_len L doc field
  have S9 := Lib.hid (S8.out.later hb9); have T9 := Lib.hid (T8.out.later hb9); have B9 := Lib.hid (thenBelow B8.out hb9)
  have D9 := Lib.hid ((hb9.block g9 (Array.getElem?_eq_some_iff.1 D8.out).1).trans D8.out)
  have E9 := Lib.hid ((hb9.block g11 (Array.getElem?_eq_some_iff.1 E8.out).1).trans E8.out)
  obtain ⟨pl, cl, rfl, _, W9, _⟩ := own_wat o9
  have W9 := Lib.hid W9
  clear o9 hb9 S8 T8 B8 D8 E8
  dsimp only
  have hDL := dotsIn_len L
  have hNL := namesIn_len L
  have hCL : (corpusIn L).length ≤ L.length := by unfold corpusIn; rw [List.length_map]; exact hNL
  obtain ⟨cb, hcb⟩ : ∃ b, canB F L = b := ⟨_, rfl⟩
  obtain ⟨sb, hsb⟩ : ∃ b, sameB F G L M = b := ⟨_, rfl⟩
  have CD : Hid (∀ V : World, Below W.heap.size W V → Calls Tryz.prog 20 #[.agg (scs F (.slice p L.length c))] V (RetBool V cb)) := Lib.hid fun V hV => by rw [← hcb]; exact docCan_is F p c L V (HW.out.below hV) (HT.out.below hV)
  have CR : Hid (∀ V : World, Below W.heap.size W V → Calls Tryz.prog 21 #[.agg (scs F (.slice p L.length c))] V (RetBool V cb)) := Lib.hid fun V hV => by rw [← hcb]; exact refCan_is F p c L V (HW.out.below hV)
  have ND : Hid (∀ V : World, Below W.heap.size W V → Calls Tryz.prog 22 #[.agg (scs F (.slice p L.length c)), .agg (scs G (.slice q M.length d))] V (RetBool V sb)) := Lib.hid fun V hV => by rw [← hsb]; exact docSameA_is F G p q c d L M V (HW.out.below hV) (HM.out.below hV) (by omega)
  have NR : Hid (∀ V : World, Below W.heap.size W V → Calls Tryz.prog 23 #[.agg (scs F (.slice p L.length c)), .agg (scs G (.slice q M.length d))] V (RetBool V sb)) := Lib.hid fun V hV => by rw [← hsb]; exact sameSA_is F G p q c d L M V (HW.out.below hV) (HM.out.below hV) (by omega)
  clear hcb hsb
  have ZZ := Lib.hid (And.intro hDL (And.intro hNL (And.intro hCL hOL)))
  go_wp2_with fail
  generalize hQ : Exit.then _ _ = QX
  have KE : ∀ (p1 : Option Addr) (c1 : Nat) (p3 : Option Addr) (c3 : Nat) (p4 : Option Addr) (c4 : Nat) (V : World), Below w9.drew.heap.size w9.drew V → QX .normal { tmps := #[.agg (scs F (.slice p L.length c)), .agg (scs G (.slice q M.length d)), .string doc, .int .i64 field, .pointer (some ⟨g2, 0, none⟩), .pointer (some ⟨g3, 0, none⟩), undef, undef, .bool false, .pointer (some ⟨g9, 0, none⟩), .bool tb, .pointer (some ⟨g11, 0, none⟩), .bool tb, .slice pl (ofW L doc field).length cl, .agg (scs F (.slice p L.length c)), .bool true, .bool false, .bool false, .agg (scs G (.slice q M.length d)), .bool true, .bool false, .bool false, .bool false, .string doc, .int .i64 (doc.size : Int), .bool (decide (4096 < (doc.size : Int))), .bool (decide (4096 < (doc.size : Int))), undef, .tuple #[.agg #[.string ri, .string r0, .string r1, .string r2, .string r3], .bool tb], .agg (scs F (.slice p L.length c)), .string doc, .tuple #[.agg #[.string ri, .string r0, .string r1, .string r2, .string r3], .bool tb], .agg #[.string ri, .string r0, .string r1, .string r2, .string r3], .bool tb, .tuple #[.agg #[.string ri, .string r0, .string r1, .string r2, .string r3], .bool tb], .agg (scs F (.slice p L.length c)), .string doc, .tuple #[.agg #[.string ri, .string r0, .string r1, .string r2, .string r3], .bool tb], .agg #[.string ri, .string r0, .string r1, .string r2, .string r3], .bool tb, .agg (scs F (.slice p L.length c)), .string doc, .int .i64 field, .slice pl (ofW L doc field).length cl, .agg #[.string ri, .string r0, .string r1, .string r2, .string r3], .agg #[.string ri, .string r0, .string r1, .string r2, .string r3], .bool false, .bool false, .bool tb, .bool tb, .bool false, .bool false, .bool false, .slice pl (ofW L doc field).length cl, .agg (scs F (.slice p L.length c)), .string doc, .int .i64 field, .slice p1 (ofW L doc field).length c1, .bool true, .bool false, .bool false, .bool false, .pointer (some ⟨g2, 64, none⟩), .slice p L.length c, .slice p3 (dotsIn L).length c3, .pointer (some ⟨g2, 64, none⟩), .slice p L.length c, .slice p4 (dotsIn L).length c4, .bool true, .bool false, .bool false, undef, undef, undef, undef, undef, undef, undef, undef, undef, undef, undef, undef, undef, undef, undef, undef, undef, undef, undef, undef, undef, undef, undef, undef, undef, undef, undef, undef, undef, undef, undef], defers := [] } V := by
    intro p1 c1 p3 c3 p4 c4 V hV
    rw [← hQ]
    clear hQ
    simp only [Exit.then]
    have SV : Hid (Sx V g2 F (.slice p L.length c)) := Lib.hid (Sx.later (w := w9.drew) S9.out hV)
    have TV : Hid (Sx V g3 G (.slice q M.length d)) := Lib.hid (Sx.later (w := w9.drew) T9.out hV)
    have BV := Lib.hid (thenBelow B9.out (fromD hV))
    clear hV S9 T9 B9 D9 E9 W9
    go_wp2_with fail
    generalize hQ2 : Exit.then _ _ = QY
    have KE2 : ∀ (q1 : Option Addr) (e1 : Nat) (q2 : Option Addr) (e2 : Nat) (q4 : Option Addr) (e4 : Nat) (q5 : Option Addr) (e5 : Nat) (U : World), Below V.drew.heap.size V.drew U → QY .normal { tmps := #[.agg (scs F (.slice p L.length c)), .agg (scs G (.slice q M.length d)), .string doc, .int .i64 field, .pointer (some ⟨g2, 0, none⟩), .pointer (some ⟨g3, 0, none⟩), undef, undef, .bool true, .pointer (some ⟨g9, 0, none⟩), .bool tb, .pointer (some ⟨g11, 0, none⟩), .bool tb, .slice pl (ofW L doc field).length cl, .agg (scs F (.slice p L.length c)), .bool true, .bool false, .bool false, .agg (scs G (.slice q M.length d)), .bool true, .bool false, .bool false, .bool false, .string doc, .int .i64 (doc.size : Int), .bool (decide (4096 < (doc.size : Int))), .bool (decide (4096 < (doc.size : Int))), undef, .tuple #[.agg #[.string ri, .string r0, .string r1, .string r2, .string r3], .bool tb], .agg (scs F (.slice p L.length c)), .string doc, .tuple #[.agg #[.string ri, .string r0, .string r1, .string r2, .string r3], .bool tb], .agg #[.string ri, .string r0, .string r1, .string r2, .string r3], .bool tb, .tuple #[.agg #[.string ri, .string r0, .string r1, .string r2, .string r3], .bool tb], .agg (scs F (.slice p L.length c)), .string doc, .tuple #[.agg #[.string ri, .string r0, .string r1, .string r2, .string r3], .bool tb], .agg #[.string ri, .string r0, .string r1, .string r2, .string r3], .bool tb, .agg (scs F (.slice p L.length c)), .string doc, .int .i64 field, .slice pl (ofW L doc field).length cl, .agg #[.string ri, .string r0, .string r1, .string r2, .string r3], .agg #[.string ri, .string r0, .string r1, .string r2, .string r3], .bool false, .bool false, .bool tb, .bool tb, .bool false, .bool false, .bool false, .slice pl (ofW L doc field).length cl, .agg (scs F (.slice p L.length c)), .string doc, .int .i64 field, .slice p1 (ofW L doc field).length c1, .bool true, .bool false, .bool false, .bool false, .pointer (some ⟨g2, 64, none⟩), .slice p L.length c, .slice p3 (dotsIn L).length c3, .pointer (some ⟨g2, 64, none⟩), .slice p L.length c, .slice p4 (dotsIn L).length c4, .bool true, .bool false, .bool false, .agg (scs F (.slice p L.length c)), .slice q1 (namesIn L).length e1, .agg (scs F (.slice p L.length c)), .slice q2 (namesIn L).length e2, .bool true, .bool true, .agg (scs F (.slice p L.length c)), .slice q4 (corpusIn L).length e4, .agg (scs F (.slice p L.length c)), .slice q5 (corpusIn L).length e5, .bool true, .bool true, .bool true, .agg (scs F (.slice p L.length c)), .bool cb, .agg (scs F (.slice p L.length c)), .bool cb, .bool true, .bool true, .bool true, .agg (scs F (.slice p L.length c)), .agg (scs G (.slice q M.length d)), .bool sb, .agg (scs F (.slice p L.length c)), .agg (scs G (.slice q M.length d)), .bool sb, .bool true, .bool true, .bool true, .bool true, .bool true], defers := [] } U := by
      intro q1 e1 q2 e2 q4 e4 q5 e5 U hU
      rw [← hQ2]
      clear hQ2
      simp only [Exit.then]
      have BU := Lib.hid (thenBelow BV.out (fromD hU))
      clear hU
      go_wp2
      go_ret
      exact ⟨rfl, BU.out⟩
    have SF : ∀ U : World, Below V.drew.heap.size V.drew U → Sx U g2 F (.slice p L.length c) := fun U hU => Sx.later (w := V.drew) SV.out hU
    have SG : ∀ U : World, Below V.drew.heap.size V.drew U → Sx U g3 G (.slice q M.length d) := fun U hU => Sx.later (w := V.drew) TV.out hU
    have BW : ∀ U : World, Below V.drew.heap.size V.drew U → Below W.heap.size W U := fun U hU => thenBelow BV.out (fromD hU)
    have b0 := Below.refl V.drew.heap.size V.drew
    refine rg_last (by kernel_rfl) rfl (S := fun U => Below V.drew.heap.size V.drew U) ?_
    refine rgd_pureS 0 (some 71) rfl rfl (.agg (scs F (.slice p L.length c))) (by kernel_rfl) (by kernel_rfl) (by kernel_rfl) (fun _ _ _ _ h => h) (by kernel_rfl) (fun U hU => exec_gload 26 _ rfl g2 0 (by kernel_rfl) _ (SF U hU).whole Tryz.underlying26 rfl (sizeStl _ _)) b0 ?_
    refine rgd_pureS 2 (some 73) rfl rfl (.agg (scs F (.slice p L.length c))) (by kernel_rfl) (by kernel_rfl) (by kernel_rfl) (fun _ _ _ _ h => h) (by kernel_rfl) (fun U hU => exec_gload 26 _ rfl g2 0 (by kernel_rfl) _ (SF U hU).whole Tryz.underlying26 rfl (sizeStl _ _)) b0 ?_
    refine rgd_call 1 (some 72) (by kernel_rfl) rfl rfl (by kernel_rfl) 15 (#[.agg (scs F (.slice p L.length c))]) (by kernel_rfl) (docNames_is F p c L _ (HW.out.below (BW _ b0)) (by omega)) ?_
    rintro e U1 ⟨v1, rfl, o1, b1⟩
    obtain ⟨_, q1, e1, rfl, _, l1, _⟩ := own_liesS o1
    have n1 := thenBelow b0 b1
    refine ⟨_, rfl, n1, ?_⟩
    refine rgd_call 3 (some 74) (by kernel_rfl) rfl rfl (by kernel_rfl) 16 (#[.agg (scs F (.slice p L.length c))]) (by kernel_rfl) (refNames_is F p c L _ (HW.out.below (BW _ n1)) (by omega)) ?_
    rintro e U2 ⟨v2, rfl, o2, b2⟩
    obtain ⟨_, q2, e2, rfl, _, l2, _⟩ := own_liesS o2
    have n2 := thenBelow n1 b2
    refine ⟨_, rfl, n2, ?_⟩
    refine rgd_call 4 (some 75) (by kernel_rfl) rfl rfl (by kernel_rfl) 14 (#[.slice q1 (namesIn L).length e1, .slice q2 (namesIn L).length e2]) (by kernel_rfl) (equalS_same q1 q2 e1 e2 (namesIn L) _ (l1.below b2) l2 (by omega)) ?_
    rintro e U3 ⟨rfl, b3⟩
    have n3 := thenBelow n2 b3
    refine ⟨_, rfl, n3, ?_⟩
    refine rgd_pure 5 (some 76) rfl rfl (.bool true) (by kernel_rfl) (by kernel_rfl) (by kernel_rfl) (fun _ _ _ _ h => h) (by kernel_rfl) (fun w => by kernel_rfl) n3 ?_
    refine rgd_pureS 6 (some 77) rfl rfl (.agg (scs F (.slice p L.length c))) (by kernel_rfl) (by kernel_rfl) (by kernel_rfl) (fun _ _ _ _ h => h) (by kernel_rfl) (fun U hU => exec_gload 26 _ rfl g2 0 (by kernel_rfl) _ (SF U hU).whole Tryz.underlying26 rfl (sizeStl _ _)) n3 ?_
    refine rgd_pureS 8 (some 79) rfl rfl (.agg (scs F (.slice p L.length c))) (by kernel_rfl) (by kernel_rfl) (by kernel_rfl) (fun _ _ _ _ h => h) (by kernel_rfl) (fun U hU => exec_gload 26 _ rfl g2 0 (by kernel_rfl) _ (SF U hU).whole Tryz.underlying26 rfl (sizeStl _ _)) n3 ?_
    refine rgd_call 7 (some 78) (by kernel_rfl) rfl rfl (by kernel_rfl) 18 (#[.agg (scs F (.slice p L.length c))]) (by kernel_rfl) (docCorpus_is F p c L _ (HW.out.below (BW _ n3)) HO.out (by omega)) ?_
    rintro e U4 ⟨v4, rfl, o4, b4⟩
    obtain ⟨q4, e4, rfl, _, l4, _⟩ := own_atV o4
    have n4 := thenBelow n3 b4
    refine ⟨_, rfl, n4, ?_⟩
    refine rgd_call 9 (some 80) (by kernel_rfl) rfl rfl (by kernel_rfl) 19 (#[.agg (scs F (.slice p L.length c))]) (by kernel_rfl) (refCorpus_is F p c L _ (HW.out.below (BW _ n4)) (by omega)) ?_
    rintro e U5 ⟨v5, rfl, o5, b5⟩
    obtain ⟨q5, e5, rfl, _, l5, _⟩ := own_atV o5
    have n5 := thenBelow n4 b5
    refine ⟨_, rfl, n5, ?_⟩
    refine rgd_call 10 (some 81) (by kernel_rfl) rfl rfl (by kernel_rfl) 17 (#[.slice q4 (corpusIn L).length e4, .slice q5 (corpusIn L).length e5]) (by kernel_rfl) (equalDv_is q4 q5 e4 e5 (corpusIn L) _ (l4.below b5) l5 (by omega)) ?_
    rintro e U6 ⟨rfl, b6⟩
    have n6 := thenBelow n5 b6
    refine ⟨_, rfl, n6, ?_⟩
    refine rgd_pure 11 (some 82) rfl rfl (.bool true) (by kernel_rfl) (by kernel_rfl) (by kernel_rfl) (fun _ _ _ _ h => h) (by kernel_rfl) (fun w => by kernel_rfl) n6 ?_
    refine rgd_pure 12 (some 83) rfl rfl (.bool true) (by kernel_rfl) (by kernel_rfl) (by kernel_rfl) (fun _ _ _ _ h => h) (by kernel_rfl) (fun w => by kernel_rfl) n6 ?_
    refine rgd_pureS 13 (some 84) rfl rfl (.agg (scs F (.slice p L.length c))) (by kernel_rfl) (by kernel_rfl) (by kernel_rfl) (fun _ _ _ _ h => h) (by kernel_rfl) (fun U hU => exec_gload 26 _ rfl g2 0 (by kernel_rfl) _ (SF U hU).whole Tryz.underlying26 rfl (sizeStl _ _)) n6 ?_
    refine rgd_pureS 15 (some 86) rfl rfl (.agg (scs F (.slice p L.length c))) (by kernel_rfl) (by kernel_rfl) (by kernel_rfl) (fun _ _ _ _ h => h) (by kernel_rfl) (fun U hU => exec_gload 26 _ rfl g2 0 (by kernel_rfl) _ (SF U hU).whole Tryz.underlying26 rfl (sizeStl _ _)) n6 ?_
    refine rgd_call 14 (some 85) (by kernel_rfl) rfl rfl (by kernel_rfl) 20 (#[.agg (scs F (.slice p L.length c))]) (by kernel_rfl) (CD.out _ (BW _ n6)) ?_
    rintro e U7 ⟨rfl, b7⟩
    have n7 := thenBelow n6 b7
    refine ⟨_, rfl, n7, ?_⟩
    refine rgd_call 16 (some 87) (by kernel_rfl) rfl rfl (by kernel_rfl) 21 (#[.agg (scs F (.slice p L.length c))]) (by kernel_rfl) (CR.out _ (BW _ n7)) ?_
    rintro e U8 ⟨rfl, b8⟩
    have n8 := thenBelow n7 b8
    refine ⟨_, rfl, n8, ?_⟩
    refine rgd_pure 17 (some 88) rfl rfl (.bool true) (by kernel_rfl) (by kernel_rfl) (by kernel_rfl) (fun _ _ _ _ h => h) (by kernel_rfl) (exec_eqlTR _ _ _ rfl cb (by kernel_rfl) (by kernel_rfl)) n8 ?_
    refine rgd_pure 18 (some 89) rfl rfl (.bool true) (by kernel_rfl) (by kernel_rfl) (by kernel_rfl) (fun _ _ _ _ h => h) (by kernel_rfl) (fun w => by kernel_rfl) n8 ?_
    refine rgd_pure 19 (some 90) rfl rfl (.bool true) (by kernel_rfl) (by kernel_rfl) (by kernel_rfl) (fun _ _ _ _ h => h) (by kernel_rfl) (fun w => by kernel_rfl) n8 ?_
    refine rgd_pureS 20 (some 91) rfl rfl (.agg (scs F (.slice p L.length c))) (by kernel_rfl) (by kernel_rfl) (by kernel_rfl) (fun _ _ _ _ h => h) (by kernel_rfl) (fun U hU => exec_gload 26 _ rfl g2 0 (by kernel_rfl) _ (SF U hU).whole Tryz.underlying26 rfl (sizeStl _ _)) n8 ?_
    refine rgd_pureS 21 (some 92) rfl rfl (.agg (scs G (.slice q M.length d))) (by kernel_rfl) (by kernel_rfl) (by kernel_rfl) (fun _ _ _ _ h => h) (by kernel_rfl) (fun U hU => exec_gload 26 _ rfl g3 0 (by kernel_rfl) _ (SG U hU).whole Tryz.underlying26 rfl (sizeStl _ _)) n8 ?_
    refine rgd_pureS 23 (some 94) rfl rfl (.agg (scs F (.slice p L.length c))) (by kernel_rfl) (by kernel_rfl) (by kernel_rfl) (fun _ _ _ _ h => h) (by kernel_rfl) (fun U hU => exec_gload 26 _ rfl g2 0 (by kernel_rfl) _ (SF U hU).whole Tryz.underlying26 rfl (sizeStl _ _)) n8 ?_
    refine rgd_pureS 24 (some 95) rfl rfl (.agg (scs G (.slice q M.length d))) (by kernel_rfl) (by kernel_rfl) (by kernel_rfl) (fun _ _ _ _ h => h) (by kernel_rfl) (fun U hU => exec_gload 26 _ rfl g3 0 (by kernel_rfl) _ (SG U hU).whole Tryz.underlying26 rfl (sizeStl _ _)) n8 ?_
    refine rgd_call 22 (some 93) (by kernel_rfl) rfl rfl (by kernel_rfl) 22 (#[.agg (scs F (.slice p L.length c)), .agg (scs G (.slice q M.length d))]) (by kernel_rfl) (ND.out _ (BW _ n8)) ?_
    rintro e U9 ⟨rfl, b9⟩
    have n9 := thenBelow n8 b9
    refine ⟨_, rfl, n9, ?_⟩
    refine rgd_call 25 (some 96) (by kernel_rfl) rfl rfl (by kernel_rfl) 23 (#[.agg (scs F (.slice p L.length c)), .agg (scs G (.slice q M.length d))]) (by kernel_rfl) (NR.out _ (BW _ n9)) ?_
    rintro e UA ⟨rfl, bA⟩
    have nA := thenBelow n9 bA
    refine ⟨_, rfl, nA, ?_⟩
    refine rgd_pure 26 (some 97) rfl rfl (.bool true) (by kernel_rfl) (by kernel_rfl) (by kernel_rfl) (fun _ _ _ _ h => h) (by kernel_rfl) (exec_eqlTR _ _ _ rfl sb (by kernel_rfl) (by kernel_rfl)) nA ?_
    refine rgd_pure 27 (some 98) rfl rfl (.bool true) (by kernel_rfl) (by kernel_rfl) (by kernel_rfl) (fun _ _ _ _ h => h) (by kernel_rfl) (fun w => by kernel_rfl) nA ?_
    refine rgd_pure 28 (some 99) rfl rfl (.bool true) (by kernel_rfl) (by kernel_rfl) (by kernel_rfl) (fun _ _ _ _ h => h) (by kernel_rfl) (fun w => by kernel_rfl) nA ?_
    refine rgd_call 29 (some 100) (by kernel_rfl) rfl rfl (by kernel_rfl) 5 (#[]) (by kernel_rfl) (awake12 _ (HT.out.below (BW _ nA))) ?_
    rintro e UB ⟨rfl, bB⟩
    have nB := thenBelow nA bB
    refine ⟨_, rfl, nB, ?_⟩
    refine rgd_pure 30 (some 101) rfl rfl (.bool true) (by kernel_rfl) (by kernel_rfl) (by kernel_rfl) (fun _ _ _ _ h => h) (by kernel_rfl) (fun w => by kernel_rfl) nB ?_
    refine rgd_pure 31 (some 8) rfl rfl (.bool true) (by kernel_rfl) (by kernel_rfl) (by kernel_rfl) (fun _ _ _ _ h => h) (by kernel_rfl) (fun w => by kernel_rfl) nB ?_
    exact wpAnyH_done (by kernel_rfl) (Eq.mp (by kernel_rfl) (KE2 q1 e1 q2 e2 q4 e4 q5 e5 UB nB)) _
  have SF : ∀ U : World, Below w9.drew.heap.size w9.drew U → Sx U g2 F (.slice p L.length c) := fun U hU => Sx.later (w := w9.drew) S9.out hU
  have DV : ∀ U : World, Below w9.drew.heap.size w9.drew U → U.rangeAt g9 0 [.string ri, .string r0, .string r1, .string r2, .string r3] := fun U hU => by
    have := range_of_block ((hU.block g9 (Array.getElem?_eq_some_iff.1 D9.out).1).trans D9.out)
    exact this
  have EV : ∀ U : World, Below w9.drew.heap.size w9.drew U → U.rangeAt g11 0 [.string ri, .string r0, .string r1, .string r2, .string r3] := fun U hU => by
    have := range_of_block ((hU.block g11 (Array.getElem?_eq_some_iff.1 E9.out).1).trans E9.out)
    exact this
  have BW : ∀ U : World, Below w9.drew.heap.size w9.drew U → Below W.heap.size W U := fun U hU => thenBelow B9.out (fromD hU)
  have b0 := Below.refl w9.drew.heap.size w9.drew
  refine rg_last (by kernel_rfl) rfl (S := fun U => Below w9.drew.heap.size w9.drew U) ?_
  refine rgd_pureS 0 (some 44) rfl rfl (.agg #[.string ri, .string r0, .string r1, .string r2, .string r3]) (by kernel_rfl) (by kernel_rfl) (by kernel_rfl) (fun _ _ _ _ h => h) (by kernel_rfl) (fun U hU => exec_gload 31 _ rfl g9 0 (by kernel_rfl) [.string ri, .string r0, .string r1, .string r2, .string r3] (DV U hU) Tryz.underlying31 rfl (sizeDv ⟨ri, r0, r1, r2, r3⟩)) b0 ?_
  refine rgd_pureS 1 (some 45) rfl rfl (.agg #[.string ri, .string r0, .string r1, .string r2, .string r3]) (by kernel_rfl) (by kernel_rfl) (by kernel_rfl) (fun _ _ _ _ h => h) (by kernel_rfl) (fun U hU => exec_gload 31 _ rfl g11 0 (by kernel_rfl) [.string ri, .string r0, .string r1, .string r2, .string r3] (EV U hU) Tryz.underlying31 rfl (sizeDv ⟨ri, r0, r1, r2, r3⟩)) b0 ?_
  refine rgd_pure 2 (some 46) rfl rfl (.bool false) (by kernel_rfl) (by kernel_rfl) (by kernel_rfl) (fun _ _ _ _ h => h) (by kernel_rfl) (exec_neqVs _ _ _ rfl ⟨ri, r0, r1, r2, r3⟩ (by kernel_rfl) (by kernel_rfl)) b0 ?_
  refine rgd_pure 3 (some 47) rfl rfl (.bool false) (by kernel_rfl) (by kernel_rfl) (by kernel_rfl) (fun _ _ _ _ h => h) (by kernel_rfl) (fun w => by kernel_rfl) b0 ?_
  refine rgd_pure 4 (some 48) rfl rfl (.bool tb) (by kernel_rfl) (by kernel_rfl) (by kernel_rfl) (fun _ _ _ _ h => h) (by kernel_rfl) (fun w => by kernel_rfl) b0 ?_
  refine rgd_pure 5 (some 49) rfl rfl (.bool tb) (by kernel_rfl) (by kernel_rfl) (by kernel_rfl) (fun _ _ _ _ h => h) (by kernel_rfl) (fun w => by kernel_rfl) b0 ?_
  refine rgd_pure 6 (some 50) rfl rfl (.bool false) (by kernel_rfl) (by kernel_rfl) (by kernel_rfl) (fun _ _ _ _ h => h) (by kernel_rfl) (exec_neqTR _ _ _ rfl tb (by kernel_rfl) (by kernel_rfl)) b0 ?_
  refine rgd_pure 7 (some 51) rfl rfl (.bool false) (by kernel_rfl) (by kernel_rfl) (by kernel_rfl) (fun _ _ _ _ h => h) (by kernel_rfl) (fun w => by kernel_rfl) b0 ?_
  refine rgd_pure 8 (some 52) rfl rfl (.bool false) (by kernel_rfl) (by kernel_rfl) (by kernel_rfl) (fun _ _ _ _ h => h) (by kernel_rfl) (fun w => by kernel_rfl) b0 ?_
  refine rgd_pure 9 (some 53) rfl rfl (.slice pl (ofW L doc field).length cl) (by kernel_rfl) (by kernel_rfl) (by kernel_rfl) (fun _ _ _ _ h => h) (by kernel_rfl) (fun w => by kernel_rfl) b0 ?_
  refine rgd_pureS 10 (some 54) rfl rfl (.agg (scs F (.slice p L.length c))) (by kernel_rfl) (by kernel_rfl) (by kernel_rfl) (fun _ _ _ _ h => h) (by kernel_rfl) (fun U hU => exec_gload 26 _ rfl g2 0 (by kernel_rfl) _ (SF U hU).whole Tryz.underlying26 rfl (sizeStl _ _)) b0 ?_
  refine rgd_pure 11 (some 55) rfl rfl (.string doc) (by kernel_rfl) (by kernel_rfl) (by kernel_rfl) (fun _ _ _ _ h => h) (by kernel_rfl) (fun w => by kernel_rfl) b0 ?_
  refine rgd_pure 12 (some 56) rfl rfl (.int .i64 field) (by kernel_rfl) (by kernel_rfl) (by kernel_rfl) (fun _ _ _ _ h => h) (by kernel_rfl) (fun w => by kernel_rfl) b0 ?_
  refine rgd_call 13 (some 57) (by kernel_rfl) rfl rfl (by kernel_rfl) 10 (#[.agg (scs F (.slice p L.length c)), .string doc, .int .i64 field]) (by kernel_rfl) (refOf_is F p c L doc field _ (HW.out.below (BW _ b0)) (by omega)) ?_
  rintro e U1 ⟨v1, rfl, o1, b1⟩
  obtain ⟨p1, c1, rfl, _, W1, _⟩ := own_wat o1
  have n1 := thenBelow b0 b1
  refine ⟨_, rfl, n1, ?_⟩
  refine rgd_call 14 (some 58) (by kernel_rfl) rfl rfl (by kernel_rfl) 9 (#[.slice pl (ofW L doc field).length cl, .slice p1 (ofW L doc field).length c1]) (by kernel_rfl) (equalWr_is pl p1 cl c1 _ _ (W9.out.below (fromD n1)) W1 (by omega)) ?_
  rintro e U2 ⟨rfl, b2⟩
  have n2 := thenBelow n1 b2
  refine ⟨_, rfl, n2, ?_⟩
  refine rgd_pure 15 (some 59) rfl rfl (.bool false) (by kernel_rfl) (by kernel_rfl) (by kernel_rfl) (fun _ _ _ _ h => h) (by kernel_rfl) (fun w => by kernel_rfl) n2 ?_
  refine rgd_pure 16 (some 60) rfl rfl (.bool false) (by kernel_rfl) (by kernel_rfl) (by kernel_rfl) (fun _ _ _ _ h => h) (by kernel_rfl) (fun w => by kernel_rfl) n2 ?_
  refine rgd_pure 17 (some 61) rfl rfl (.bool false) (by kernel_rfl) (by kernel_rfl) (by kernel_rfl) (fun _ _ _ _ h => h) (by kernel_rfl) (fun w => by kernel_rfl) n2 ?_
  refine rgd_pure 18 (some 62) rfl rfl (.pointer (some ⟨g2, 64, none⟩)) (by kernel_rfl) (by kernel_rfl) (by kernel_rfl) (fun _ _ _ _ h => h) (by kernel_rfl) (fun w => by kernel_rfl) n2 ?_
  refine rgd_pureS 19 (some 63) rfl rfl (.slice p L.length c) (by kernel_rfl) (by kernel_rfl) (by kernel_rfl) (fun _ _ _ _ h => h) (by kernel_rfl) (fun U hU => exec_load1 _ _ rfl Tryz.underlying24 rfl ⟨g2, 64, none⟩ _ (by kernel_rfl) (SF U hU).slot) n2 ?_
  refine rgd_pure 21 (some 65) rfl rfl (.pointer (some ⟨g2, 64, none⟩)) (by kernel_rfl) (by kernel_rfl) (by kernel_rfl) (fun _ _ _ _ h => h) (by kernel_rfl) (fun w => by kernel_rfl) n2 ?_
  refine rgd_pureS 22 (some 66) rfl rfl (.slice p L.length c) (by kernel_rfl) (by kernel_rfl) (by kernel_rfl) (fun _ _ _ _ h => h) (by kernel_rfl) (fun U hU => exec_load1 _ _ rfl Tryz.underlying24 rfl ⟨g2, 64, none⟩ _ (by kernel_rfl) (SF U hU).slot) n2 ?_
  refine rgd_call 20 (some 64) (by kernel_rfl) rfl rfl (by kernel_rfl) 12 (#[.slice p L.length c]) (by kernel_rfl) (docGone_is p c L _ (HW.out.below (BW _ n2)) (by omega)) ?_
  rintro e U3 ⟨p3, c3, rfl, d3, b3⟩
  have n3 := thenBelow n2 b3
  refine ⟨_, rfl, n3, ?_⟩
  refine rgd_call 23 (some 67) (by kernel_rfl) rfl rfl (by kernel_rfl) 13 (#[.slice p L.length c]) (by kernel_rfl) (refGone_is p c L _ (HW.out.below (BW _ n3)) (by omega)) ?_
  rintro e U4 ⟨v4, rfl, o4, b4⟩
  obtain ⟨_, p4, c4, rfl, _, d4, _, _⟩ := own_drow o4
  have n4 := thenBelow n3 b4
  refine ⟨_, rfl, n4, ?_⟩
  refine rgd_call 24 (some 68) (by kernel_rfl) rfl rfl (by kernel_rfl) 11 (#[.slice p3 (dotsIn L).length c3, .slice p4 (dotsIn L).length c4]) (by kernel_rfl) (equalDt_is p3 p4 c3 c4 (dotsIn L) _ (d3.below b4) d4 (by omega)) ?_
  rintro e U5 ⟨rfl, b5⟩
  have n5 := thenBelow n4 b5
  refine ⟨_, rfl, n5, ?_⟩
  refine rgd_pure 25 (some 69) rfl rfl (.bool false) (by kernel_rfl) (by kernel_rfl) (by kernel_rfl) (fun _ _ _ _ h => h) (by kernel_rfl) (fun w => by kernel_rfl) n5 ?_
  refine rgd_pure 26 (some 70) rfl rfl (.bool false) (by kernel_rfl) (by kernel_rfl) (by kernel_rfl) (fun _ _ _ _ h => h) (by kernel_rfl) (fun w => by kernel_rfl) n5 ?_
  exact wpAnyH_done (by kernel_rfl) (Eq.mp (by kernel_rfl) (KE p1 c1 p3 c3 p4 c4 U5 n5)) _
end Go.Proofs.YtijmijokgenflaaGreatDoor
