/- The statement DocsJoins, proved for every input that its row reads: part 48 of 54. -/
import Derived.Test.YtdnkhcbglmfjbaaDoorPackDocsJoins47
import Derived.Test.YtdnkhcbglmfjbaaDoorPackDocsJoins39
/- The walk of DocsJoins. -/
namespace Go.Proofs.YtdnkhcbglmfjbaaDoor
open Go Go.RowKit
set_option linter.unusedVariables false
set_option maxRecDepth 1000000

set_option maxHeartbeats 8000000 in
theorem docsJoins_walk (F : Nat → Int) (p : Option Addr) (c : Nat) (L : List Wr) (G : Nat → Int) (q : Option Addr) (d : Nat) (M : List Wr) (W : World) (hw : WrsAt W p L) (ho : ∀ a, p = some a → ∃ b o, a = ⟨b, o, none⟩) (hw2 : WrsAt W q M) (ho2 : ∀ a, q = some a → ∃ b o, a = ⟨b, o, none⟩) (hT : Shapes W) :
    Calls Tryd.prog 3 #[.agg (scs F (.slice p L.length c)), .agg (scs G (.slice q M.length d))] W (Yes W) := by
  have HW := Lib.hid hw; have HM := Lib.hid hw2; have HT := Lib.hid hT; have HO := Lib.hid ho; have HO2 := Lib.hid ho2
  clear hw ho hw2 ho2 hT
  go_enter Tryd.func3, Tryd.ntmps3
  go_wp2_with (refine wpList_gbox rfl _ rfl (scs F (.slice p L.length c)) rfl ?_)
  intro g2 w1 l2 h2 hb1
  have S1 : Hid (Sx w1 g2 F (.slice p L.length c)) := Lib.hid h2
  have B1 := Lib.hid hb1
  clear h2 hb1
  go_wp2_with (refine wpList_gbox rfl _ rfl (scs G (.slice q M.length d)) rfl ?_)
  intro g3 w2 l3 h3 hb2
  have S2 := Lib.hid (S1.out.later hb2); have B2 := Lib.hid (thenBelow B1.out hb2)
  have T2 : Hid (Sx w2 g3 G (.slice q M.length d)) := Lib.hid h3
  have SW := Lib.hid (S2.out.whole)
  clear h3 hb2 S1
  go_wp2_with (refine wpList_gload rfl _ rfl g2 0 rfl _ SW.out _ Tryd.underlying26 rfl (sizeStl _ _) ?_)
  refine (smallS_is F p c L w2 (HW.out.below B2.out)).mono ?_
  rintro e w3 ⟨b9, rfl, hb9, hb3⟩
  have S3 := Lib.hid (S2.out.later hb3); have T3 := Lib.hid (T2.out.later hb3); have B3 := Lib.hid (thenBelow B2.out hb3)
  clear hb3 S2 T2 SW
  cases b9 with
  | false =>
    clear hb9
    have AW := Lib.hid (awake12 w3 (HT.out.below B3.out))
    go_wp2_with fail
    refine AW.out.mono ?_
    rintro e w99 ⟨rfl, hb99⟩
    have B99 := Lib.hid (thenBelow B3.out hb99)
    clear hb99 AW
    go_wp2
    go_ret
    exact ⟨rfl, B99.out⟩
  | true =>
  have SM : L.length ≤ 120 := hb9 rfl
  clear hb9
  have SW := Lib.hid (T3.out.whole)
  go_wp2_with (refine wpList_gloadG (by rfl) _ rfl g3 0 rfl _ SW.out _ Tryd.underlying26 rfl (sizeStl _ _) ?_)
  refine (smallS_is G q d M w3 (HM.out.below B3.out)).mono ?_
  rintro e w4 ⟨b9, rfl, hb9, hb3⟩
  have S4 := Lib.hid (S3.out.later hb3); have T4 := Lib.hid (T3.out.later hb3); have B4 := Lib.hid (thenBelow B3.out hb3)
  clear hb3 S3 T3 SW
  cases b9 with
  | false =>
    clear hb9
    have AW := Lib.hid (awake12 w4 (HT.out.below B4.out))
    go_wp2_with fail
    refine AW.out.mono ?_
    rintro e w99 ⟨rfl, hb99⟩
    have B99 := Lib.hid (thenBelow B4.out hb99)
    clear hb99 AW
    go_wp2
    go_ret
    exact ⟨rfl, B99.out⟩
  | true =>
  have SM2 : M.length ≤ 120 := hb9 rfl
  clear hb9
  have SW := Lib.hid (S4.out.whole)
  have CA := Lib.hid (refCan_is F p c L w4 (HW.out.below B4.out))
  go_wp2_with (refine wpList_gloadG (by rfl) _ rfl g2 0 rfl _ SW.out _ Tryd.underlying26 rfl (sizeStl _ _) ?_)
  refine CA.out.mono ?_
  rintro e w5 ⟨rfl, hb3⟩
  have S5 := Lib.hid (S4.out.later hb3); have T5 := Lib.hid (T4.out.later hb3); have B5 := Lib.hid (thenBelow B4.out hb3)
  clear hb3 S4 T4 SW CA
  cases hcan : canB F L with
  | false =>
    clear hcan
    have AW := Lib.hid (awake12 w5 (HT.out.below B5.out))
    go_wp2_with fail
    refine AW.out.mono ?_
    rintro e w99 ⟨rfl, hb99⟩
    have B99 := Lib.hid (thenBelow B5.out hb99)
    clear hb99 AW
    go_wp2
    go_ret
    exact ⟨rfl, B99.out⟩
  | true =>
  have CF := Lib.hid (can_iff.1 hcan)
  clear hcan
  have SW := Lib.hid (T5.out.whole)
  have CA := Lib.hid (refCan_is G q d M w5 (HM.out.below B5.out))
  go_wp2_with (refine wpList_gloadG (by rfl) _ rfl g3 0 rfl _ SW.out _ Tryd.underlying26 rfl (sizeStl _ _) ?_)
  refine CA.out.mono ?_
  rintro e w6 ⟨rfl, hb3⟩
  have S6 := Lib.hid (S5.out.later hb3); have T6 := Lib.hid (T5.out.later hb3); have B6 := Lib.hid (thenBelow B5.out hb3)
  clear hb3 S5 T5 SW CA
  cases hcan : canB G M with
  | false =>
    clear hcan
    have AW := Lib.hid (awake12 w6 (HT.out.below B6.out))
    go_wp2_with fail
    refine AW.out.mono ?_
    rintro e w99 ⟨rfl, hb99⟩
    have B99 := Lib.hid (thenBelow B6.out hb99)
    clear hb99 AW
    go_wp2
    go_ret
    exact ⟨rfl, B99.out⟩
  | true =>
  have CG := Lib.hid (can_iff.1 hcan)
  clear hcan
  have JS : refL L M F G = joinL L M F G := (join_same CF.out.ord CG.out.ord (fun x hx => (CF.out.fine x hx).2) (fun x hx => (CG.out.fine x hx).2)).symm
  have J1 : Hid (∀ V : World, Below W.heap.size W V → Calls Tryd.prog 8 #[.agg (scs F (.slice p L.length c)), .agg (scs G (.slice q M.length d))] V (JoinR V (fun i => max (F i) (G i)) (joinL L M F G))) := Lib.hid fun V hV => docJoin_is F G p q c d L M V (HW.out.below hV) HO.out (by omega) (HM.out.below hV) HO2.out (by omega)
  have J2 : Hid (∀ V : World, Below W.heap.size W V → Calls Tryd.prog 9 #[.agg (scs F (.slice p L.length c)), .agg (scs G (.slice q M.length d))] V (JoinR V (fun i => max (F i) (G i)) (joinL L M F G))) := Lib.hid fun V hV => by
    have := refJoinS_is F G p q c d L M V (HW.out.below hV) (by omega) (HM.out.below hV) (by omega)
    rw [JS] at this; exact this
  have lJ : (joinL L M F G).length ≤ 240 := by
    unfold joinL
    rw [isrt_len]
    have h1 := onceW_len (leftW L M G ++ leftW M L F)
    rw [List.length_append] at h1
    have h2 := leftW_len L M G
    have h3 := leftW_len M L F
    omega
  generalize (fun i => max (F i) (G i)) = H at *
  generalize joinL L M F G = K at *
  clear JS CF CG SM SM2 HW HM HO HO2
  go_wp2_with fail
  generalize hQ : Exit.then _ _ = QX
  have KE : ∀ (p1 : Option Addr) (c1 : Nat) (p2 : Option Addr) (c2 : Nat) (V : World), Below W.heap.size W V → QX .normal { tmps := #[.agg (scs F (.slice p L.length c)), .agg (scs G (.slice q M.length d)), .pointer (some ⟨g2, 0, none⟩), .pointer (some ⟨g3, 0, none⟩), .bool true, .agg (scs F (.slice p L.length c)), .bool true, .bool false, .bool false, .agg (scs G (.slice q M.length d)), .bool true, .bool false, .bool false, .bool false, .agg (scs F (.slice p L.length c)), .bool true, .bool false, .bool false, .bool false, .agg (scs G (.slice q M.length d)), .bool true, .bool false, .bool false, undef, .agg (scs F (.slice p L.length c)), .agg (scs G (.slice q M.length d)), .agg (scs H (.slice p1 K.length c1)), .agg (scs F (.slice p L.length c)), .agg (scs G (.slice q M.length d)), .agg (scs H (.slice p2 K.length c2)), .bool true, .bool true, .bool true, .bool true], defers := [] } V := by
    intro p1 c1 p2 c2 V hV
    rw [← hQ]
    clear hQ
    simp only [Exit.then]
    have BV := Lib.hid hV
    clear hV
    go_wp2
    go_ret
    exact ⟨rfl, BV.out⟩
  have SF : ∀ V : World, Below w6.drew.heap.size w6.drew V → Sx V g2 F (.slice p L.length c) := fun V hV => Sx.later (w := w6.drew) S6.out hV
  have SG : ∀ V : World, Below w6.drew.heap.size w6.drew V → Sx V g3 G (.slice q M.length d) := fun V hV => Sx.later (w := w6.drew) T6.out hV
  have b0 := Below.refl w6.drew.heap.size w6.drew
  refine rg_last (by kernel_rfl) rfl (S := fun U => Below w6.drew.heap.size w6.drew U) ?_
  refine rgd_pureS 0 (some 24) rfl rfl (.agg (scs F (.slice p L.length c))) (by kernel_rfl) (by kernel_rfl) (by kernel_rfl) (fun _ _ _ _ h => h) (by kernel_rfl) (fun U hU => exec_gload 26 _ rfl g2 0 (by kernel_rfl) _ (SF U hU).whole Tryd.underlying26 rfl (sizeStl _ _)) b0 ?_
  refine rgd_pureS 1 (some 25) rfl rfl (.agg (scs G (.slice q M.length d))) (by kernel_rfl) (by kernel_rfl) (by kernel_rfl) (fun _ _ _ _ h => h) (by kernel_rfl) (fun U hU => exec_gload 26 _ rfl g3 0 (by kernel_rfl) _ (SG U hU).whole Tryd.underlying26 rfl (sizeStl _ _)) b0 ?_
  refine rgd_pureS 3 (some 27) rfl rfl (.agg (scs F (.slice p L.length c))) (by kernel_rfl) (by kernel_rfl) (by kernel_rfl) (fun _ _ _ _ h => h) (by kernel_rfl) (fun U hU => exec_gload 26 _ rfl g2 0 (by kernel_rfl) _ (SF U hU).whole Tryd.underlying26 rfl (sizeStl _ _)) b0 ?_
  refine rgd_pureS 4 (some 28) rfl rfl (.agg (scs G (.slice q M.length d))) (by kernel_rfl) (by kernel_rfl) (by kernel_rfl) (fun _ _ _ _ h => h) (by kernel_rfl) (fun U hU => exec_gload 26 _ rfl g3 0 (by kernel_rfl) _ (SG U hU).whole Tryd.underlying26 rfl (sizeStl _ _)) b0 ?_
  refine rgd_call 2 (some 26) (by kernel_rfl) rfl rfl (by kernel_rfl) 8 (#[.agg (scs F (.slice p L.length c)), .agg (scs G (.slice q M.length d))]) (by kernel_rfl) (J1.out _ (thenBelow B6.out (fromD b0))) ?_
  rintro e U1 ⟨v1, rfl, o1, b1⟩
  obtain ⟨p1, c1, rfl, _, W1, _, _⟩ := own_wat0 o1
  refine ⟨_, rfl, b1, ?_⟩
  refine rgd_call 5 (some 29) (by kernel_rfl) rfl rfl (by kernel_rfl) 9 (#[.agg (scs F (.slice p L.length c)), .agg (scs G (.slice q M.length d))]) (by kernel_rfl) (J2.out _ (thenBelow B6.out (fromD b1))) ?_
  rintro e U2 ⟨v2, rfl, o2, b2⟩
  obtain ⟨p2, c2, rfl, _, W2, _, _⟩ := own_wat0 o2
  have SU2 := thenBelow b1 b2
  refine ⟨_, rfl, SU2, ?_⟩
  refine rgd_call 6 (some 30) (by kernel_rfl) rfl rfl (by kernel_rfl) 7 (#[.agg (scs H (.slice p1 K.length c1)), .agg (scs H (.slice p2 K.length c2))]) (by kernel_rfl) (sameS_is H H (veq_self H) p1 p2 c1 c2 K U2 (W1.below b2) W2 (by omega)) ?_
  rintro e U3 ⟨rfl, b3⟩
  have SU3 := thenBelow SU2 b3
  refine ⟨_, rfl, SU3, ?_⟩
  refine rgd_pure 7 (some 31) rfl rfl (.bool true) (by kernel_rfl) (by kernel_rfl) (by kernel_rfl) (fun _ _ _ _ h => h) (by kernel_rfl) (fun w => by kernel_rfl) SU3 ?_
  refine rgd_call 8 (some 32) (by kernel_rfl) rfl rfl (by kernel_rfl) 6 (#[]) (by kernel_rfl) (awake12 U3 (HT.out.below (thenBelow B6.out (fromD SU3)))) ?_
  rintro e U4 ⟨rfl, b4⟩
  have SU4 := thenBelow SU3 b4
  refine ⟨_, rfl, SU4, ?_⟩
  refine rgd_pure 9 (some 33) rfl rfl (.bool true) (by kernel_rfl) (by kernel_rfl) (by kernel_rfl) (fun _ _ _ _ h => h) (by kernel_rfl) (fun w => by kernel_rfl) SU4 ?_
  refine rgd_pure 10 (some 4) rfl rfl (.bool true) (by kernel_rfl) (by kernel_rfl) (by kernel_rfl) (fun _ _ _ _ h => h) (by kernel_rfl) (fun w => by kernel_rfl) SU4 ?_
  exact wpAnyH_done (by kernel_rfl) (Eq.mp (by kernel_rfl) (KE p1 c1 p2 c2 U4 (thenBelow B6.out (fromD SU4)))) _
end Go.Proofs.YtdnkhcbglmfjbaaDoor
