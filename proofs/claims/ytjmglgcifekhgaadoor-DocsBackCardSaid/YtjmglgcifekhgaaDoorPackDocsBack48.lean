/- The statement DocsBack, proved for every input that its row reads: part 48 of 54. -/
import Derived.Test.YtjmglgcifekhgaaDoorPackDocsBack45
import Derived.Test.YtjmglgcifekhgaaDoorPackDocsBack36
import Derived.Test.YtjmglgcifekhgaaDoorPackDocsBack47
/- The walk of DocsBack. -/
namespace Go.Proofs.YtjmglgcifekhgaaDoor
open Go Go.RowKit
set_option linter.unusedVariables false
set_option maxRecDepth 1000000

set_option maxHeartbeats 8000000 in
theorem docsBack_walk (F : Nat → Int) (q : Option Addr) (d : Nat) (L : List Wr) (p : Option Addr) (c : Nat) (l : List UInt8) (W : World) (hw : WrsAt W q L) (ho : ∀ a, q = some a → ∃ b o, a = ⟨b, o, none⟩) (h : Came W p c l) (hT : Shapes W) :
    Calls Tryd.prog 4 #[.agg (scs F (.slice q L.length d)), .slice p l.length c] W (Yes W) := by
  have hr := h.reach
  have hle := h.le
  have G : Hid (Given W p c l) := Lib.hid ⟨h.lies, h.le, h.none⟩
  have HW := Lib.hid hw; have HT := Lib.hid hT
  have nl : l.length ≤ 140737488355328 := by omega
  clear h hw hT ho
  go_enter Tryd.func4, Tryd.ntmps4
  go_wp2_with (refine wpList_gbox rfl _ rfl (scs F (.slice q L.length d)) rfl ?_)
  intro g2 w1 l2 h2 hb1
  have S1 : Hid (Sx w1 g2 F (.slice q L.length d)) := Lib.hid h2
  have B1 := Lib.hid hb1
  have SW := Lib.hid (S1.out.whole)
  clear h2 hb1
  go_wp2_with (refine wpList_gload rfl _ rfl g2 0 rfl _ SW.out _ Tryd.underlying26 rfl (sizeStl _ _) ?_)
  refine (smallS_is F q d L w1 (HW.out.below B1.out)).mono ?_
  rintro e w3 ⟨b9, rfl, hb9, hb3⟩
  have S3 := Lib.hid (S1.out.later hb3); have B3 := Lib.hid (thenBelow B1.out hb3)
  clear hb3 S1 SW
  cases b9 with
  | false =>
    clear hb9
    have AW := Lib.hid (awake12 w3 (HT.out.below B3.out))
    go_wp2_with fail
    refine AW.out.mono ?_
    rintro e w99 ⟨rfl, hb99⟩
    have B99 := Lib.hid (thenBelow B3.out hb99)
    clear hb99 AW
    go_wp2
    go_ret
    exact ⟨rfl, B99.out⟩
  | true =>
  have SM : L.length ≤ 120 := hb9 rfl
  clear hb9
  have SW := Lib.hid (S3.out.whole)
  have CN := Lib.hid (docCan_is F q d L w3 (HW.out.below B3.out) (HT.out.below B3.out))
  go_wp2_with (refine wpList_gloadG (by rfl) _ rfl g2 0 rfl _ SW.out _ Tryd.underlying26 rfl (sizeStl _ _) ?_)
  refine CN.out.mono ?_
  rintro e w4 ⟨rfl, hb4⟩
  have S4 := Lib.hid (S3.out.later hb4); have B4 := Lib.hid (thenBelow B3.out hb4)
  clear hb4 S3 SW CN
  cases hcan : canB F L with
  | false =>
    clear hcan
    have AW := Lib.hid (awake12 w4 (HT.out.below B4.out))
    go_wp2_with fail
    refine AW.out.mono ?_
    rintro e w99 ⟨rfl, hb99⟩
    have B99 := Lib.hid (thenBelow B4.out hb99)
    clear hb99 AW
    go_wp2
    go_ret
    exact ⟨rfl, B99.out⟩
  | true =>
  have HC := Lib.hid hcan
  have nS : (stB F L).length ≤ 260000 := by
    have h1 := vbytes_len F; have h2 := enc_len L.length
    have h3 := wts_len L fun y hy => small_of ((can_iff.1 hcan).fine y hy).1
    unfold stB
    simp only [List.length_append]; omega
  have pS : 0 < (stB F L).length := by
    unfold stB
    simp only [List.length_append]
    have : 0 < (Cod.enc L.length).length := by rw [Cod.enc_length]; omega
    omega
  clear hcan
  have SW := Lib.hid (S4.out.whole)
  have PT : Hid (Calls Tryd.prog 14 #[.slice none 0 0, .agg (scs F (.slice q L.length d))] w4 (RetOwn w4 5 (stB F L))) := Lib.hid (docPut_is none 0 [] F q d L w4 ⟨Lies.nil _ _, Nat.le_refl _, fun _ => ⟨rfl, rfl⟩⟩ (HW.out.below B4.out) HC.out (HT.out.below B4.out) (by simp))
  obtain ⟨LS, hLS⟩ : ∃ X, stB F L = X := ⟨_, rfl⟩
  rw [hLS] at PT nS pS
  have HLS := Lib.hid hLS
  clear hLS
  go_wp2_with (refine wpList_gload rfl _ rfl g2 0 rfl _ SW.out _ Tryd.underlying26 rfl (sizeStl _ _) ?_)
  refine PT.out.mono ?_
  intro e w5 hr5
  obtain ⟨v5, rfl, ho5, hb5⟩ := hr5
  have S5 := Lib.hid (S4.out.later hb5); have B5 := Lib.hid (thenBelow B4.out hb5); have O5 := Lib.hid ho5
  have hz5 := hb5.size
  have lt2 := S4.out.lt
  obtain ⟨-, p5, c5, rfl, _, _, _, _⟩ := own_lies ho5
  have g5 := Lib.hid (G.out.below B5.out)
  clear hb5 ho5 S4 SW PT
  go_wp2_with (at_builtin; refine wpList_bytesW isU8 _ rfl _ _ rfl w4.heap.size LS.length LS _ rfl O5.out p l.length c l rfl g5.out.lies rfl (fun e => ⟨by rw [(g5.out.none e).1]; rfl, (g5.out.none e).2⟩) (by omega) hz5 ?_)
  intro v6 w6 ho6 hb6
  obtain ⟨_, p6, c6, rfl, k1, _, k3, k4⟩ := own_lies (l := LS ++ l) ho6
  have GV : Hid (Given w6 p6 c6 (LS ++ l)) := Lib.hid ⟨k3, k1, k4⟩
  have RA := Lib.hid (read_any p6 c6 (LS ++ l) w6 GV.out (by rw [List.length_append]; omega) (by rw [List.length_append]; omega))
  have B6 := Lib.hid (B5.out.trans (hb6.mono B4.out.size))
  have S6 : Hid (Sx w6 g2 F (.slice q L.length d)) := Lib.hid ((hb6.block g2 lt2).trans S5.out)
  clear ho6 hb6 k1 k3 k4 GV O5 g5 S5
  obtain ⟨NN, hNN⟩ : ∃ NN, (LS ++ l).length = NN := ⟨_, rfl⟩
  rw [hNN] at RA ⊢
  clear hNN
  go_wp2_with fail
  refine RA.out.mono ?_
  rintro e w7 ⟨B, rfl, hB, hr7, hb7⟩
  rw [← HLS.out] at hr7
  have S7 := Lib.hid (S6.out.later hb7); have B7 := Lib.hid (thenBelow B6.out hb7)
  have hBW : W.heap.size ≤ B := Nat.le_trans B6.out.size hB
  have n2B : g2 ≠ B := by have := S6.out.lt; omega
  have R7 := Lib.hid hr7
  have RS := Lib.hid (readState_live B F L l w7.drew (hr7.on (to_drew (Below.refl _ _))) HC.out (fun w' hg => HT.out.below ((to_drew B7.out).trans (grown_below hg B7.out.size hBW))) (by omega))
  clear hr7 hb7 RA S6 hB
  go_wp2_with fail
  rename_i K2 hK2
  have m0 : Sx w7.drew g2 F (.slice q L.length d) ∧ Below W.heap.size W w7.drew := ⟨S7.out, to_drew B7.out⟩
  refine rg_calm (by kernel_rfl) rfl (S := fun U => Sx U g2 F (.slice q L.length d) ∧ Below W.heap.size W U) ?_
  have keep : ∀ U U' : World, Below U.heap.size U U' → Sx U g2 F (.slice q L.length d) ∧ Below W.heap.size W U → Sx U' g2 F (.slice q L.length d) ∧ Below W.heap.size W U' := fun U U' hb h => ⟨h.1.later hb, thenBelow h.2 hb⟩
  refine rgd_pure 0 (some 20) rfl rfl (.pointer (some ⟨B, 0, none⟩)) (by kernel_rfl) (by kernel_rfl) (by kernel_rfl) (fun _ _ _ _ h => h) (by kernel_rfl) (fun w => by kernel_rfl) m0 ?_
  refine rgd_pureS 2 (some 22) rfl rfl (.agg (scs F (.slice q L.length d))) (by kernel_rfl) (by kernel_rfl) (by kernel_rfl) (fun _ _ _ _ h => h) (by kernel_rfl) (fun U hU => exec_gload 26 _ rfl g2 0 (by kernel_rfl) _ (Sx.whole hU.1) Tryd.underlying26 rfl (sizeStl _ _)) m0 ?_
  refine rgd_call 1 (some 21) (by kernel_rfl) rfl rfl (by kernel_rfl) 16 (#[.pointer (some ⟨B, 0, none⟩)]) (by kernel_rfl) (RS.out) ?_
  rintro e U1 ⟨p9, c9, rfl, wa9, _, r9, g9⟩
  have s9 : Sx U1 g2 F (.slice q L.length d) := (g9.block g2 m0.1.lt (by simpa using n2B)).trans m0.1
  have m1 : Sx U1 g2 F (.slice q L.length d) ∧ Below W.heap.size W U1 := ⟨s9, m0.2.trans (grown_below g9 m0.2.size hBW)⟩
  refine ⟨_, rfl, m1, ?_⟩
  refine rgd_call 3 (some 23) (by kernel_rfl) rfl rfl (by kernel_rfl) 15 (#[.agg (scs F (.slice p9 L.length c9)), .agg (scs F (.slice q L.length d))]) (by kernel_rfl) (docSame_is F F (veq_self F) p9 q c9 d L _ wa9 (HW.out.below m1.2) (by omega)) ?_
  rintro e U2 ⟨rfl, b2⟩
  have m2 := keep _ _ b2 m1
  have r2 := r9.on b2
  refine ⟨_, rfl, m2, ?_⟩
  refine rgd_pure 4 (some 24) rfl rfl (.bool true) (by kernel_rfl) (by kernel_rfl) (by kernel_rfl) (fun _ _ _ _ h => h) (by kernel_rfl) (fun w => by kernel_rfl) m2 ?_
  refine rgd_pure 5 (some 25) rfl rfl (.pointer (some ⟨B, 0, none⟩)) (by kernel_rfl) (by kernel_rfl) (by kernel_rfl) (fun _ _ _ _ h => h) (by kernel_rfl) (fun w => by kernel_rfl) m2 ?_
  refine rgd_call 6 (some 26) (by kernel_rfl) rfl rfl (by kernel_rfl) 17 (#[.pointer (some ⟨B, 0, none⟩)]) (by kernel_rfl) (err_live B l _ r2) ?_
  rintro e U3 ⟨rfl, rfl⟩
  refine ⟨_, rfl, m2, ?_⟩
  refine rgd_pure 7 (some 27) rfl rfl (.bool true) (by kernel_rfl) (by kernel_rfl) (by kernel_rfl) (fun _ _ _ _ h => h) (by kernel_rfl) (fun w => by kernel_rfl) m2 ?_
  refine rgd_pure 8 (some 28) rfl rfl (.bool true) (by kernel_rfl) (by kernel_rfl) (by kernel_rfl) (fun _ _ _ _ h => h) (by kernel_rfl) (fun w => by kernel_rfl) m2 ?_
  refine rgd_pure 9 (some 29) rfl rfl (.bool true) (by kernel_rfl) (by kernel_rfl) (by kernel_rfl) (fun _ _ _ _ h => h) (by kernel_rfl) (fun w => by kernel_rfl) m2 ?_
  refine rgd_pure 10 (some 30) rfl rfl (.pointer (some ⟨B, 0, none⟩)) (by kernel_rfl) (by kernel_rfl) (by kernel_rfl) (fun _ _ _ _ h => h) (by kernel_rfl) (fun w => by kernel_rfl) m2 ?_
  refine rgd_pure 12 (some 32) rfl rfl (.slice p l.length c) (by kernel_rfl) (by kernel_rfl) (by kernel_rfl) (fun _ _ _ _ h => h) (by kernel_rfl) (fun w => by kernel_rfl) m2 ?_
  refine rgd_pure 13 (some 33) rfl rfl (.int .i64 (l.length : Int)) (by kernel_rfl) (by kernel_rfl) (by kernel_rfl) (fun _ _ _ _ h => h) (by kernel_rfl) (fun w => by kernel_rfl) m2 ?_
  refine rgd_call 11 (some 31) (by kernel_rfl) rfl rfl (by kernel_rfl) 18 (#[.pointer (some ⟨B, 0, none⟩)]) (by kernel_rfl) (left_live B l _ r2) ?_
  rintro e U4 ⟨rfl, rfl⟩
  refine ⟨_, rfl, m2, ?_⟩
  refine rgd_pure 14 (some 34) rfl rfl (.bool true) (by kernel_rfl) (by kernel_rfl) (by kernel_rfl) (fun _ _ _ _ h => h) (by kernel_rfl) (exec_eqlI _ _ _ _ rfl (l.length : Int) (by kernel_rfl) (by kernel_rfl)) m2 ?_
  refine rgd_pure 15 (some 35) rfl rfl (.bool true) (by kernel_rfl) (by kernel_rfl) (by kernel_rfl) (fun _ _ _ _ h => h) (by kernel_rfl) (fun w => by kernel_rfl) m2 ?_
  refine rgd_pure 16 (some 36) rfl rfl (.bool true) (by kernel_rfl) (by kernel_rfl) (by kernel_rfl) (fun _ _ _ _ h => h) (by kernel_rfl) (fun w => by kernel_rfl) m2 ?_
  refine rgd_call 17 (some 37) (by kernel_rfl) rfl rfl (by kernel_rfl) 8 (#[]) (by kernel_rfl) (awake12 _ (HT.out.below m2.2)) ?_
  rintro e U5 ⟨rfl, b5⟩
  have m5 := keep _ _ b5 m2
  refine ⟨_, rfl, m5, ?_⟩
  refine rgd_pure 18 (some 38) rfl rfl (.bool true) (by kernel_rfl) (by kernel_rfl) (by kernel_rfl) (fun _ _ _ _ h => h) (by kernel_rfl) (fun w => by kernel_rfl) m5 ?_
  refine rgd_pure 19 (some 4) rfl rfl (.bool true) (by kernel_rfl) (by kernel_rfl) (by kernel_rfl) (fun _ _ _ _ h => h) (by kernel_rfl) (fun w => by kernel_rfl) m5 ?_
  have BU := Lib.hid m5.2
  have KE : K2 { tmps := #[.agg (scs F (.slice q L.length d)), .slice p l.length c, .pointer (some ⟨g2, 0, none⟩), undef, .bool true, .pointer (some ⟨B, 0, none⟩), .agg (scs F (.slice q L.length d)), .bool true, .bool false, .bool false, .agg (scs F (.slice q L.length d)), .bool true, .bool false, .bool false, undef, .agg (scs F (.slice q L.length d)), .slice p5 LS.length c5, .slice p l.length c, .slice p6 NN c6, .pointer (some ⟨B, 0, none⟩), .pointer (some ⟨B, 0, none⟩), .agg (scs F (.slice p9 L.length c9)), .agg (scs F (.slice q L.length d)), .bool true, .bool true, .pointer (some ⟨B, 0, none⟩), .int .i64 0, .bool true, .bool true, .bool true, .pointer (some ⟨B, 0, none⟩), .int .i64 (l.length : Int), .slice p l.length c, .int .i64 (l.length : Int), .bool true, .bool true, .bool true, .bool true, .bool true], defers := [] } U5 := by
    refine hK2 _ _ ?_
    clear hK2 keep m0 m1 m2 m5
    go_wp2
    go_ret
    exact ⟨rfl, BU.out⟩
  exact wpAnyH_done (by kernel_rfl) (Eq.mp (by kernel_rfl) KE) _
end Go.Proofs.YtjmglgcifekhgaaDoor
