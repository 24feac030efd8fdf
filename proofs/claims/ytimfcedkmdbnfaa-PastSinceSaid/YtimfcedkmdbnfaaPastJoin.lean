/- past: Join of any two pasts. -/
import Derived.Test.YtimfcedkmdbnfaaPastSameP
import Derived.Test.YtimfcedkmdbnfaaPastAdd2
namespace Go.Proofs.Ytimfcedkmdbnfaa
open Go Go.RowKit
set_option linter.unusedVariables false

set_option maxHeartbeats 20000000 in
set_option maxRecDepth 1000000 in
theorem join_is (p : Option Addr) (c : Nat) (L : List EvP) (f : Nat → Int) (q : Option Addr) (d : Nat) (M : List EvP) (g : Nat → Int) (w : World) (h : EvsAt w p L) (ho : ∀ a, p = some a → ∃ b o, a = ⟨b, o, none⟩) (hn : L.length ≤ 400) (hg : ∀ x ∈ L, x.e.gone.length ≤ 1000)
    (h2 : EvsAt w q M) (ho2 : ∀ a, q = some a → ∃ b o, a = ⟨b, o, none⟩) (hn2 : M.length ≤ 400) (hg2 : ∀ x ∈ M, x.e.gone.length ≤ 1000) :
    Calls Try.prog 10 #[.agg (pcs (.slice p L.length c) f), .agg (pcs (.slice q M.length d) g)] w (PastR w (behindOf (evs L) (evs M)) (fun i => max (f i) (g i))) := by
  have EV := Lib.hid h; have EW := Lib.hid h2
  have BH := Lib.hid (fun (V : World) (hV : Below w.heap.size w V) => behind_is p c L q d M V (h.below hV) ho hn hg (h2.below hV) ho2 hn2 hg2)
  clear h ho hg h2 ho2 hg2
  have JN := Lib.hid (fun (V : World) => ownJoin_is f g V)
  go_enter Try.func10, Try.ntmps10
  go_wp2_with (refine wpList_gbox rfl _ rfl (pcs (.slice p L.length c) f) rfl ?_)
  intro g2 w1 lg2 hg2 hb1
  have B1 := Lib.hid hb1
  have P1 : Hid (Px w1 g2 (.slice p L.length c) f) := Lib.hid hg2
  clear hg2 hb1
  go_wp2_with (refine wpList_gbox rfl _ rfl (pcs (.slice q M.length d) g) rfl ?_)
  intro g3 w2 lg3 hg3 hb2
  have B2 := Lib.hid (thenBelow B1.out hb2)
  have P2 := Lib.hid (P1.out.later hb2)
  have Q2 : Hid (Px w2 g3 (.slice q M.length d) g) := Lib.hid hg3
  clear hg3 hb2 P1
  go_wp2_with (refine wpList_galloc _ zeroP rfl rfl ?_)
  intro g4 w3 lg4 hg4 hb3
  have B3 := Lib.hid (thenBelow B2.out hb3)
  have P3 := Lib.hid (P2.out.later hb3); have Q3 := Lib.hid (Q2.out.later hb3)
  have P43 : Hid (Px w3 g4 (.slice none 0 0) fun _ => 0) := Lib.hid hg4
  have hw4 : w.heap.size ≤ g4 := Nat.le_trans B2.out.size lg4
  have h34 : g3 < g4 := Nat.lt_of_lt_of_le Q2.out.lt lg4
  have h24 : g2 < g4 := Nat.lt_of_lt_of_le P2.out.lt lg4
  clear hg4 hb3 P2 Q2
  obtain ⟨be, hbe⟩ : ∃ be, behindOf (evs L) (evs M) = be := ⟨_, rfl⟩
  rw [hbe] at BH
  have HBE := Lib.hid hbe
  clear hbe
  have SV : Hid (∀ V, Below w3.heap.size w3 V → Px V g2 (.slice p L.length c) f ∧ Px V g3 (.slice q M.length d) g) := Lib.hid fun V hV => ⟨P3.out.later hV, Q3.out.later hV⟩
  have S4 : Hid (∀ V, Below w3.heap.size w3 V → Px V g4 (.slice none 0 0) fun _ => 0) := Lib.hid fun V hV => P43.out.later hV
  go_wp2_with fail
  rename_i K hK
  have KK : ∀ (q1 : Option Addr) (d1 : Nat) (N : List EvP) (V : World), Px V g4 (.slice q1 N.length d1) (fun i => max (f i) (g i)) → OwnE V w3.heap.size (.slice q1 N.length d1) N → evs N = be → Below w.heap.size w V → K { tmps := #[.agg (pcs (.slice p L.length c) f), .agg (pcs (.slice q M.length d) g), .pointer (some ⟨g2, 0, none⟩), .pointer (some ⟨g3, 0, none⟩), .pointer (some ⟨g4, 0, none⟩), .pointer (some ⟨g2, 0, none⟩), .slice p L.length c, .pointer (some ⟨g3, 0, none⟩), .slice q M.length d, .slice q1 N.length d1, .pointer (some ⟨g2, 1, none⟩), .agg (vf f), .pointer (some ⟨g3, 1, none⟩), .agg (vf g), .agg (vf (fun i => max (f i) (g i))), .agg (pcs (.slice q1 N.length d1) (fun i => max (f i) (g i)))], defers := [] } V := by
    intro q1 d1 N V hpx hM hev hbV
    refine hK _ _ ?_
    have OM := Lib.hid hM; have HE := Lib.hid hev; have BV := Lib.hid hbV; have PV := Lib.hid hpx
    clear hK hM hev hbV hpx
    go_wp2
    exact past_ret rfl rfl rfl PV.out ⟨_, N, rfl, OM.out.base B3.out.size, by rw [HE.out, ← HBE.out], BV.out⟩
  have m00 : Below w3.heap.size w3 w3.drew := to_drew (Below.refl _ _)
  have m0 := SV.out _ m00
  refine rg_calm (by kernel_rfl) rfl (S := fun V => Px V g2 (.slice p L.length c) f ∧ Px V g3 (.slice q M.length d) g) ?_
  refine rgd_pure 0 (some 5) rfl rfl (.pointer (some ⟨g2, 0, none⟩)) (by kernel_rfl) (by kernel_rfl) (by kernel_rfl) (fun _ _ _ _ h => h) (by kernel_rfl) (fun w => by kernel_rfl) m0 ?_
  refine rgd_load 1 (some 6) rfl rfl (by kernel_rfl) (by kernel_rfl) (by kernel_rfl) (fun _ _ _ _ h => h) (by kernel_rfl) _ _ rfl Try.underlying22 rfl ⟨g2, 0, none⟩ (.slice p L.length c) (by kernel_rfl) (fun U hU => hU.1.slot) m0 ?_
  refine rgd_pure 2 (some 7) rfl rfl (.pointer (some ⟨g3, 0, none⟩)) (by kernel_rfl) (by kernel_rfl) (by kernel_rfl) (fun _ _ _ _ h => h) (by kernel_rfl) (fun w => by kernel_rfl) m0 ?_
  refine rgd_load 3 (some 8) rfl rfl (by kernel_rfl) (by kernel_rfl) (by kernel_rfl) (fun _ _ _ _ h => h) (by kernel_rfl) _ _ rfl Try.underlying22 rfl ⟨g3, 0, none⟩ (.slice q M.length d) (by kernel_rfl) (fun U hU => hU.2.slot) m0 ?_
  refine rgd_pure 5 (some 10) rfl rfl (.pointer (some ⟨g2, 1, none⟩)) (by kernel_rfl) (by kernel_rfl) (by kernel_rfl) (fun _ _ _ _ h => h) (by kernel_rfl) (fun w => by kernel_rfl) m0 ?_
  refine rgd_pureS 6 (some 11) rfl rfl (.agg (vf f)) (by kernel_rfl) (by kernel_rfl) (by kernel_rfl) (fun _ _ _ _ h => h) (by kernel_rfl) (fun U hU => exec_gload 24 _ rfl g2 1 (by kernel_rfl) _ hU.1.floor Try.underlying24 rfl (sizeVcl f)) m0 ?_
  refine rgd_pure 7 (some 12) rfl rfl (.pointer (some ⟨g3, 1, none⟩)) (by kernel_rfl) (by kernel_rfl) (by kernel_rfl) (fun _ _ _ _ h => h) (by kernel_rfl) (fun w => by kernel_rfl) m0 ?_
  refine rgd_pureS 8 (some 13) rfl rfl (.agg (vf g)) (by kernel_rfl) (by kernel_rfl) (by kernel_rfl) (fun _ _ _ _ h => h) (by kernel_rfl) (fun U hU => exec_gload 24 _ rfl g3 1 (by kernel_rfl) _ hU.2.floor Try.underlying24 rfl (sizeVcl g)) m0 ?_
  refine rgd_call 4 (some 9) (by kernel_rfl) rfl rfl (by kernel_rfl) 23 (#[.slice p L.length c, .slice q M.length d]) (by kernel_rfl) (BH.out _ (thenBelow B3.out m00)) ?_
  rintro e w4 ⟨v, N, rfl, hM, hev, hb4⟩
  obtain ⟨q1, d1, rfl, _, _, _⟩ := hM.at
  have b4 : Below w3.heap.size w3 w4 := thenBelow m00 hb4
  refine ⟨_, rfl, SV.out _ b4, ?_⟩
  refine rgd_call 9 (some 14) (by kernel_rfl) rfl rfl (by kernel_rfl) 24 (#[.agg (vf f), .agg (vf g)]) (by kernel_rfl) (JN.out _) ?_
  rintro e w5 ⟨rfl, hb5⟩
  have b5 : Below w3.heap.size w3 w5 := thenBelow b4 hb5
  refine ⟨_, rfl, SV.out _ b5, ?_⟩
  have hM := hM.later hb5
  obtain ⟨B0, hB00⟩ : ∃ B0, w3.drew.heap.size = B0 := ⟨_, rfl⟩
  rw [hB00] at hM
  have hB0 : w3.heap.size ≤ B0 := by rw [← hB00]; exact m00.size
  refine rgd_run 10 (some 15) (by kernel_rfl) rfl rfl (by kernel_rfl) (.agg (pcs (.slice q1 N.length d1) (fun i => max (f i) (g i)))) w5 (exec_pbuild _ _ rfl _ (Eq.mp (by kernel_rfl) (builtP2 q1 N.length d1 (fun i => max (f i) (g i)) w5))) (SV.out _ b5) ?_
  have p6 := (S4.out _ b5).setWhole (.slice q1 N.length d1) (fun i => max (f i) (g i))
  have g6 := grown_setCells g4 (pcs (.slice q1 N.length d1) (fun i => max (f i) (g i))).toList w5 0
  have o6 : OwnE (w5.setCells g4 0 (pcs (.slice q1 N.length d1) (fun i => max (f i) (g i))).toList) w3.heap.size (.slice q1 N.length d1) N := OwnE.base (B := B0) ⟨own_type hM.row (S4.out _ b5) (by decide) g6, fun y hy => own_type (hM.gone y hy) (S4.out _ b5) (by decide) g6⟩ hB0
  have b6 := (thenBelow B3.out b5).trans (grown_below g6 (thenBelow B3.out b5).size hw4)
  refine rgd_do 11 none (by kernel_rfl) rfl rfl (by kernel_rfl) (w5.setCells g4 0 (pcs (.slice q1 N.length d1) (fun i => max (f i) (g i))).toList) (exec_pstore _ _ rfl g4 (by kernel_rfl) (.slice q1 N.length d1) (fun i => max (f i) (g i)) (by kernel_rfl) ⟨_, _, _, rfl⟩ (S4.out _ b5)) ⟨(SV.out _ b5).1.kept g6 (by simp; omega), (SV.out _ b5).2.kept g6 (by simp; omega)⟩ ?_
  exact wpAnyH_done (by kernel_rfl) (Eq.mp (by kernel_rfl) (KK q1 d1 N _ p6 o6 hev b6)) _
end Go.Proofs.Ytimfcedkmdbnfaa
