/- the document's past: Add. -/
import Derived.Test.YtbdedemckmoidaaPastRef
namespace Go.Proofs.Ytbdedemckmoidaa
open Go Go.RowKit
set_option linter.unusedVariables false

set_option maxHeartbeats 20000000 in
set_option maxRecDepth 1000000 in
theorem refAdd_is (p : Option Addr) (c : Nat) (L : List EvP) (f : Nat → Int) (x : EvP) (w : World) (h : EvsAt w p L) (ho : p = none → c = 0) (hn : L.length ≤ 400) :
    Calls Try.prog 11 #[.agg (pcs (.slice p L.length c) f), .agg x.cells.toArray] w (PastS w (L ++ [x]) (behindOf (evs L) [x.e]) f) := by
  have EV := Lib.hid h; have HO := Lib.hid ho
  clear h ho
  have SZ := Lib.hid (sizeEv x)
  go_enter Try.func11, Try.ntmps11
  go_wp2_with (refine wpList_gbox rfl _ rfl (pcs (.slice p L.length c) f) rfl ?_)
  intro g2 w1 lg2 hg2 hb1
  have B1 := Lib.hid hb1
  have P21 : Hid (Px w1 g2 (.slice p L.length c) f) := Lib.hid hg2
  clear hg2 hb1
  go_wp2_with (refine wpList_gbox rfl _ rfl x.cells.toArray rfl ?_)
  intro g3 w2 lg3 hg3 hb2
  have B2 := Lib.hid (thenBelow B1.out hb2)
  have P22 := Lib.hid (P21.out.later hb2)
  have E2 := Lib.hid hg3
  clear hg3 hb2 P21
  go_wp2_with (refine wpList_galloc _ zeroP rfl rfl ?_)
  intro g4 w3 lg4 hg4 hb3
  have B3 := Lib.hid (thenBelow B2.out hb3)
  have P23 := Lib.hid (P22.out.later hb3)
  have E3 := Lib.hid ((hb3.block g3 (Array.getElem?_eq_some_iff.1 E2.out).1).trans E2.out)
  have P43 : Hid (Px w3 g4 (.slice none 0 0) fun _ => 0) := Lib.hid hg4
  have hw4 : w.heap.size ≤ g4 := Nat.le_trans B2.out.size lg4
  have h43 : g4 < w3.heap.size := P43.out.lt
  have h34 : g3 < g4 := Nat.lt_of_lt_of_le (Array.getElem?_eq_some_iff.1 E2.out).1 lg4
  have h24 : g2 < g4 := Nat.lt_of_lt_of_le P22.out.lt lg4
  clear hg4 hb3 P22 E2
  have BH := Lib.hid (fun (V : World) (hV : Below w3.heap.size w3 V) => refPut1_is p c L x V (EV.out.below (thenBelow B3.out hV)) (by omega) HO.out)
  obtain ⟨src, hsrc⟩ : ∃ src, L ++ [x] = src := ⟨_, rfl⟩
  have HSRC := Lib.hid hsrc
  rw [hsrc] at BH
  clear hsrc
  obtain ⟨be, hbe⟩ : ∃ be, behindOf (evs L) [x.e] = be := ⟨_, rfl⟩
  rw [hbe] at BH
  have HBE := Lib.hid hbe
  clear hbe
  have SV : Hid (∀ V, Below w3.heap.size w3 V → Px V g2 (.slice p L.length c) f) := Lib.hid fun V hV => P23.out.later hV
  have SE : Hid (∀ V, Below w3.heap.size w3 V → V.rangeAt g3 0 x.cells) := Lib.hid fun V hV => by
    have h1 := (hV.block g3 (Array.getElem?_eq_some_iff.1 E3.out).1).trans E3.out
    simpa using range_of_block h1
  have S4 : Hid (∀ V, Below w3.heap.size w3 V → Px V g4 (.slice none 0 0) fun _ => 0) := Lib.hid fun V hV => P43.out.later hV
  obtain ⟨⟨r, n, t, kd, dc, fl, tx, gn⟩, gp, gc⟩ := x
  simp only [EvP.cells] at SZ SE E3 BH HBE HSRC ⊢
  go_wp2_with fail
  rename_i K hK
  have KK : ∀ (q : Option Addr) (d : Nat) (M : List EvP) (V : World), Px V g4 (.slice q M.length d) f → V.ownsRow w3.heap.size 31 8 (.slice q M.length d) M.length (ecl M) → (∀ y ∈ M, y ∈ src) → evs M = be → Below w.heap.size w V → K { tmps := #[.agg (pcs (.slice p L.length c) f), .agg #[.int .i64 r, .int .i64 n, .int .i64 t, .int .i64 kd, .string dc, .int .i64 fl, .string tx, .slice gp gn.length gc], .pointer (some ⟨g2, 0, none⟩), .pointer (some ⟨g3, 0, none⟩), .pointer (some ⟨g4, 0, none⟩), .pointer (some ⟨g2, 0, none⟩), .slice p L.length c, .agg #[.int .i64 r, .int .i64 n, .int .i64 t, .int .i64 kd, .string dc, .int .i64 fl, .string tx, .slice gp gn.length gc], .slice q M.length d, .pointer (some ⟨g2, 1, none⟩), .agg (vf f), .agg (pcs (.slice q M.length d) f)], defers := [] } V := by
    intro q d M V hpx hM hok hev hbV
    refine hK _ _ ?_
    have OM := Lib.hid hM; have OK := Lib.hid hok; have HE := Lib.hid hev; have BV := Lib.hid hbV; have PV := Lib.hid hpx
    clear hK hM hok hev hbV hpx
    go_wp2
    exact past_ret rfl rfl rfl PV.out ⟨_, M, rfl, own_base OM.out B3.out.size, fun y hy => (by have := OK.out y hy; rw [← HSRC.out] at this; exact this), by rw [HE.out, ← HBE.out], BV.out⟩
  have m00 : Below w3.heap.size w3 w3.drew := to_drew (Below.refl _ _)
  have m0 := And.intro (SV.out _ m00) (SE.out _ m00)
  refine rg_calm (by kernel_rfl) rfl (S := fun V => Px V g2 (.slice p L.length c) f ∧ V.rangeAt g3 0 [.int .i64 r, .int .i64 n, .int .i64 t, .int .i64 kd, .string dc, .int .i64 fl, .string tx, .slice gp gn.length gc]) ?_
  refine rgd_pure 0 (some 5) rfl rfl (.pointer (some ⟨g2, 0, none⟩)) (by kernel_rfl) (by kernel_rfl) (by kernel_rfl) (fun _ _ _ _ h => h) (by kernel_rfl) (fun w => by kernel_rfl) m0 ?_
  refine rgd_load 1 (some 6) rfl rfl (by kernel_rfl) (by kernel_rfl) (by kernel_rfl) (fun _ _ _ _ h => h) (by kernel_rfl) _ _ rfl Try.underlying22 rfl ⟨g2, 0, none⟩ (.slice p L.length c) (by kernel_rfl) (fun U hU => hU.1.slot) m0 ?_
  refine rgd_pureS 2 (some 7) rfl rfl (.agg #[.int .i64 r, .int .i64 n, .int .i64 t, .int .i64 kd, .string dc, .int .i64 fl, .string tx, .slice gp gn.length gc]) (by kernel_rfl) (by kernel_rfl) (by kernel_rfl) (fun _ _ _ _ h => h) (by kernel_rfl) (fun U hU => exec_gload 31 _ rfl g3 0 (by kernel_rfl) _ hU.2 Try.underlying31 rfl SZ.out) m0 ?_
  refine rgd_pure 4 (some 9) rfl rfl (.pointer (some ⟨g2, 1, none⟩)) (by kernel_rfl) (by kernel_rfl) (by kernel_rfl) (fun _ _ _ _ h => h) (by kernel_rfl) (fun w => by kernel_rfl) m0 ?_
  refine rgd_pureS 5 (some 10) rfl rfl (.agg (vf f)) (by kernel_rfl) (by kernel_rfl) (by kernel_rfl) (fun _ _ _ _ h => h) (by kernel_rfl) (fun U hU => exec_gload 24 _ rfl g2 1 (by kernel_rfl) _ hU.1.floor Try.underlying24 rfl (sizeVcl f)) m0 ?_
  refine rgd_call 3 (some 8) (by kernel_rfl) rfl rfl (by kernel_rfl) 29 (#[.slice p L.length c, .agg #[.int .i64 r, .int .i64 n, .int .i64 t, .int .i64 kd, .string dc, .int .i64 fl, .string tx, .slice gp gn.length gc]]) (by kernel_rfl) (BH.out _ m00) ?_
  rintro e w5 ⟨v, M, rfl, hM, hok, hev, hb5⟩
  obtain ⟨q, d, rfl⟩ := own_slice hM
  have b5 : Below w3.heap.size w3 w5 := thenBelow m00 hb5
  refine ⟨_, rfl, ⟨SV.out _ b5, SE.out _ b5⟩, ?_⟩
  refine rgd_run 6 (some 11) (by kernel_rfl) rfl rfl (by kernel_rfl) (.agg (pcs (.slice q M.length d) f)) w5 (exec_pbuild _ _ rfl _ (Eq.mp (by kernel_rfl) (builtP2 q M.length d f w5))) ⟨SV.out _ b5, SE.out _ b5⟩ ?_
  have p6 := (S4.out _ b5).setWhole (.slice q M.length d) f
  have g6 := grown_setCells g4 (pcs (.slice q M.length d) f).toList w5 0
  have o6 := own_type hM (S4.out _ b5) (by decide) g6
  have o6' := own_base (B' := w3.heap.size) o6 (Nat.le_refl _)
  have b6 := (thenBelow B3.out b5).trans (grown_below g6 (thenBelow B3.out b5).size hw4)
  refine rgd_do 7 none (by kernel_rfl) rfl rfl (by kernel_rfl) (w5.setCells g4 0 (pcs (.slice q M.length d) f).toList) (exec_pstore _ _ rfl g4 (by kernel_rfl) (.slice q M.length d) f (by kernel_rfl) ⟨_, _, _, rfl⟩ (S4.out _ b5)) ⟨(SV.out _ b5).kept g6 (by simp; omega), ?_⟩ ?_
  · have h1 := (g6.block g3 (Nat.lt_of_lt_of_le (Array.getElem?_eq_some_iff.1 E3.out).1 b5.size) (by simp; omega)).trans ((b5.block g3 (Array.getElem?_eq_some_iff.1 E3.out).1).trans E3.out)
    simpa using range_of_block h1
  · exact wpAnyH_done (by kernel_rfl) (Eq.mp (by kernel_rfl) (KK q d M _ p6 o6' hok hev b6)) _
end Go.Proofs.Ytbdedemckmoidaa
