/- past: Trim and Collect of any past. -/
import Derived.Test.YtffjbgbcaijlnaaDoorDtEq
namespace Go.Proofs.YtffjbgbcaijlnaaDoor
open Go Go.RowKit
set_option linter.unusedVariables false
set_option maxRecDepth 1000000

theorem from_drew {B : Nat} {w w' : World} (h : Below B w.drew w') : Below B w w' := ⟨h.os, h.tape, h.output, h.size, h.block⟩
/-- a past that is handed back: these events, new, and this floor -/
def PastR (w : World) (kept : List Ev) (floor : Nat → Int) (e : Ending) (w' : World) : Prop := ∃ v K, e = .returned (.agg (pcs v floor)) ∧ OwnE w' w.heap.size v K ∧ evs K = kept ∧ Below w.heap.size w w'
set_option maxHeartbeats 20000000 in
set_option maxRecDepth 1000000 in
theorem trim_is (p : Option Addr) (c : Nat) (L : List EvP) (f : Nat → Int) (most : Int) (w : World) (h : EvsAt w p L) (ho : ∀ a, p = some a → ∃ b o, a = ⟨b, o, none⟩) (hn : L.length ≤ 1000) (hg : ∀ x ∈ L, x.e.gone.length ≤ 1000) (hm : -9223372036854775808 ≤ most ∧ most ≤ 9223372036854775807) :
    Calls Tryd.prog 48 #[.agg (pcs (.slice p L.length c) f), .int .i64 most] w (PastR w (trimOf (evs L) f most).2.1 (trimOf (evs L) f most).2.2) := by
  have EV := Lib.hid h; have HG := Lib.hid hg; have HO := Lib.hid ho
  have hD : dropsOf (evs L) ≤ L.length := by
    have h1 := drops_rest (evs L)
    have h2 : (evs L).length = L.length := by simp [evs]
    omega
  have TO : Hid (trimOf (evs L) f most = wRun trimGoes trimNext ((L.length : Int) - dropsOf (evs L) - max most 0) f (evs L)) := Lib.hid (by
    unfold trimOf
    rw [show (evs L).length = L.length by simp [evs]])
  have DR := Lib.hid (fun W (hW : EvsAt W p L) => drops_is p c L f W hW hn)
  obtain ⟨D, hDD⟩ : ∃ D, dropsOf (evs L) = D := ⟨_, rfl⟩
  rw [hDD] at TO DR hD
  clear hDD
  obtain ⟨X, hX⟩ : ∃ X, max most 0 = X := ⟨_, rfl⟩
  obtain ⟨R, hR⟩ : ∃ R, (L.length : Int) - D - X = R := ⟨_, rfl⟩
  rw [hX, hR] at TO
  have hR1 : -9223372036854775808 ≤ R ∧ R ≤ 9223372036854775807 := by omega
  have w1' : IntKind.i64.wrap ((L.length : Int) - D) = (L.length : Int) - D := by rw [IntKind.wrap_i64]; omega
  have w2' : IntKind.i64.wrap ((L.length : Int) - D - X) = R := by rw [hR, IntKind.wrap_i64]; omega
  have HX := Lib.hid hX; have W1' := Lib.hid w1'; have W2' := Lib.hid w2'
  clear h hg ho hX hR w1' w2'
  go_enter Tryd.func48, Tryd.ntmps48
  go_wp2_with (refine wpList_gbox rfl _ rfl (pcs (.slice p L.length c) f) rfl ?_)
  intro g2 w1 lg2 hg2 hb1
  have B1 := Lib.hid hb1
  have P2 : Hid (Px w1 g2 (.slice p L.length c) f) := Lib.hid hg2
  clear hg2 hb1
  go_wp2_with (refine wpList_galloc _ zeroP rfl rfl ?_)
  intro g4 w2 lg4 hg4 hb2
  have B2 := Lib.hid (thenBelow B1.out hb2)
  have P22 := Lib.hid (P2.out.later hb2)
  have P4 : Hid (Px w2 g4 (.slice none 0 0) fun _ => 0) := Lib.hid hg4
  clear hg4 hb2 P2
  go_wp2_with fail
  rename_i K hK
  have KK : ∀ (A : Nat) (V : World), InInt A R V → w2.heap.size ≤ A → Below w2.heap.size w2 V → K { tmps := #[.agg (pcs (.slice p L.length c) f), .int .i64 most, .pointer (some ⟨g2, 0, none⟩), undef, .pointer (some ⟨g4, 0, none⟩), .pointer (some ⟨A, 0, none⟩), .pointer (some ⟨g2, 0, none⟩), .slice p L.length c, .int .i64 (L.length : Int), .agg (pcs (.slice p L.length c) f), .int .i64 (D : Int), .int .i64 ((L.length : Int) - D), .int .i64 most, .int .i64 X, .int .i64 R, undef, undef, undef], defers := [] } V := by
    intro A V hI hA hbV
    refine hK _ _ ?_
    have B3 := Lib.hid (thenBelow B2.out hbV); have P23 := Lib.hid (P22.out.later hbV); have P43 := Lib.hid (P4.out.later hbV)
    have WI := Lib.hid (without_is trimGoes trimNext A (InInt A) _ _ (trim_goes A) p c L f R V (EV.out.below B3.out) HO.out hn HG.out hI)
    have hwA : w.heap.size ≤ A := Nat.le_trans B2.out.size hA
    have h4A : g4 < A := Nat.lt_of_lt_of_le P4.out.lt hA
    have h4w : w.heap.size ≤ g4 := Nat.le_trans B1.out.size lg4
    clear hK hI hbV
    go_wp2_with (refine wpList_gload rfl _ rfl g2 0 rfl (pcs (.slice p L.length c) f).toList P23.out.whole _ Tryd.underlying76 rfl (sizePl _ f) ?_)
    refine WI.out.mono ?_
    rintro e w4 ⟨v, M, rfl, hM, hev, _, hgr⟩
    rw [← TO.out] at hev ⊢
    have B4 := Lib.hid (B3.out.trans ⟨hgr.os, hgr.tape, hgr.output, hgr.size, fun k hk => hgr.block k (Nat.lt_of_lt_of_le hk B3.out.size) (by simp; omega)⟩)
    have P44 := Lib.hid (P43.out.kept hgr (by simp; omega))
    have OM := Lib.hid hM; have HE := Lib.hid hev
    have hz3 : w.heap.size ≤ V.heap.size := B3.out.size
    have h4V : g4 < V.heap.size := P43.out.lt
    have hvs : ∃ p n c, v = .slice p n c := by
      obtain ⟨p, c, h⟩ := own_slice hM.row
      exact ⟨p, _, c, h⟩
    clear WI hM hev hgr
    obtain ⟨fz, hfz⟩ : ∃ fz, (trimOf (evs L) f most).2.2 = fz := ⟨_, rfl⟩
    have HFZ := Lib.hid hfz
    rw [hfz]
    clear hfz
    go_wp2_with (refine wpList_gstore rfl _ _ rfl g4 rfl (pcs v fz) rfl _ _ P44.out (sizeP _ _) (by rw [pcs_size, pcs_size]) (pcs_oneV fz hvs) ?_)
    intro w9 p9 g9
    go_wp2
    refine past_ret rfl rfl rfl p9 ⟨v, M, by rw [HFZ.out], ⟨own_base (own_grown OM.out.row g9 h4V) hz3, fun x hx => own_base (own_grown (OM.out.gone x hx) g9 h4V) hz3⟩, HE.out, B4.out.trans (grown_below g9 B4.out.size h4w)⟩
  have hS0 : Px w2.drew g2 (.slice p L.length c) f := P22.out
  refine rg_calm (by kernel_rfl) rfl (S := fun V => Px V g2 (.slice p L.length c) f) ?_
  refine rgd_pure 0 (some 6) rfl rfl (.pointer (some ⟨g2, 0, none⟩)) (by kernel_rfl) (by kernel_rfl) (by kernel_rfl) (fun _ _ _ _ h => h) (by kernel_rfl) (fun w => by kernel_rfl) hS0 ?_
  refine rgd_load 1 (some 7) rfl rfl (by kernel_rfl) (by kernel_rfl) (by kernel_rfl) (fun _ _ _ _ h => h) (by kernel_rfl) _ _ rfl Tryd.underlying28 rfl ⟨g2, 0, none⟩ (.slice p L.length c) (by kernel_rfl) (fun V h => h.slot) hS0 ?_
  refine rgd_pure 2 (some 8) rfl rfl (.int .i64 (L.length : Int)) (by kernel_rfl) (by kernel_rfl) (by kernel_rfl) (fun _ _ _ _ h => h) (by kernel_rfl) (fun w => by kernel_rfl) hS0 ?_
  refine rgd_pureS 3 (some 9) rfl rfl (.agg (pcs (.slice p L.length c) f)) (by kernel_rfl) (by kernel_rfl) (by kernel_rfl) (fun _ _ _ _ h => h) (by kernel_rfl) (fun V hV => exec_gload 76 _ rfl g2 0 (by kernel_rfl) (pcs (.slice p L.length c) f).toList hV.whole Tryd.underlying76 rfl (sizePl _ f)) hS0 ?_
  refine rgd_pure 6 (some 12) rfl rfl (.int .i64 most) (by kernel_rfl) (by kernel_rfl) (by kernel_rfl) (fun _ _ _ _ h => h) (by kernel_rfl) (fun w => by kernel_rfl) hS0 ?_
  refine rgd_pure 7 (some 13) rfl rfl (.int .i64 X) (by kernel_rfl) (by kernel_rfl) (by kernel_rfl) (fun _ _ _ _ h => h) (by kernel_rfl) (exec_maxI _ _ _ rfl most 0 X HX.out (by kernel_rfl) (by kernel_rfl)) hS0 ?_
  have bA : Below w2.heap.size w2 (w2.drew.alloc (.cells #[.int .i64 0] 3)) := from_drew (below_alloc w2.drew _)
  have hSA : Px (w2.drew.alloc (.cells #[.int .i64 0] 3)) g2 (.slice p L.length c) f := P22.out.later bA
  refine rgd_two2 4 9 (some 10) (some 5) (by kernel_rfl) rfl rfl (by kernel_rfl) 49 #[.agg (pcs (.slice p L.length c) f)] (by kernel_rfl) (DR.out w2.drew (EV.out.below (to_drew B2.out))) rfl rfl (by kernel_rfl) (.pointer (some ⟨w2.heap.size, 0, none⟩)) (w2.drew.alloc (.cells #[.int .i64 0] 3)) (allocInt rfl _) hSA ?_ ?_
  · rintro e w3 ⟨rfl, hb3⟩
    have b3 : Below w2.heap.size w2 w3 := from_drew hb3
    refine ⟨_, rfl, P22.out.later b3, ?_⟩
    have hS3 : Px w3 g2 (.slice p L.length c) f := P22.out.later b3
    refine rgd_pure 5 (some 11) rfl rfl (.int .i64 ((L.length : Int) - D)) (by kernel_rfl) (by kernel_rfl) (by kernel_rfl) (fun _ _ _ _ h => h) (by kernel_rfl) (exec_subI _ _ _ _ rfl _ _ _ W1'.out (by kernel_rfl) (by kernel_rfl)) hS3 ?_
    refine rgd_pure 8 (some 14) rfl rfl (.int .i64 R) (by kernel_rfl) (by kernel_rfl) (by kernel_rfl) (fun _ _ _ _ h => h) (by kernel_rfl) (exec_subI _ _ _ _ rfl _ _ _ W2'.out (by kernel_rfl) (by kernel_rfl)) hS3 ?_
    have b4 := below_alloc w3 (.cells #[.int .i64 0] 3)
    have n4 := heap_alloc_new w3 (.cells #[.int .i64 0] 3)
    refine rgd_run 9 (some 5) (by kernel_rfl) rfl rfl (by kernel_rfl) (.pointer (some ⟨w3.heap.size, 0, none⟩)) (w3.alloc (.cells #[.int .i64 0] 3)) (allocInt rfl _) (hS3.later b4) ?_
    have g5 := grown_cell (w3.alloc (.cells #[.int .i64 0] 3)) w3.heap.size 0 (.int .i64 R)
    have s5 := block_setCell n4 (j := 0) (.int .i64 R)
    have hlt : g2 ≠ w3.heap.size := by have := hS3.lt; omega
    refine rgd_do 10 none (by kernel_rfl) rfl rfl (by kernel_rfl) ((w3.alloc (.cells #[.int .i64 0] 3)).setCell ⟨w3.heap.size, 0, none⟩ (.int .i64 R)) (exec_storeI1 _ _ _ rfl sizeInt _ _ _ _ (by kernel_rfl) (by kernel_rfl) ((cell_of_row _ _ 0 _ _ _ n4).trans rfl) (frozen_of_row _ _ 0 _ _ n4)) ((hS3.later b4).kept g5 (by simp; omega)) ?_
    exact wpAnyH_done (by kernel_rfl) (Eq.mp (by kernel_rfl) (KK w3.heap.size _ ⟨hR1.1, hR1.2, s5⟩ b3.size ((b3.trans (b4.mono b3.size)).trans (grown_below g5 (Nat.le_trans b3.size b4.size) b3.size)))) _
  · have DA := DR.out (w2.drew.alloc (.cells #[.int .i64 0] 3)) (EV.out.below (thenBelow B2.out bA))
    refine rgd_call 4 (some 10) (by kernel_rfl) rfl rfl (by kernel_rfl) 49 #[.agg (pcs (.slice p L.length c) f)] (by kernel_rfl) DA ?_
    rintro e w3 ⟨rfl, hb3⟩
    have b3 : Below w2.heap.size w2 w3 := thenBelow bA hb3
    refine ⟨_, rfl, P22.out.later b3, ?_⟩
    have hS3 : Px w3 g2 (.slice p L.length c) f := P22.out.later b3
    refine rgd_pure 5 (some 11) rfl rfl (.int .i64 ((L.length : Int) - D)) (by kernel_rfl) (by kernel_rfl) (by kernel_rfl) (fun _ _ _ _ h => h) (by kernel_rfl) (exec_subI _ _ _ _ rfl _ _ _ W1'.out (by kernel_rfl) (by kernel_rfl)) hS3 ?_
    refine rgd_pure 8 (some 14) rfl rfl (.int .i64 R) (by kernel_rfl) (by kernel_rfl) (by kernel_rfl) (fun _ _ _ _ h => h) (by kernel_rfl) (exec_subI _ _ _ _ rfl _ _ _ W2'.out (by kernel_rfl) (by kernel_rfl)) hS3 ?_
    have n0 := heap_alloc_new w2.drew (.cells #[.int .i64 0] 3)
    have n4 := (hb3.block _ (Array.getElem?_eq_some_iff.1 n0).1).trans n0
    change w3.heap[w2.heap.size]? = _ at n4
    have g5 := grown_cell w3 w2.heap.size 0 (.int .i64 R)
    have s5 := block_setCell n4 (j := 0) (.int .i64 R)
    have hlt : g2 ≠ w2.heap.size := by have := P22.out.lt; omega
    refine rgd_do 10 none (by kernel_rfl) rfl rfl (by kernel_rfl) (w3.setCell ⟨w2.heap.size, 0, none⟩ (.int .i64 R)) (exec_storeI1 _ _ _ rfl sizeInt _ _ _ _ (by kernel_rfl) (by kernel_rfl) ((cell_of_row _ _ 0 _ _ _ n4).trans rfl) (frozen_of_row _ _ 0 _ _ n4)) (hS3.kept g5 (by simp; omega)) ?_
    exact wpAnyH_done (by kernel_rfl) (Eq.mp (by kernel_rfl) (KK w2.heap.size _ ⟨hR1.1, hR1.2, s5⟩ (Nat.le_refl _) (b3.trans (grown_below g5 b3.size (Nat.le_refl _))))) _
end Go.Proofs.YtffjbgbcaijlnaaDoor
