/- Lanes between n: Spoil, Lose. -/
import Derived.Test.YtfdiclamjgldnaaLnCalls2
namespace Go.Proofs.Ytfdiclamjgldnaa
open Go Go.RowKit Go.Conc
set_option linter.unusedVariables false

set_option maxHeartbeats 1000000 in
theorem spoil_is (B A : Nat) (n : Int) (F : Wy → List Mg) (S L : Int) (w : World) (h : Lx w B A n F S L) (f t : Int) (hk : InN n (f, t)) (k : Nat) (hlt : k < (F (f, t)).length) (at0 : Int) (hat : -9223372036854775808 ≤ at0 ∧ at0 ≤ 9223372036854775807) (by0 : UInt8) :
    Calls Try.prog 14 #[.pointer (some ⟨A, 0, none⟩), .int .i64 f, .int .i64 t, .int .i64 (k : Int), .int .i64 at0, .int .u8 (by0.toNat : Int)] w (SendTo B A n (updF F (f, t) ((F (f, t)).set k ⟨((F (f, t)).getD k ⟨[], 0, 0⟩).whole, at0, by0⟩)) S L 0 w) := by
  obtain ⟨M, c, es, D, h, hg, hF⟩ := h
  obtain ⟨a, b, hd⟩ := in_es hg hk
  have hlt' : k < (D (f, t)).xs.length := by rw [hF]; exact hlt
  have FI := Lib.hid (find_is B A M c es D S L w h f t a b hd k hlt')
  have PU : Hid (∀ w1, Ls w1 B A M c es D S L → Bel B w w1 → ∃ v a1 b1, w1.heap[(D (f, t)).ms.getD k 0]? = some (.cells #[v, .int .i64 a1, .int .u8 b1] 67 (0, 0)) ∧
      SendTo B A n (updF F (f, t) ((F (f, t)).set k ⟨((F (f, t)).getD k ⟨[], 0, 0⟩).whole, at0, by0⟩)) S L 0 w (.returned (.int .i64 0)) ((w1.setCell ⟨(D (f, t)).ms.getD k 0, 1, none⟩ (.int .i64 at0)).setCell ⟨(D (f, t)).ms.getD k 0, 2, none⟩ (.int .u8 (by0.toNat : Int)))) := by
    intro w1 h1 hb1
    obtain ⟨hB, v, hv, ho, hok1, hok2⟩ := h1.getM (f, t) a b hd k hlt' ⟨[], 0, 0⟩
    have off := off_msg (h1.getM (f, t) a b hd k hlt' ⟨[], 0, 0⟩)
    generalize hM : (D (f, t)).ms.getD k 0 = m at *
    have g1 := grown_setCell w1 m 1 (.int .i64 at0)
    have v1 := heap_setCell_same w1 m 1 _ _ (.int .i64 at0) hv
    have g2 := grown_setCell (w1.setCell ⟨m, 1, none⟩ (.int .i64 at0)) m 2 (.int .u8 (by0.toNat : Int))
    have v2 := heap_setCell_same (w1.setCell ⟨m, 1, none⟩ (.int .i64 at0)) m 2 _ _ (.int .u8 (by0.toNat : Int)) v1
    have gg := grown_trans' g1 g2
    have ho2 := ho.kept gg (by
      rcases ho.2 with ⟨rfl, _⟩ | ⟨g, cap, cur, rfl, _, hgc, _⟩
      · exact .inl rfl
      · exact .inr fun e => off.2.2 cur _ (by rw [← Option.some.inj e]; exact hgc))
    obtain ⟨D', hD, hmore⟩ := h1.turn (f, t) a b hd k hlt' ⟨((F (f, t)).getD k ⟨[], 0, 0⟩).whole, at0, by0⟩ (by rw [hM]; exact gg) (by
      rw [hM]
      refine ⟨hB, v, v2, ?_, ?_⟩
      · rw [← hF]; exact ho2
      · rw [← hF]; exact ⟨hok1, hat.1, hat.2⟩)
    have hx := Lx.of_more hD hg hF hmore
    rw [hF] at hx
    refine ⟨v, _, _, hv, rfl, hx, hb1.trans (Bel.of_grown (((Below.refl B w1).setCell (p := ⟨m, 1, none⟩) hB _).setCell (p := ⟨m, 2, none⟩) hB _) gg (fun cur ty mm q => by rw [hv] at q; injection q with q; injection q with _ q2 _; exact .inr q2.symm))⟩
  clear h hd hF hg
  generalize (D (f, t)).ms.getD k 0 = m at FI PU
  generalize (F (f, t)).set k ⟨((F (f, t)).getD k ⟨[], 0, 0⟩).whole, at0, by0⟩ = fs at PU ⊢
  go_enter Try.func14, Try.ntmps14
  go_wp2_with fail
  refine FI.out.mono ?_
  rintro e w1 ⟨rfl, hL1, hb1⟩
  obtain ⟨v, a1, b1, hv, hs⟩ := PU.out w1 hL1 hb1
  have R := Lib.hid hs
  have x1 : w1.cell? ⟨m, 1, none⟩ = some (.int .i64 a1) := by rw [cell_of_row w1 m 1 _ _ _ hv]; rfl
  have x2 : w1.cell? ⟨m, 2, none⟩ = some (.int .u8 b1) := by rw [cell_of_row w1 m 2 _ _ _ hv]; rfl
  have y1 := frozen_of_row w1 m 1 _ _ hv
  have y2 := frozen_of_row w1 m 2 _ _ hv
  clear hL1 hb1 FI PU hs hv
  go_wp2
  go_ret
  exact R.out
end Go.Proofs.Ytfdiclamjgldnaa
