/- Lanes between n: what is answered where there is no such way, or message; Lose. -/
import Derived.Test.YtfdiclamjgldnaaLnSpoil
namespace Go.Proofs.Ytfdiclamjgldnaa
open Go Go.RowKit Go.Conc
set_option linter.unusedVariables false

/-- find tells why there is none -/
def NoFind (w : World) (q : Option Addr) (f t k r : Int) : Prop :=
  (r = 15 ∨ r = 10) ∧ Calls Try.prog 31 #[.pointer q, .int .i64 f, .int .i64 t, .int .i64 k] w fun e w' => e = .returned (.tuple #[.pointer none, .pointer none, .int .i64 r]) ∧ w = w'
theorem noFind_way (B A : Nat) (n : Int) (F : Wy → List Mg) (S L : Int) (w : World) (h : Lx w B A n F S L) (f t k : Int) (hk : ¬ InN n (f, t)) : NoFind w (some ⟨A, 0, none⟩) f t k 15 := by
  obtain ⟨M, c, es, D, h, hg, hF⟩ := h
  exact ⟨.inl rfl, find_no _ f t k w (way_no B A M c es D S L w h f t (fun q => hk ((hg _).1 q)))⟩
theorem noFind_out (B A : Nat) (n : Int) (F : Wy → List Mg) (S L : Int) (w : World) (h : Lx w B A n F S L) (f t k : Int) (hn : InN n (f, t)) (hk : k < 0 ∨ (F (f, t)).length ≤ k) : NoFind w (some ⟨A, 0, none⟩) f t k 10 := by
  obtain ⟨M, c, es, D, h, hg, hF⟩ := h
  obtain ⟨a, b, hd⟩ := in_es hg hn
  exact ⟨.inr rfl, find_out B A M c es D S L w h f t a b hd k (by rw [hF]; exact hk)⟩
theorem send_noway (B A : Nat) (n : Int) (F : Wy → List Mg) (S L : Int) (w : World) (h : Lx w B A n F S L) (f t : Int) (v : Value) (hv : ∃ p n c, v = .slice p n c) (hk : ¬ InN n (f, t)) :
    Calls Try.prog 13 #[.pointer (some ⟨A, 0, none⟩), .int .i64 f, .int .i64 t, v] w fun e w' => e = .returned (.int .i64 15) ∧ w = w' := by
  obtain ⟨M, c, es, D, h, hg, hF⟩ := h
  exact send_no _ f t v hv w (way_no B A M c es D S L w h f t (fun q => hk ((hg _).1 q)))
theorem count_noway (B A : Nat) (n : Int) (F : Wy → List Mg) (S L : Int) (w : World) (h : Lx w B A n F S L) (f t : Int) (hk : ¬ InN n (f, t)) :
    Calls Try.prog 11 #[.pointer (some ⟨A, 0, none⟩), .int .i64 f, .int .i64 t] w fun e w' => e = .returned (.int .i64 0) ∧ w = w' := by
  obtain ⟨M, c, es, D, h, hg, hF⟩ := h
  exact count_no B A M c es D S L w h f t (fun q => hk ((hg _).1 q))
theorem take_err (q : Option Addr) (f t k r : Int) (w : World) (h : NoFind w q f t k r) : Calls Try.prog 16 #[.pointer q, .int .i64 f, .int .i64 t, .int .i64 k] w fun e w' => e = .returned (.tuple #[.slice none 0 0, .int .i64 r]) ∧ w = w' := by
  obtain ⟨hr, hf⟩ := h
  have FI := Lib.hid hf
  clear hf
  rcases hr with rfl | rfl
  all_goals
    go_enter Try.func16, Try.ntmps16
    go_wp2_with fail
    refine FI.out.mono ?_
    rintro e w' ⟨rfl, rfl⟩
    go_wp2
    go_ret2
    exact ⟨rfl, rfl⟩
theorem peek_err (q : Option Addr) (f t k r : Int) (w : World) (h : NoFind w q f t k r) : Calls Try.prog 17 #[.pointer q, .int .i64 f, .int .i64 t, .int .i64 k] w fun e w' => e = .returned (.tuple #[.slice none 0 0, .int .i64 r]) ∧ w = w' := by
  obtain ⟨hr, hf⟩ := h
  have FI := Lib.hid hf
  clear hf
  rcases hr with rfl | rfl
  all_goals
    go_enter Try.func17, Try.ntmps17
    go_wp2_with fail
    refine FI.out.mono ?_
    rintro e w' ⟨rfl, rfl⟩
    go_wp2
    go_ret2
    exact ⟨rfl, rfl⟩
theorem lose_err (q : Option Addr) (f t k r : Int) (w : World) (h : NoFind w q f t k r) : Calls Try.prog 18 #[.pointer q, .int .i64 f, .int .i64 t, .int .i64 k] w fun e w' => e = .returned (.int .i64 r) ∧ w = w' := by
  obtain ⟨hr, hf⟩ := h
  have FI := Lib.hid hf
  clear hf
  rcases hr with rfl | rfl
  all_goals
    go_enter Try.func18, Try.ntmps18
    go_wp2_with fail
    refine FI.out.mono ?_
    rintro e w' ⟨rfl, rfl⟩
    go_wp2
    go_ret
    exact ⟨rfl, rfl⟩
theorem double_err (q : Option Addr) (f t k r : Int) (w : World) (h : NoFind w q f t k r) : Calls Try.prog 15 #[.pointer q, .int .i64 f, .int .i64 t, .int .i64 k] w fun e w' => e = .returned (.int .i64 r) ∧ w = w' := by
  obtain ⟨hr, hf⟩ := h
  have FI := Lib.hid hf
  clear hf
  rcases hr with rfl | rfl
  all_goals
    go_enter Try.func15, Try.ntmps15
    go_wp2_with fail
    refine FI.out.mono ?_
    rintro e w' ⟨rfl, rfl⟩
    go_wp2
    go_ret
    exact ⟨rfl, rfl⟩
theorem spoil_err (q : Option Addr) (f t k r : Int) (at0 by0 : Int) (w : World) (h : NoFind w q f t k r) : Calls Try.prog 14 #[.pointer q, .int .i64 f, .int .i64 t, .int .i64 k, .int .i64 at0, .int .u8 by0] w fun e w' => e = .returned (.int .i64 r) ∧ w = w' := by
  obtain ⟨hr, hf⟩ := h
  have FI := Lib.hid hf
  clear hf
  rcases hr with rfl | rfl
  all_goals
    go_enter Try.func14, Try.ntmps14
    go_wp2_with fail
    refine FI.out.mono ?_
    rintro e w' ⟨rfl, rfl⟩
    go_wp2
    go_ret
    exact ⟨rfl, rfl⟩
set_option maxHeartbeats 1000000 in
theorem lose_is (B A : Nat) (n : Int) (F : Wy → List Mg) (S L : Int) (w : World) (h : Lx w B A n F S L) (f t : Int) (hk : InN n (f, t)) (k : Nat) (hlt : k < (F (f, t)).length) (hL : 0 ≤ L ∧ L ≤ 1000000) :
    Calls Try.prog 18 #[.pointer (some ⟨A, 0, none⟩), .int .i64 f, .int .i64 t, .int .i64 (k : Int)] w (SendTo B A n (updF F (f, t) ((F (f, t)).eraseIdx k)) S (L + 1) 0 w) := by
  obtain ⟨M, c, es, D, h, hg, hF⟩ := h
  obtain ⟨a, b, hd⟩ := in_es hg hk
  have hlt' : k < (D (f, t)).xs.length := by rw [hF]; exact hlt
  have FI := Lib.hid (find_is B A M c es D S L w h f t a b hd k hlt')
  have hc2 : L + 1 ≤ 9223372036854775807 := by omega
  have PU : Hid (∀ w1, Ls w1 B A M c es D S L → Bel B w w1 → Calls Try.prog 32 #[.pointer (some ⟨a, 0, none⟩), .int .i64 (k : Int)] w1 fun e w2 => (∃ v u, e = .returned (.tuple #[v, u])) ∧ w2.cell? ⟨A, 2, none⟩ = some (.int .i64 L) ∧ w2.frozen? ⟨A, 2, none⟩ = false ∧
      SendTo B A n (updF F (f, t) ((F (f, t)).eraseIdx k)) S (L + 1) 0 w (.returned (.int .i64 0)) (w2.setCell ⟨A, 2, none⟩ (.int .i64 (L + 1)))) := by
    intro w1 h1 hb1
    refine (h1.pull (f, t) a b hd k hlt').mono ?_
    rintro e w2 ⟨he, ⟨D', hD, hmore⟩, hb2, hmm⟩
    obtain ⟨_, _, c2, _, f2⟩ := hD.cells
    have hx := Lx.of_more (hD.lost (L + 1)) hg hF hmore
    rw [hF] at hx
    exact ⟨he, c2, f2, rfl, hx, hb1.trans (hb2.trans (hD.turnA 2 _))⟩
  clear h hd hF hg
  generalize (D (f, t)).ms.getD k 0 = m at FI
  go_enter Try.func18, Try.ntmps18
  go_wp2_with fail
  refine FI.out.mono ?_
  rintro e w1 ⟨rfl, hL1, hb1⟩
  have P := Lib.hid (PU.out w1 hL1 hb1)
  clear hL1 hb1 FI PU
  go_wp2_with fail
  refine P.out.mono ?_
  rintro e w2 ⟨⟨v, u, rfl⟩, c2, f2, hs⟩
  have R := Lib.hid hs
  clear hs P
  go_wp2
  go_ret
  exact R.out
end Go.Proofs.Ytfdiclamjgldnaa
