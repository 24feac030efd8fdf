/- Lanes between n: Take, Peek, Lose, Double, Spoil. -/
import Derived.Test.YtfdiclamjgldnaaLnCalls
namespace Go.Proofs.Ytfdiclamjgldnaa
open Go Go.RowKit Go.Conc
set_option linter.unusedVariables false

def TakeTo (B A : Nat) (n : Int) (F : Wy → List Mg) (S L : Int) (l : List UInt8) (w : World) (e : Ending) (w' : World) : Prop :=
  ∃ v, e = .returned (.tuple #[v, .int .i64 0]) ∧ w'.ownsRow B 5 1 v l.length (bys l) ∧ Lx w' B A n F S L ∧ Bel B w w'
theorem takeTo_out {B A : Nat} {n : Int} {F : Wy → List Mg} {S L : Int} {l : List UInt8} {w w' : World} {v : Value} (h : TakeTo B A n F S L l w (.returned (.tuple #[v, .int .i64 0])) w') : ∃ p c, v = .slice p l.length c := by
  obtain ⟨v', e, ho, _⟩ := h
  injection e with e
  simp only [Value.tuple.injEq] at e
  have e1 : v = v' := by simpa using e
  subst e1
  obtain ⟨_, p, c, rfl, _⟩ := own_lies ho
  exact ⟨p, c, rfl⟩

set_option maxHeartbeats 1000000 in
theorem take_is (B A : Nat) (n : Int) (F : Wy → List Mg) (S L : Int) (w : World) (h : Lx w B A n F S L) (f t : Int) (hk : InN n (f, t)) (k : Nat) (hlt : k < (F (f, t)).length) :
    Calls Try.prog 16 #[.pointer (some ⟨A, 0, none⟩), .int .i64 f, .int .i64 t, .int .i64 (k : Int)] w (TakeTo B A n (updF F (f, t) ((F (f, t)).eraseIdx k)) S L (seen ((F (f, t)).getD k ⟨[], 0, 0⟩)) w) := by
  obtain ⟨M, c, es, D, h, hg, hF⟩ := h
  obtain ⟨a, b, hd⟩ := in_es hg hk
  have hlt' : k < (D (f, t)).xs.length := by rw [hF]; exact hlt
  have FI := Lib.hid (find_is B A M c es D S L w h f t a b hd k hlt')
  have hBw : B ≤ w.heap.size := Nat.le_trans h.bA (Nat.le_of_lt h.ltA)
  have PU : Hid (∀ w1, Ls w1 B A M c es D S L → Bel B w w1 → Calls Try.prog 32 #[.pointer (some ⟨a, 0, none⟩), .int .i64 (k : Int)] w1 fun e w2 => (∃ v u, e = .returned (.tuple #[v, u])) ∧ Calls Try.prog 33 #[.pointer (some ⟨(D (f, t)).ms.getD k 0, 0, none⟩)] w2 fun e w3 => ∃ v, e = .returned v ∧ TakeTo B A n (updF F (f, t) ((F (f, t)).eraseIdx k)) S L (seen ((F (f, t)).getD k ⟨[], 0, 0⟩)) w (.returned (.tuple #[v, .int .i64 0])) w3) := by
    intro w1 h1 hb1
    refine (h1.pull (f, t) a b hd k hlt').mono ?_
    rintro e w2 ⟨he, ⟨D', hD, hmore⟩, hb2, hmm⟩
    have hm := hmm _ _ (h1.getM (f, t) a b hd k hlt' ⟨[], 0, 0⟩)
    refine ⟨he, (bytes_is B _ _ w2 hm).mono ?_⟩
    rintro e w3 ⟨v, rfl, ho, hb3⟩
    have hB2 : B ≤ w2.heap.size := Nat.le_trans hBw (Nat.le_trans hb1.size hb2.size)
    have hx := Lx.of_more hD hg hF hmore
    rw [hF] at ho hx
    exact ⟨v, rfl, v, rfl, own_mono ho hB2, hx.below hb3, hb1.trans (hb2.trans (Bel.of_below hb3 hB2))⟩
  clear h hd hF hg
  generalize (D (f, t)).ms.getD k 0 = m at FI PU
  generalize seen ((F (f, t)).getD k ⟨[], 0, 0⟩) = sl at PU ⊢
  go_enter Try.func16, Try.ntmps16
  go_wp2_with fail
  refine FI.out.mono ?_
  rintro e w1 ⟨rfl, hL1, hb1⟩
  have P := Lib.hid (PU.out w1 hL1 hb1)
  clear hL1 hb1 FI PU
  go_wp2_with fail
  refine P.out.mono ?_
  rintro e w2 ⟨⟨v, u, rfl⟩, hb⟩
  have BY := Lib.hid hb
  clear hb P
  go_wp2_with fail
  refine BY.out.mono ?_
  rintro e w3 ⟨v3, rfl, hT⟩
  obtain ⟨p3, c3, rfl⟩ := takeTo_out hT
  have R := Lib.hid hT
  clear hT BY
  go_wp2
  go_ret2
  exact R.out

set_option maxHeartbeats 1000000 in
theorem peek_is (B A : Nat) (n : Int) (F : Wy → List Mg) (S L : Int) (w : World) (h : Lx w B A n F S L) (f t : Int) (hk : InN n (f, t)) (k : Nat) (hlt : k < (F (f, t)).length) :
    Calls Try.prog 17 #[.pointer (some ⟨A, 0, none⟩), .int .i64 f, .int .i64 t, .int .i64 (k : Int)] w (TakeTo B A n (F) S L (seen ((F (f, t)).getD k ⟨[], 0, 0⟩)) w) := by
  obtain ⟨M, c, es, D, h, hg, hF⟩ := h
  obtain ⟨a, b, hd⟩ := in_es hg hk
  have hlt' : k < (D (f, t)).xs.length := by rw [hF]; exact hlt
  have FI := Lib.hid (find_is B A M c es D S L w h f t a b hd k hlt')
  have hBw : B ≤ w.heap.size := Nat.le_trans h.bA (Nat.le_of_lt h.ltA)
  have PU : Hid (∀ w1, Ls w1 B A M c es D S L → Bel B w w1 → Calls Try.prog 33 #[.pointer (some ⟨(D (f, t)).ms.getD k 0, 0, none⟩)] w1 fun e w3 => ∃ v, e = .returned v ∧ TakeTo B A n F S L (seen ((F (f, t)).getD k ⟨[], 0, 0⟩)) w (.returned (.tuple #[v, .int .i64 0])) w3) := by
    intro w1 h1 hb1
    have hm := h1.getM (f, t) a b hd k hlt' ⟨[], 0, 0⟩
    refine (bytes_is B _ _ w1 hm).mono ?_
    rintro e w3 ⟨v, rfl, ho, hb3⟩
    have hB1 : B ≤ w1.heap.size := Nat.le_trans hBw hb1.size
    rw [hF] at ho
    have hx : Lx w1 B A n F S L := ⟨M, c, es, D, h1, hg, hF⟩
    exact ⟨v, rfl, v, rfl, own_mono ho hB1, hx.below hb3, hb1.trans (Bel.of_below hb3 hB1)⟩
  clear h hd hF hg
  generalize (D (f, t)).ms.getD k 0 = m at FI PU
  generalize seen ((F (f, t)).getD k ⟨[], 0, 0⟩) = sl at PU ⊢
  go_enter Try.func17, Try.ntmps17
  go_wp2_with fail
  refine FI.out.mono ?_
  rintro e w1 ⟨rfl, hL1, hb1⟩
  have P := Lib.hid (PU.out w1 hL1 hb1)
  clear hL1 hb1 FI PU
  go_wp2_with fail
  refine P.out.mono ?_
  rintro e w3 ⟨v3, rfl, hT⟩
  obtain ⟨p3, c3, rfl⟩ := takeTo_out hT
  have R := Lib.hid hT
  clear hT P
  go_wp2
  go_ret2
  exact R.out

set_option maxHeartbeats 1000000 in
theorem double_yes (B A : Nat) (n : Int) (F : Wy → List Mg) (S L : Int) (w : World) (h : Lx w B A n F S L) (f t : Int) (hk : InN n (f, t)) (k : Nat) (hlt : k < (F (f, t)).length) (hroom : (F (f, t)).length < 40) :
    Calls Try.prog 15 #[.pointer (some ⟨A, 0, none⟩), .int .i64 f, .int .i64 t, .int .i64 (k : Int)] w (SendTo B A n (updF F (f, t) (F (f, t) ++ [(F (f, t)).getD k ⟨[], 0, 0⟩])) S L 0 w) := by
  obtain ⟨M, c, es, D, h, hg, hF⟩ := h
  obtain ⟨a, b, hd⟩ := in_es hg hk
  have hlt' : k < (D (f, t)).xs.length := by rw [hF]; exact hlt
  have FI := Lib.hid (find_is B A M c es D S L w h f t a b hd k hlt')
  have hBw : B ≤ w.heap.size := Nat.le_trans h.bA (Nat.le_of_lt h.ltA)
  have PU : Hid (∀ w1, Ls w1 B A M c es D S L → Bel B w w1 → ∃ v at0 by0, w1.heap[(D (f, t)).ms.getD k 0]? = some (.cells #[v, .int .i64 at0, .int .u8 by0] 67 (0, 0)) ∧ (∃ p c l, v = .slice p l c) ∧ Calls Try.prog 29 #[.pointer (some ⟨a, 0, none⟩), .pointer (some ⟨w1.heap.size, 0, none⟩)] (w1.alloc (.cells #[v, .int .i64 at0, .int .u8 by0] 67 (0, 0))) fun e w2 => e = .returned (.bool true) ∧ SendTo B A n (updF F (f, t) (F (f, t) ++ [(F (f, t)).getD k ⟨[], 0, 0⟩])) S L 0 w (.returned (.int .i64 0)) w2) := by
    intro w1 h1 hb1
    have hm := h1.getM (f, t) a b hd k hlt' ⟨[], 0, 0⟩
    obtain ⟨hB, v, hv, ho, hok⟩ := hm
    have hB1 : B ≤ w1.heap.size := Nat.le_trans hBw hb1.size
    have hA := (Below.refl w1.heap.size w1).alloc (Nat.le_refl _) (.cells #[v, .int .i64 ((D (f, t)).xs.getD k ⟨[], 0, 0⟩).at_, .int .u8 (((D (f, t)).xs.getD k ⟨[], 0, 0⟩).by_.toNat : Int)] 67 (0, 0))
    have h2 := h1.below hA
    obtain ⟨_, pp, cc, rfl, _⟩ := own_lies ho
    refine ⟨_, _, _, hv, ⟨_, _, _, rfl⟩, ?_⟩
    have hm2 : MsgAt (w1.alloc (.cells #[.slice pp ((D (f, t)).xs.getD k ⟨[], 0, 0⟩).whole.length cc, .int .i64 ((D (f, t)).xs.getD k ⟨[], 0, 0⟩).at_, .int .u8 (((D (f, t)).xs.getD k ⟨[], 0, 0⟩).by_.toNat : Int)] 67 (0, 0))) B w1.heap.size ((D (f, t)).xs.getD k ⟨[], 0, 0⟩) := ⟨hB1, _, heap_alloc_new w1 _, ho.alloc _, hok⟩
    refine (h2.put (f, t) a b hd w1.heap.size _ hm2 (fun e he q => ?_) (by rw [hF]; exact hroom)).mono ?_
    · have := (h1.way e he).msgs.lt _ q
      omega
    · rintro e w2 ⟨rfl, ⟨D', hD, hmore⟩, hb2⟩
      have hx := Lx.of_more hD hg hF hmore
      rw [hF] at hx
      exact ⟨rfl, rfl, hx, hb1.trans ((Bel.of_below hA hB1).trans hb2)⟩
  clear h hd hF hg
  generalize (D (f, t)).ms.getD k 0 = m at FI PU
  generalize (F (f, t)).getD k ⟨[], 0, 0⟩ = gd at PU ⊢
  go_enter Try.func15, Try.ntmps15
  go_wp2_with fail
  refine FI.out.mono ?_
  rintro e w1 ⟨rfl, hL1, hb1⟩
  obtain ⟨v, at0, by0, hv, ⟨pp, cc, ll, rfl⟩, hc⟩ := PU.out w1 hL1 hb1
  have P := Lib.hid hc
  have x0 : w1.cell? ⟨m, 0, none⟩ = some (.slice pp ll cc) := by rw [cell_of_row w1 m 0 _ _ _ hv]; rfl
  have x1 : w1.cell? ⟨m, 1, none⟩ = some (.int .i64 at0) := by rw [cell_of_row w1 m 1 _ _ _ hv]; rfl
  have x2 : w1.cell? ⟨m, 2, none⟩ = some (.int .u8 by0) := by rw [cell_of_row w1 m 2 _ _ _ hv]; rfl
  have y0 := frozen_of_row w1 m 0 _ _ hv
  have y1 := frozen_of_row w1 m 1 _ _ hv
  have y2 := frozen_of_row w1 m 2 _ _ hv
  clear hL1 hb1 FI PU hc hv
  go_wp2_with fail
  refine P.out.mono ?_
  rintro e w2 ⟨rfl, hT⟩
  have R := Lib.hid hT
  clear hT P
  go_wp2
  go_ret
  exact R.out

set_option maxHeartbeats 1000000 in
theorem double_full (B A : Nat) (n : Int) (F : Wy → List Mg) (S L : Int) (w : World) (h : Lx w B A n F S L) (f t : Int) (hk : InN n (f, t)) (k : Nat) (hlt : k < (F (f, t)).length) (hroom : ¬ (F (f, t)).length < 40) :
    Calls Try.prog 15 #[.pointer (some ⟨A, 0, none⟩), .int .i64 f, .int .i64 t, .int .i64 (k : Int)] w (SendTo B A n (F) S L 8 w) := by
  obtain ⟨M, c, es, D, h, hg, hF⟩ := h
  obtain ⟨a, b, hd⟩ := in_es hg hk
  have hlt' : k < (D (f, t)).xs.length := by rw [hF]; exact hlt
  have FI := Lib.hid (find_is B A M c es D S L w h f t a b hd k hlt')
  have hBw : B ≤ w.heap.size := Nat.le_trans h.bA (Nat.le_of_lt h.ltA)
  have PU : Hid (∀ w1, Ls w1 B A M c es D S L → Bel B w w1 → ∃ v at0 by0, w1.heap[(D (f, t)).ms.getD k 0]? = some (.cells #[v, .int .i64 at0, .int .u8 by0] 67 (0, 0)) ∧ (∃ p c l, v = .slice p l c) ∧ Calls Try.prog 29 #[.pointer (some ⟨a, 0, none⟩), .pointer (some ⟨w1.heap.size, 0, none⟩)] (w1.alloc (.cells #[v, .int .i64 at0, .int .u8 by0] 67 (0, 0))) fun e w2 => e = .returned (.bool false) ∧ SendTo B A n F S L 8 w (.returned (.int .i64 8)) w2) := by
    intro w1 h1 hb1
    have hm := h1.getM (f, t) a b hd k hlt' ⟨[], 0, 0⟩
    obtain ⟨hB, v, hv, ho, hok⟩ := hm
    have hB1 : B ≤ w1.heap.size := Nat.le_trans hBw hb1.size
    have hA := (Below.refl w1.heap.size w1).alloc (Nat.le_refl _) (.cells #[v, .int .i64 ((D (f, t)).xs.getD k ⟨[], 0, 0⟩).at_, .int .u8 (((D (f, t)).xs.getD k ⟨[], 0, 0⟩).by_.toNat : Int)] 67 (0, 0))
    have h2 := h1.below hA
    obtain ⟨_, pp, cc, rfl, _⟩ := own_lies ho
    refine ⟨_, _, _, hv, ⟨_, _, _, rfl⟩, ?_⟩
    refine (h2.full (f, t) a b hd w1.heap.size (by rw [hF]; exact hroom)).mono ?_
    rintro e w2 ⟨rfl, hb2⟩
    have hx : Lx w2 B A n F S L := ⟨M, c, es, D, h2.below hb2, hg, hF⟩
    exact ⟨rfl, rfl, hx, hb1.trans ((Bel.of_below hA hB1).trans (Bel.of_below hb2 (Nat.le_trans hB1 hA.size)))⟩
  clear h hd hF hg
  generalize (D (f, t)).ms.getD k 0 = m at FI PU
  skip
  go_enter Try.func15, Try.ntmps15
  go_wp2_with fail
  refine FI.out.mono ?_
  rintro e w1 ⟨rfl, hL1, hb1⟩
  obtain ⟨v, at0, by0, hv, ⟨pp, cc, ll, rfl⟩, hc⟩ := PU.out w1 hL1 hb1
  have P := Lib.hid hc
  have x0 : w1.cell? ⟨m, 0, none⟩ = some (.slice pp ll cc) := by rw [cell_of_row w1 m 0 _ _ _ hv]; rfl
  have x1 : w1.cell? ⟨m, 1, none⟩ = some (.int .i64 at0) := by rw [cell_of_row w1 m 1 _ _ _ hv]; rfl
  have x2 : w1.cell? ⟨m, 2, none⟩ = some (.int .u8 by0) := by rw [cell_of_row w1 m 2 _ _ _ hv]; rfl
  have y0 := frozen_of_row w1 m 0 _ _ hv
  have y1 := frozen_of_row w1 m 1 _ _ hv
  have y2 := frozen_of_row w1 m 2 _ _ hv
  clear hL1 hb1 FI PU hc hv
  go_wp2_with fail
  refine P.out.mono ?_
  rintro e w2 ⟨rfl, hT⟩
  have R := Lib.hid hT
  clear hT P
  go_wp2
  go_ret
  exact R.out
end Go.Proofs.Ytfdiclamjgldnaa
