/- The statement WireEncodes, proved for every input that its row reads: part 47 of 54. -/
import Derived.Test.YtapbeokocfmlpaaDoorPackWireEncodes46
import Derived.Test.YtapbeokocfmlpaaDoorPackWireEncodes14
import Derived.Test.YtapbeokocfmlpaaDoorPackWireEncodes15
import Derived.Test.YtapbeokocfmlpaaDoorPackWireEncodes18
import Derived.Test.YtapbeokocfmlpaaDoorPackWireEncodes31
/- wire.Encode: a message's bytes, sealed. -/
namespace Go.Proofs.YtapbeokocfmlpaaDoor
open Go Go.RowKit
set_option linter.unusedVariables false
set_option maxRecDepth 1000000

theorem mgB_len {m : Mg} (hM : mayM m = true) : (mgB m).length ≤ 20000000 := by
  obtain ⟨_, _, KD⟩ := may_parts hM
  have NE : m.E.length ≤ 1024 := by unfold mayM haveM at hM; simp only [Bool.and_eq_true, decide_eq_true_eq] at hM; exact hM.2.1.1
  have e1 := enc_len m.kind.toNat; have e2 := enc_len m.src.toNat; have e3 := enc_len m.dst.toNat
  have e4 := vbytes_len m.ack; have e5 := vbytes_len m.base; have e6 := vbytes_len m.floor
  have e7 := evsB_len m.E
  unfold mgB
  by_cases k2 : m.kind = 2
  · rw [if_pos k2]
    simp only [List.length_append]; omega
  rw [if_neg k2]
  by_cases k3 : m.kind = 3
  · rw [if_pos k3]
    have hcan : canB m.seen m.L = true := by rcases KD with h | h | ⟨_, h⟩ <;> first | exact h | omega
    have nS : (stB m.seen m.L).length ≤ 8700000 := by
      have h1 := vbytes_len m.seen; have h2 := enc_len m.L.length
      have h3 := wts_len m.L fun y hy => small_of ((can_iff.1 hcan).fine y hy).1
      have h4 := (can_iff.1 hcan).len
      unfold stB
      simp only [List.length_append]; omega
    simp only [List.length_append]; omega
  rw [if_neg k3]
  simp only [List.length_append, List.length_nil]; omega
/-- what wire.Encode answers -/
def EncR (w : World) (m : Mg) (e : Ending) (w' : World) : Prop :=
  (mayM m = true ∧ ∃ p c, e = .returned (.tuple #[.slice p (sealed (mgB m)).length c, .int .i64 0]) ∧ w'.ownsRow w.heap.size 5 1 (.slice p (sealed (mgB m)).length c) (sealed (mgB m)).length (bys (sealed (mgB m))) ∧ Below w.heap.size w w') ∨
  (mayM m = false ∧ e = .returned (.tuple #[.slice none 0 0, .int .i64 1]) ∧ Below w.heap.size w w')
set_option maxHeartbeats 8000000 in
theorem encode_is (m : Mg) (w : World) (hE : EvsAt w m.ep m.E) (hL : WrsAt w m.sp m.L) (hS : Shapes w) (hT : Table w) : Calls Tryd.prog 6 #[.agg m.cells.toArray] w (EncR w m) := by
  have HE := Lib.hid hE; have HW := Lib.hid hL; have HS := Lib.hid hS; have HT := Lib.hid hT
  clear hE hL hS hT
  have CK : Hid (∀ V : World, Below w.heap.size w V → Calls Tryd.prog 9 #[.agg m.cells.toArray] V (Check1 V (mayE m))) := Lib.hid fun V hV => wireCheck_is m V (HE.out.below hV) (HW.out.below hV) (HS.out.below hV)
  cases hM : mayM m with
  | false =>
    have e1 : mayE m = 1 := by unfold mayE; rw [if_neg (by rw [hM]; decide)]
    rw [e1] at CK
    have HM := Lib.hid hM
    clear hM e1
    go_enter Tryd.func6, Tryd.ntmps6
    go_wp2_with (refine wpList_gbox rfl _ rfl m.cells.toArray rfl ?_)
    intro g w1 l1 h1 hb1
    have X1 : Hid (Mx w1 g m) := Lib.hid h1
    have B1 := Lib.hid hb1
    have W1 := Lib.hid X1.out.whole
    clear h1 hb1
    go_wp2_with (refine wpList_gload rfl _ rfl g 0 rfl _ W1.out _ Tryd.underlying29 rfl (sizeMg m) ?_)
    refine (CK.out w1 B1.out).mono ?_
    rintro e w2 ⟨rfl, hb2⟩
    have B2 := Lib.hid (thenBelow B1.out hb2)
    clear hb2 CK X1 B1 W1
    go_wp2
    go_ret2
    exact .inr ⟨HM.out, rfl, B2.out⟩
  | true =>
    have e1 : mayE m = 0 := by unfold mayE; rw [if_pos hM]
    rw [e1] at CK
    have ML := mgB_len hM
    have WR : Hid (∀ V : World, Below w.heap.size w V → Calls Tryd.prog 17 #[.agg m.cells.toArray] V (RetOwn V 5 (mgB m))) := Lib.hid fun V hV => wireWritten_is m V hM (HE.out.below hV) (HW.out.below hV) (HS.out.below hV)
    have HM := Lib.hid hM
    clear hM e1
    obtain ⟨L, hL⟩ : ∃ X, mgB m = X := ⟨_, rfl⟩
    have HL := Lib.hid hL
    rw [hL] at ML WR
    clear hL
    go_enter Tryd.func6, Tryd.ntmps6
    go_wp2_with (refine wpList_gbox rfl _ rfl m.cells.toArray rfl ?_)
    intro g w1 l1 h1 hb1
    have X1 : Hid (Mx w1 g m) := Lib.hid h1
    have B1 := Lib.hid hb1
    have W1 := Lib.hid X1.out.whole
    clear h1 hb1
    go_wp2_with (refine wpList_gload rfl _ rfl g 0 rfl _ W1.out _ Tryd.underlying29 rfl (sizeMg m) ?_)
    refine (CK.out w1 B1.out).mono ?_
    rintro e w2 ⟨rfl, hb2⟩
    have X2 := Lib.hid (X1.out.later hb2); have B2 := Lib.hid (thenBelow B1.out hb2)
    have W2 := Lib.hid X2.out.whole
    clear hb2 CK X1 B1 W1
    go_wp2_with (refine wpList_gload rfl _ rfl g 0 rfl _ W2.out _ Tryd.underlying29 rfl (sizeMg m) ?_)
    refine (WR.out w2 B2.out).mono ?_
    intro e w3 hr3
    obtain ⟨p3, q3, rfl, g3, b3⟩ := hr3.given
    have B3 := Lib.hid (thenBelow B2.out b3); have G3 := Lib.hid g3
    clear hr3 g3 b3 WR X2 B2 W2
    go_wp2_with fail
    refine (seal_own p3 q3 L w3 G3.out.lies G3.out.none (HT.out.below B3.out) (by omega)).mono ?_
    intro e w4 hr4
    obtain ⟨v4, rfl, hO4, hB4⟩ := hr4.after B3.out
    obtain ⟨_, p4, q4, rfl, _, _, _, _⟩ := own_lies hO4
    have FO : Hid (EncR w m (.returned (.tuple #[.slice p4 (sealed L).length q4, .int .i64 0])) w4) := Lib.hid (.inl ⟨HM.out, p4, q4, by rw [HL.out], by rw [HL.out]; exact hO4, hB4⟩)
    clear hr4 hO4 hB4
    go_wp2
    go_ret2
    exact FO.out
end Go.Proofs.YtapbeokocfmlpaaDoor
/- wire.Decode of what is not read; wire.Same of two empty messages; the example. -/
namespace Go.Proofs.YtapbeokocfmlpaaDoor
open Go Go.RowKit
set_option linter.unusedVariables false
set_option maxRecDepth 1000000

/-- a message with nothing but its kind and where it goes -/
def Mg.bare (k a b : Int) : Mg := ⟨k, a, b, fun _ => 0, fun _ => 0, none, 0, [], fun _ => 0, none, 0, [], fun _ => 0⟩
theorem zeroMg (w : World) : (zeroValue 29).run Tryd.prog w = .ok (.agg (Mg.bare 0 0 0).cells.toArray) w := by kernel_rfl
theorem builtMg (w : World) : (Instr.build 29 #[]).run Tryd.prog w = .ok (.agg (Mg.bare 0 0 0).cells.toArray) w := run_build w _ _ _ (by kernel_rfl)
theorem builtMg1 (w : World) : (Instr.build 29 #[(0, .int .i64 1), (1, .int .i64 0), (2, .int .i64 1)]).run Tryd.prog w = .ok (.agg (Mg.bare 1 0 1).cells.toArray) w := run_build w _ _ _ (by kernel_rfl)
theorem sizeMgA (m : Mg) : (Tryd.prog.info? 29).map (·.size) = some m.cells.toArray.size := by rw [List.size_toArray]; exact sizeMg m
theorem Mg.one' (m : Mg) : ∀ u ∈ m.cells.toArray.toList, u.oneCell' = true := by simpa using m.cells_one

end Go.Proofs.YtapbeokocfmlpaaDoor
/- wire.Same of any two messages. -/
namespace Go.Proofs.YtapbeokocfmlpaaDoor
open Go Go.RowKit
set_option linter.unusedVariables false
set_option maxRecDepth 1000000

/-- are two messages the same? -/
structure Mg.Same (m x : Mg) : Prop where
  kind : m.kind = x.kind
  src : m.src = x.src
  dst : m.dst = x.dst
  ack : veq m.ack x.ack = true
  base : veq m.base x.base = true
  floor : veq m.floor x.floor = true
  evs : evs m.E = evs x.E
  st : sameB m.seen x.seen m.L x.L = true
set_option maxHeartbeats 16000000 in
theorem wireSameA_is (m x : Mg) (w : World) (hE : EvsAt w m.ep m.E) (hE2 : EvsAt w x.ep x.E) (hL : WrsAt w m.sp m.L) (hL2 : WrsAt w x.sp x.L) (hn : m.E.length ≤ 1000) (hn2 : x.E.length ≤ 1000) (hg : ∀ y ∈ m.E, y.e.gone.length ≤ 1000) (hg2 : ∀ y ∈ x.E, y.e.gone.length ≤ 1000) (hl : m.L.length ≤ 10000) :
    Calls Tryd.prog 11 #[.agg m.cells.toArray, .agg x.cells.toArray] w (Tells w (m.Same x)) := by
  have SE : Hid (∀ V : World, Below w.heap.size w V → Calls Tryd.prog 29 #[.slice m.ep m.E.length m.ec, .slice x.ep x.E.length x.ec] V (Tells V (evs m.E = evs x.E))) := Lib.hid fun V hV => sameE_is m.ep m.ec m.E x.ep x.ec x.E V (hE.below hV) (hE2.below hV) hn hn2 hg hg2
  have DS : Hid (∀ V : World, Below w.heap.size w V → Calls Tryd.prog 30 #[.agg (scs m.seen (.slice m.sp m.L.length m.sc)), .agg (scs x.seen (.slice x.sp x.L.length x.sc))] V (RetBool V (sameB m.seen x.seen m.L x.L))) := Lib.hid fun V hV => docSameA_is m.seen x.seen m.sp x.sp m.sc x.sc m.L x.L V (hL.below hV) (hL2.below hV) (by omega)
  obtain ⟨V4, q4⟩ : ∃ V, veq m.ack x.ack = V := ⟨_, rfl⟩
  obtain ⟨V5, q5⟩ : ∃ V, veq m.base x.base = V := ⟨_, rfl⟩
  obtain ⟨V6, q6⟩ : ∃ V, veq m.floor x.floor = V := ⟨_, rfl⟩
  have E1 : Hid (∀ U : World, (binOp .eql 23 (.agg (vf m.ack)) (.agg (vf x.ack))).run Tryd.prog U = .ok (.bool V4) U) := Lib.hid fun U => by rw [vecI.eql m.ack x.ack U, q4]
  have E2 : Hid (∀ U : World, (binOp .eql 23 (.agg (vf m.base)) (.agg (vf x.base))).run Tryd.prog U = .ok (.bool V5) U) := Lib.hid fun U => by rw [vecI.eql m.base x.base U, q5]
  have E3 : Hid (∀ U : World, (binOp .eql 23 (.agg (vf m.floor)) (.agg (vf x.floor))).run Tryd.prog U = .ok (.bool V6) U) := Lib.hid fun U => by rw [vecI.eql m.floor x.floor U, q6]
  have Q4 := Lib.hid q4; have Q5 := Lib.hid q5; have Q6 := Lib.hid q6
  clear q4 q5 q6 hE hE2 hL hL2 hg hg2
  go_enter Tryd.func11, Tryd.ntmps11
  go_wp2_with (refine wpList_gbox rfl _ rfl m.cells.toArray rfl ?_)
  intro g2 w1 l2 h2 hb1
  have X1 : Hid (Mx w1 g2 m) := Lib.hid h2
  have B1 := Lib.hid hb1
  clear h2 hb1
  go_wp2_with (refine wpList_gbox rfl _ rfl x.cells.toArray rfl ?_)
  intro g3 w2 l3 h3 hb2
  have X2 := Lib.hid (X1.out.later hb2); have Y2 : Hid (Mx w2 g3 x) := Lib.hid h3
  have B2 := Lib.hid (thenBelow B1.out hb2)
  clear h3 hb2 X1 B1
  have a1 := X2.out.parts.kind; have a2 := X2.out.parts.src; have a3 := X2.out.parts.dst
  have b1 := Y2.out.parts.kind; have b2 := Y2.out.parts.src; have b3 := Y2.out.parts.dst
  have a4 := Lib.hid X2.out.parts.ack; have b4 := Lib.hid Y2.out.parts.ack
  have a5 := Lib.hid X2.out.parts.base; have b5 := Lib.hid Y2.out.parts.base
  have a6 := Lib.hid X2.out.parts.floor; have b6 := Lib.hid Y2.out.parts.floor
  have a7 := X2.out.parts.evs; have b7 := Y2.out.parts.evs
  have E1' := E1.out; have E2' := E2.out; have E3' := E3.out
  by_cases h1 : ¬ m.kind = x.kind
  · have e1 : (m.kind == x.kind) = false := beq_eq_false_iff_ne.2 h1
    go_wp2
    go_ret
    exact ⟨false, rfl, ⟨(fun h => by cases h), fun h => absurd h.kind h1⟩, B2.out⟩
  have h1 : m.kind = x.kind := Decidable.not_not.1 h1
  have e1 : (m.kind == x.kind) = true := beq_iff_eq.2 h1
  by_cases h2 : ¬ m.src = x.src
  · have e2 : (m.src == x.src) = false := beq_eq_false_iff_ne.2 h2
    go_wp2
    go_ret
    exact ⟨false, rfl, ⟨(fun h => by cases h), fun h => absurd h.src h2⟩, B2.out⟩
  have h2 : m.src = x.src := Decidable.not_not.1 h2
  have e2 : (m.src == x.src) = true := beq_iff_eq.2 h2
  by_cases h3 : ¬ m.dst = x.dst
  · have e3 : (m.dst == x.dst) = false := beq_eq_false_iff_ne.2 h3
    go_wp2
    go_ret
    exact ⟨false, rfl, ⟨(fun h => by cases h), fun h => absurd h.dst h3⟩, B2.out⟩
  have h3 : m.dst = x.dst := Decidable.not_not.1 h3
  have e3 : (m.dst == x.dst) = true := beq_iff_eq.2 h3
  have H123 := Lib.hid (And.intro h1 (And.intro h2 h3))
  clear h1 h2 h3
  cases V4 with
  | false =>
    go_wp2_with (first
      | refine wpList_gloadG (by rfl) _ rfl g2 3 rfl _ a4.out _ Tryd.underlying23 rfl (sizeVcl m.ack) ?_
      | refine wpList_gloadG (by rfl) _ rfl g3 3 rfl _ b4.out _ Tryd.underlying23 rfl (sizeVcl x.ack) ?_
      | refine wpList_gloadG (by rfl) _ rfl g2 67 rfl _ a5.out _ Tryd.underlying23 rfl (sizeVcl m.base) ?_
      | refine wpList_gloadG (by rfl) _ rfl g3 67 rfl _ b5.out _ Tryd.underlying23 rfl (sizeVcl x.base) ?_
      | refine wpList_gloadG (by rfl) _ rfl g2 197 rfl _ a6.out _ Tryd.underlying23 rfl (sizeVcl m.floor) ?_
      | refine wpList_gloadG (by rfl) _ rfl g3 197 rfl _ b6.out _ Tryd.underlying23 rfl (sizeVcl x.floor) ?_)
    go_ret
    exact ⟨false, rfl, ⟨(fun h => by cases h), fun h => by have := h.ack; rw [Q4.out] at this; cases this⟩, B2.out⟩
  | true =>
  cases V5 with
  | false =>
    go_wp2_with (first
      | refine wpList_gloadG (by rfl) _ rfl g2 3 rfl _ a4.out _ Tryd.underlying23 rfl (sizeVcl m.ack) ?_
      | refine wpList_gloadG (by rfl) _ rfl g3 3 rfl _ b4.out _ Tryd.underlying23 rfl (sizeVcl x.ack) ?_
      | refine wpList_gloadG (by rfl) _ rfl g2 67 rfl _ a5.out _ Tryd.underlying23 rfl (sizeVcl m.base) ?_
      | refine wpList_gloadG (by rfl) _ rfl g3 67 rfl _ b5.out _ Tryd.underlying23 rfl (sizeVcl x.base) ?_
      | refine wpList_gloadG (by rfl) _ rfl g2 197 rfl _ a6.out _ Tryd.underlying23 rfl (sizeVcl m.floor) ?_
      | refine wpList_gloadG (by rfl) _ rfl g3 197 rfl _ b6.out _ Tryd.underlying23 rfl (sizeVcl x.floor) ?_)
    go_ret
    exact ⟨false, rfl, ⟨(fun h => by cases h), fun h => by have := h.base; rw [Q5.out] at this; cases this⟩, B2.out⟩
  | true =>
  cases V6 with
  | false =>
    go_wp2_with (first
      | refine wpList_gloadG (by rfl) _ rfl g2 3 rfl _ a4.out _ Tryd.underlying23 rfl (sizeVcl m.ack) ?_
      | refine wpList_gloadG (by rfl) _ rfl g3 3 rfl _ b4.out _ Tryd.underlying23 rfl (sizeVcl x.ack) ?_
      | refine wpList_gloadG (by rfl) _ rfl g2 67 rfl _ a5.out _ Tryd.underlying23 rfl (sizeVcl m.base) ?_
      | refine wpList_gloadG (by rfl) _ rfl g3 67 rfl _ b5.out _ Tryd.underlying23 rfl (sizeVcl x.base) ?_
      | refine wpList_gloadG (by rfl) _ rfl g2 197 rfl _ a6.out _ Tryd.underlying23 rfl (sizeVcl m.floor) ?_
      | refine wpList_gloadG (by rfl) _ rfl g3 197 rfl _ b6.out _ Tryd.underlying23 rfl (sizeVcl x.floor) ?_)
    go_ret
    exact ⟨false, rfl, ⟨(fun h => by cases h), fun h => by have := h.floor; rw [Q6.out] at this; cases this⟩, B2.out⟩
  | true =>
  go_wp2_with (first
    | refine wpList_gloadG (by rfl) _ rfl g2 3 rfl _ a4.out _ Tryd.underlying23 rfl (sizeVcl m.ack) ?_
    | refine wpList_gloadG (by rfl) _ rfl g3 3 rfl _ b4.out _ Tryd.underlying23 rfl (sizeVcl x.ack) ?_
    | refine wpList_gloadG (by rfl) _ rfl g2 67 rfl _ a5.out _ Tryd.underlying23 rfl (sizeVcl m.base) ?_
    | refine wpList_gloadG (by rfl) _ rfl g3 67 rfl _ b5.out _ Tryd.underlying23 rfl (sizeVcl x.base) ?_
    | refine wpList_gloadG (by rfl) _ rfl g2 197 rfl _ a6.out _ Tryd.underlying23 rfl (sizeVcl m.floor) ?_
    | refine wpList_gloadG (by rfl) _ rfl g3 197 rfl _ b6.out _ Tryd.underlying23 rfl (sizeVcl x.floor) ?_)
  refine (SE.out w2 B2.out).mono ?_
  rintro e w3 ⟨b, rfl, hb, hb3⟩
  have X3 := Lib.hid (X2.out.later hb3); have Y3 := Lib.hid (Y2.out.later hb3); have B3 := Lib.hid (thenBelow B2.out hb3)
  have HB := Lib.hid hb
  have a8 : Hid (w3.rangeAt g2 132 (scs m.seen (.slice m.sp m.L.length m.sc)).toList) := Lib.hid X3.out.parts.st
  have b8 : Hid (w3.rangeAt g3 132 (scs x.seen (.slice x.sp x.L.length x.sc)).toList) := Lib.hid Y3.out.parts.st
  clear hb3 hb X2 Y2 B2 a1 a2 a3 b1 b2 b3 a4 b4 a5 b5 a6 b6 a7 b7 E1' E2' E3' E1 E2 E3 SE e1 e2 e3
  cases b with
  | false =>
    go_wp2
    go_ret
    exact ⟨false, rfl, ⟨(fun h => by cases h), fun h => absurd (HB.out.2 h.evs) (by decide)⟩, B3.out⟩
  | true =>
  go_wp2_with (first
    | refine wpList_gloadG (by rfl) _ rfl g2 132 rfl _ a8.out _ Tryd.underlying27 rfl (sizeStl _ _) ?_
    | refine wpList_gloadG (by rfl) _ rfl g3 132 rfl _ b8.out _ Tryd.underlying27 rfl (sizeStl _ _) ?_)
  refine (DS.out w3 B3.out).mono ?_
  rintro e w4 ⟨rfl, hb4⟩
  have B4 := Lib.hid (thenBelow B3.out hb4)
  clear hb4 DS a8 b8
  obtain ⟨Z, hZ⟩ : ∃ Z, sameB m.seen x.seen m.L x.L = Z := ⟨_, rfl⟩
  have HZ := Lib.hid hZ
  rw [hZ]
  clear hZ
  go_wp2
  go_ret
  exact ⟨Z, rfl, ⟨fun h => ⟨H123.out.1, H123.out.2.1, H123.out.2.2, Q4.out, Q5.out, Q6.out, HB.out.1 trivial, by rw [HZ.out]; exact h⟩, fun h => by rw [← HZ.out]; exact h.st⟩, B4.out⟩
end Go.Proofs.YtapbeokocfmlpaaDoor
/- The document's Same of any two messages. -/
namespace Go.Proofs.YtapbeokocfmlpaaDoor
open Go Go.RowKit
set_option linter.unusedVariables false
set_option maxRecDepth 1000000

set_option maxHeartbeats 16000000 in
theorem refSame14_is (m x : Mg) (w : World) (hE : EvsAt w m.ep m.E) (hE2 : EvsAt w x.ep x.E) (hL : WrsAt w m.sp m.L) (hL2 : WrsAt w x.sp x.L) (hn : m.E.length ≤ 1000) (hn2 : x.E.length ≤ 1000) (hg : ∀ y ∈ m.E, y.e.gone.length ≤ 1000) (hg2 : ∀ y ∈ x.E, y.e.gone.length ≤ 1000) (hl : m.L.length ≤ 10000) :
    Calls Tryd.prog 12 #[.agg m.cells.toArray, .agg x.cells.toArray] w (Tells w (m.Same x)) := by
  have SE : Hid (∀ V : World, Below w.heap.size w V → Calls Tryd.prog 32 #[.slice m.ep m.E.length m.ec, .slice x.ep x.E.length x.ec] V (Tells V (evs m.E = evs x.E))) := Lib.hid fun V hV => refSameX_is m.ep m.ec m.E x.ep x.ec x.E V (hE.below hV) (hE2.below hV) hn hn2 hg hg2
  have DS : Hid (∀ V : World, Below w.heap.size w V → Calls Tryd.prog 31 #[.agg (scs m.seen (.slice m.sp m.L.length m.sc)), .agg (scs x.seen (.slice x.sp x.L.length x.sc))] V (RetBool V (sameB m.seen x.seen m.L x.L))) := Lib.hid fun V hV => sameSA_is m.seen x.seen m.sp x.sp m.sc x.sc m.L x.L V (hL.below hV) (hL2.below hV) (by omega)
  obtain ⟨V4, q4⟩ : ∃ V, veq m.ack x.ack = V := ⟨_, rfl⟩
  obtain ⟨V5, q5⟩ : ∃ V, veq m.base x.base = V := ⟨_, rfl⟩
  obtain ⟨V6, q6⟩ : ∃ V, veq m.floor x.floor = V := ⟨_, rfl⟩
  have E1 : Hid (∀ U : World, (binOp .eql 23 (.agg (vf m.ack)) (.agg (vf x.ack))).run Tryd.prog U = .ok (.bool V4) U) := Lib.hid fun U => by rw [vecI.eql m.ack x.ack U, q4]
  have E2 : Hid (∀ U : World, (binOp .eql 23 (.agg (vf m.base)) (.agg (vf x.base))).run Tryd.prog U = .ok (.bool V5) U) := Lib.hid fun U => by rw [vecI.eql m.base x.base U, q5]
  have E3 : Hid (∀ U : World, (binOp .eql 23 (.agg (vf m.floor)) (.agg (vf x.floor))).run Tryd.prog U = .ok (.bool V6) U) := Lib.hid fun U => by rw [vecI.eql m.floor x.floor U, q6]
  have Q4 := Lib.hid q4; have Q5 := Lib.hid q5; have Q6 := Lib.hid q6
  clear q4 q5 q6 hE hE2 hL hL2 hg hg2
  go_enter Tryd.func12, Tryd.ntmps12
  go_wp2_with (refine wpList_gbox rfl _ rfl m.cells.toArray rfl ?_)
  intro g2 w1 l2 h2 hb1
  have X1 : Hid (Mx w1 g2 m) := Lib.hid h2
  have B1 := Lib.hid hb1
  clear h2 hb1
  go_wp2_with (refine wpList_gbox rfl _ rfl x.cells.toArray rfl ?_)
  intro g3 w2 l3 h3 hb2
  have X2 := Lib.hid (X1.out.later hb2); have Y2 : Hid (Mx w2 g3 x) := Lib.hid h3
  have B2 := Lib.hid (thenBelow B1.out hb2)
  clear h3 hb2 X1 B1
  have a1 := X2.out.parts.kind; have a2 := X2.out.parts.src; have a3 := X2.out.parts.dst
  have b1 := Y2.out.parts.kind; have b2 := Y2.out.parts.src; have b3 := Y2.out.parts.dst
  have a4 := Lib.hid X2.out.parts.ack; have b4 := Lib.hid Y2.out.parts.ack
  have a5 := Lib.hid X2.out.parts.base; have b5 := Lib.hid Y2.out.parts.base
  have a6 := Lib.hid X2.out.parts.floor; have b6 := Lib.hid Y2.out.parts.floor
  have a7 := X2.out.parts.evs; have b7 := Y2.out.parts.evs
  have E1' := E1.out; have E2' := E2.out; have E3' := E3.out
  by_cases h1 : ¬ m.kind = x.kind
  · have e1 : (m.kind == x.kind) = false := beq_eq_false_iff_ne.2 h1
    go_wp2
    go_ret
    exact ⟨false, rfl, ⟨(fun h => by cases h), fun h => absurd h.kind h1⟩, B2.out⟩
  have h1 : m.kind = x.kind := Decidable.not_not.1 h1
  have e1 : (m.kind == x.kind) = true := beq_iff_eq.2 h1
  by_cases h2 : ¬ m.src = x.src
  · have e2 : (m.src == x.src) = false := beq_eq_false_iff_ne.2 h2
    go_wp2
    go_ret
    exact ⟨false, rfl, ⟨(fun h => by cases h), fun h => absurd h.src h2⟩, B2.out⟩
  have h2 : m.src = x.src := Decidable.not_not.1 h2
  have e2 : (m.src == x.src) = true := beq_iff_eq.2 h2
  by_cases h3 : ¬ m.dst = x.dst
  · have e3 : (m.dst == x.dst) = false := beq_eq_false_iff_ne.2 h3
    go_wp2
    go_ret
    exact ⟨false, rfl, ⟨(fun h => by cases h), fun h => absurd h.dst h3⟩, B2.out⟩
  have h3 : m.dst = x.dst := Decidable.not_not.1 h3
  have e3 : (m.dst == x.dst) = true := beq_iff_eq.2 h3
  have H123 := Lib.hid (And.intro h1 (And.intro h2 h3))
  clear h1 h2 h3
  cases V4 with
  | false =>
    go_wp2_with (first
      | refine wpList_gloadG (by rfl) _ rfl g2 3 rfl _ a4.out _ Tryd.underlying23 rfl (sizeVcl m.ack) ?_
      | refine wpList_gloadG (by rfl) _ rfl g3 3 rfl _ b4.out _ Tryd.underlying23 rfl (sizeVcl x.ack) ?_
      | refine wpList_gloadG (by rfl) _ rfl g2 67 rfl _ a5.out _ Tryd.underlying23 rfl (sizeVcl m.base) ?_
      | refine wpList_gloadG (by rfl) _ rfl g3 67 rfl _ b5.out _ Tryd.underlying23 rfl (sizeVcl x.base) ?_
      | refine wpList_gloadG (by rfl) _ rfl g2 197 rfl _ a6.out _ Tryd.underlying23 rfl (sizeVcl m.floor) ?_
      | refine wpList_gloadG (by rfl) _ rfl g3 197 rfl _ b6.out _ Tryd.underlying23 rfl (sizeVcl x.floor) ?_)
    go_ret
    exact ⟨false, rfl, ⟨(fun h => by cases h), fun h => by have := h.ack; rw [Q4.out] at this; cases this⟩, B2.out⟩
  | true =>
  cases V5 with
  | false =>
    go_wp2_with (first
      | refine wpList_gloadG (by rfl) _ rfl g2 3 rfl _ a4.out _ Tryd.underlying23 rfl (sizeVcl m.ack) ?_
      | refine wpList_gloadG (by rfl) _ rfl g3 3 rfl _ b4.out _ Tryd.underlying23 rfl (sizeVcl x.ack) ?_
      | refine wpList_gloadG (by rfl) _ rfl g2 67 rfl _ a5.out _ Tryd.underlying23 rfl (sizeVcl m.base) ?_
      | refine wpList_gloadG (by rfl) _ rfl g3 67 rfl _ b5.out _ Tryd.underlying23 rfl (sizeVcl x.base) ?_
      | refine wpList_gloadG (by rfl) _ rfl g2 197 rfl _ a6.out _ Tryd.underlying23 rfl (sizeVcl m.floor) ?_
      | refine wpList_gloadG (by rfl) _ rfl g3 197 rfl _ b6.out _ Tryd.underlying23 rfl (sizeVcl x.floor) ?_)
    go_ret
    exact ⟨false, rfl, ⟨(fun h => by cases h), fun h => by have := h.base; rw [Q5.out] at this; cases this⟩, B2.out⟩
  | true =>
  cases V6 with
  | false =>
    go_wp2_with (first
      | refine wpList_gloadG (by rfl) _ rfl g2 3 rfl _ a4.out _ Tryd.underlying23 rfl (sizeVcl m.ack) ?_
      | refine wpList_gloadG (by rfl) _ rfl g3 3 rfl _ b4.out _ Tryd.underlying23 rfl (sizeVcl x.ack) ?_
      | refine wpList_gloadG (by rfl) _ rfl g2 67 rfl _ a5.out _ Tryd.underlying23 rfl (sizeVcl m.base) ?_
      | refine wpList_gloadG (by rfl) _ rfl g3 67 rfl _ b5.out _ Tryd.underlying23 rfl (sizeVcl x.base) ?_
      | refine wpList_gloadG (by rfl) _ rfl g2 197 rfl _ a6.out _ Tryd.underlying23 rfl (sizeVcl m.floor) ?_
      | refine wpList_gloadG (by rfl) _ rfl g3 197 rfl _ b6.out _ Tryd.underlying23 rfl (sizeVcl x.floor) ?_)
    go_ret
    exact ⟨false, rfl, ⟨(fun h => by cases h), fun h => by have := h.floor; rw [Q6.out] at this; cases this⟩, B2.out⟩
  | true =>
  have a8 : Hid (w2.rangeAt g2 132 (scs m.seen (.slice m.sp m.L.length m.sc)).toList) := Lib.hid X2.out.parts.st
  have b8 : Hid (w2.rangeAt g3 132 (scs x.seen (.slice x.sp x.L.length x.sc)).toList) := Lib.hid Y2.out.parts.st
  go_wp2_with (first
    | refine wpList_gloadG (by rfl) _ rfl g2 3 rfl _ a4.out _ Tryd.underlying23 rfl (sizeVcl m.ack) ?_
    | refine wpList_gloadG (by rfl) _ rfl g3 3 rfl _ b4.out _ Tryd.underlying23 rfl (sizeVcl x.ack) ?_
    | refine wpList_gloadG (by rfl) _ rfl g2 67 rfl _ a5.out _ Tryd.underlying23 rfl (sizeVcl m.base) ?_
    | refine wpList_gloadG (by rfl) _ rfl g3 67 rfl _ b5.out _ Tryd.underlying23 rfl (sizeVcl x.base) ?_
    | refine wpList_gloadG (by rfl) _ rfl g2 197 rfl _ a6.out _ Tryd.underlying23 rfl (sizeVcl m.floor) ?_
    | refine wpList_gloadG (by rfl) _ rfl g3 197 rfl _ b6.out _ Tryd.underlying23 rfl (sizeVcl x.floor) ?_
    | refine wpList_gloadG (by rfl) _ rfl g2 132 rfl _ a8.out _ Tryd.underlying27 rfl (sizeStl _ _) ?_
    | refine wpList_gloadG (by rfl) _ rfl g3 132 rfl _ b8.out _ Tryd.underlying27 rfl (sizeStl _ _) ?_)
  refine (DS.out w2 B2.out).mono ?_
  rintro e w3 ⟨rfl, hb3⟩
  have X3 := Lib.hid (X2.out.later hb3); have Y3 := Lib.hid (Y2.out.later hb3); have B3 := Lib.hid (thenBelow B2.out hb3)
  obtain ⟨Z, hZ⟩ : ∃ Z, sameB m.seen x.seen m.L x.L = Z := ⟨_, rfl⟩
  have HZ := Lib.hid hZ
  rw [hZ]
  have a9 := X3.out.parts.evs; have b9 := Y3.out.parts.evs
  clear hb3 hZ X2 Y2 B2 a1 a2 a3 b1 b2 b3 a4 b4 a5 b5 a6 b6 a7 b7 a8 b8 E1' E2' E3' E1 E2 E3 DS e1 e2 e3
  cases Z with
  | false =>
    clear a9 b9
    go_wp2
    go_ret
    exact ⟨false, rfl, ⟨(fun h => by cases h), fun h => by have := h.st; rw [HZ.out] at this; cases this⟩, B3.out⟩
  | true =>
  go_wp2_with fail
  refine (SE.out w3 B3.out).mono ?_
  rintro e w4 ⟨b, rfl, hb, hb4⟩
  have B4 := Lib.hid (thenBelow B3.out hb4)
  have HB := Lib.hid hb
  clear hb4 hb SE a9 b9
  go_wp2
  go_ret
  exact ⟨b, rfl, ⟨fun h => ⟨H123.out.1, H123.out.2.1, H123.out.2.2, Q4.out, Q5.out, Q6.out, HB.out.1 h, HZ.out⟩, fun h => HB.out.2 h.evs⟩, B4.out⟩
end Go.Proofs.YtapbeokocfmlpaaDoor
/- wire.Same of two messages that are the same. -/
namespace Go.Proofs.YtapbeokocfmlpaaDoor
open Go Go.RowKit
set_option linter.unusedVariables false
set_option maxRecDepth 1000000

theorem evs_nil (w : World) (p : Option Addr) : EvsAt w p [] := ⟨fun h => absurd rfl h, fun x h => absurd h (List.not_mem_nil), fun _ => rfl⟩
theorem good0 : goodB (fun _ => 0) = true := by decide +kernel
/-- two messages that are the same -/
structure Mg.Eq (m x : Mg) : Prop where
  kind : x.kind = m.kind
  src : x.src = m.src
  dst : x.dst = m.dst
  ack : veq m.ack x.ack = true
  base : veq m.base x.base = true
  floor : veq m.floor x.floor = true
  evs : evs m.E = evs x.E
  seen : veq m.seen x.seen = true
  live : x.L = m.L
set_option maxHeartbeats 16000000 in
theorem wireSame_is (m x : Mg) (w : World) (hq : m.Eq x) (hE : EvsAt w m.ep m.E) (hE2 : EvsAt w x.ep x.E) (hL : WrsAt w m.sp m.L) (hL2 : WrsAt w x.sp x.L) (hn : m.E.length ≤ 1000) (hn2 : x.E.length ≤ 1000) (hg : ∀ y ∈ m.E, y.e.gone.length ≤ 1000) (hg2 : ∀ y ∈ x.E, y.e.gone.length ≤ 1000) (hl : m.L.length ≤ 10000) :
    Calls Tryd.prog 11 #[.agg m.cells.toArray, .agg x.cells.toArray] w (Yes w) := by
  obtain ⟨q1, q2, q3, q4, q5, q6, q7, q8, q9⟩ := hq
  have SE : Hid (∀ V : World, Below w.heap.size w V → Calls Tryd.prog 29 #[.slice m.ep m.E.length m.ec, .slice x.ep x.E.length x.ec] V (Yes V)) := Lib.hid fun V hV => (sameE_is m.ep m.ec m.E x.ep x.ec x.E V (hE.below hV) (hE2.below hV) hn hn2 hg hg2).mono fun e w' h => by
    obtain ⟨b, a, hb, c⟩ := h
    obtain rfl : b = true := hb.2 q7
    exact ⟨a, c⟩
  have DS : Hid (∀ V : World, Below w.heap.size w V → Calls Tryd.prog 30 #[.agg (scs m.seen (.slice m.sp m.L.length m.sc)), .agg (scs x.seen (.slice x.sp x.L.length x.sc))] V (Yes V)) := Lib.hid fun V hV => by
    have h2 := hL2.below hV
    rw [q9] at h2 ⊢
    exact docSame_is m.seen x.seen q8 m.sp x.sp m.sc x.sc m.L V (hL.below hV) h2 hl
  have E1 : Hid (∀ U : World, (binOp .eql 23 (.agg (vf m.ack)) (.agg (vf x.ack))).run Tryd.prog U = .ok (.bool true) U) := Lib.hid fun U => by rw [vecI.eql m.ack x.ack U, q4]
  have E2 : Hid (∀ U : World, (binOp .eql 23 (.agg (vf m.base)) (.agg (vf x.base))).run Tryd.prog U = .ok (.bool true) U) := Lib.hid fun U => by rw [vecI.eql m.base x.base U, q5]
  have E3 : Hid (∀ U : World, (binOp .eql 23 (.agg (vf m.floor)) (.agg (vf x.floor))).run Tryd.prog U = .ok (.bool true) U) := Lib.hid fun U => by rw [vecI.eql m.floor x.floor U, q6]
  have Q1 := Lib.hid q1; have Q2 := Lib.hid q2; have Q3 := Lib.hid q3
  clear q1 q2 q3 q4 q5 q6 q7 q8 q9 hE hE2 hL hL2 hg hg2
  go_enter Tryd.func11, Tryd.ntmps11
  go_wp2_with (refine wpList_gbox rfl _ rfl m.cells.toArray rfl ?_)
  intro g2 w1 l2 h2 hb1
  have X1 : Hid (Mx w1 g2 m) := Lib.hid h2
  have B1 := Lib.hid hb1
  clear h2 hb1
  go_wp2_with (refine wpList_gbox rfl _ rfl x.cells.toArray rfl ?_)
  intro g3 w2 l3 h3 hb2
  have X2 := Lib.hid (X1.out.later hb2); have Y2 : Hid (Mx w2 g3 x) := Lib.hid h3
  have B2 := Lib.hid (thenBelow B1.out hb2)
  clear h3 hb2 X1 B1
  have a1 := X2.out.parts.kind; have a2 := X2.out.parts.src; have a3 := X2.out.parts.dst
  have b1 := Y2.out.parts.kind; have b2 := Y2.out.parts.src; have b3 := Y2.out.parts.dst
  rw [Q1.out] at b1; rw [Q2.out] at b2; rw [Q3.out] at b3
  have a4 := Lib.hid X2.out.parts.ack; have b4 := Lib.hid Y2.out.parts.ack
  have a5 := Lib.hid X2.out.parts.base; have b5 := Lib.hid Y2.out.parts.base
  have a6 := Lib.hid X2.out.parts.floor; have b6 := Lib.hid Y2.out.parts.floor
  have a7 := X2.out.parts.evs; have b7 := Y2.out.parts.evs
  have E1' := E1.out; have E2' := E2.out; have E3' := E3.out
  go_wp2_with (first
    | refine wpList_gloadG (by rfl) _ rfl g2 3 rfl _ a4.out _ Tryd.underlying23 rfl (sizeVcl m.ack) ?_
    | refine wpList_gloadG (by rfl) _ rfl g3 3 rfl _ b4.out _ Tryd.underlying23 rfl (sizeVcl x.ack) ?_
    | refine wpList_gloadG (by rfl) _ rfl g2 67 rfl _ a5.out _ Tryd.underlying23 rfl (sizeVcl m.base) ?_
    | refine wpList_gloadG (by rfl) _ rfl g3 67 rfl _ b5.out _ Tryd.underlying23 rfl (sizeVcl x.base) ?_
    | refine wpList_gloadG (by rfl) _ rfl g2 197 rfl _ a6.out _ Tryd.underlying23 rfl (sizeVcl m.floor) ?_
    | refine wpList_gloadG (by rfl) _ rfl g3 197 rfl _ b6.out _ Tryd.underlying23 rfl (sizeVcl x.floor) ?_)
  refine (SE.out w2 B2.out).mono ?_
  rintro e w3 ⟨rfl, hb3⟩
  have X3 := Lib.hid (X2.out.later hb3); have Y3 := Lib.hid (Y2.out.later hb3); have B3 := Lib.hid (thenBelow B2.out hb3)
  have a8 : Hid (w3.rangeAt g2 132 (scs m.seen (.slice m.sp m.L.length m.sc)).toList) := Lib.hid X3.out.parts.st
  have b8 : Hid (w3.rangeAt g3 132 (scs x.seen (.slice x.sp x.L.length x.sc)).toList) := Lib.hid Y3.out.parts.st
  clear hb3 X2 Y2 B2 a1 a2 a3 b1 b2 b3 a4 b4 a5 b5 a6 b6 a7 b7 E1' E2' E3' E1 E2 E3 SE
  go_wp2_with (first
    | refine wpList_gloadG (by rfl) _ rfl g2 132 rfl _ a8.out _ Tryd.underlying27 rfl (sizeStl _ _) ?_
    | refine wpList_gloadG (by rfl) _ rfl g3 132 rfl _ b8.out _ Tryd.underlying27 rfl (sizeStl _ _) ?_)
  refine (DS.out w3 B3.out).mono ?_
  rintro e w4 ⟨rfl, hb4⟩
  have B4 := Lib.hid (thenBelow B3.out hb4)
  clear hb4 DS a8 b8
  go_wp2
  go_ret
  exact ⟨rfl, B4.out⟩
end Go.Proofs.YtapbeokocfmlpaaDoor
/- The example that each law of layer 14 ends with. -/
namespace Go.Proofs.YtapbeokocfmlpaaDoor
open Go Go.RowKit
set_option linter.unusedVariables false
set_option maxRecDepth 1000000

theorem veq0 : veq (fun _ => 0) (fun _ => 0) = true := veq_self _
theorem may_bare : mayM (Mg.bare 1 0 1) = true := by
  have h1 : goM (Mg.bare 1 0 1) = true := by
    unfold goM Mg.bare
    simp only [good0]
    decide
  have h2 : haveM (Mg.bare 1 0 1) = true := by unfold haveM Mg.bare; rfl
  have h3 : kindM (Mg.bare 1 0 1) = true := by
    unfold kindM noBaseM noFullM noState Mg.bare
    simp only [veq0]
    rfl
  unfold mayM
  rw [h1, h2, h3]; rfl
theorem vbytes0 : vbytes (fun _ => 0) = [0] := by decide +kernel
theorem bytes_bare : mgB (Mg.bare 1 0 1) = [1, 0, 1, 0] := by
  unfold mgB Mg.bare
  simp only [vbytes0]
  rfl
set_option maxHeartbeats 8000000 in
theorem awake14 (w : World) (hS : Shapes w) (hT : Table w) : Calls Tryd.prog 5 #[] w (Yes w) := by
  have HS := Lib.hid hS; have HT := Lib.hid hT
  clear hS hT
  have EN := Lib.hid (encode_is (Mg.bare 1 0 1) w (evs_nil _ _) (wrs_nil _ _) HS.out HT.out)
  go_enter Tryd.func5, Tryd.ntmps5
  go_wp2_with (refine wpList_pbuild (by rfl) _ rfl (Mg.bare 1 0 1).cells.toArray (by simp only [List.map_toArray, List.map_cons, List.map_nil]; exact builtMg1 _) ?_)
  refine EN.out.mono ?_
  intro e w2 hr
  rcases hr with ⟨_, p2, c2, rfl, ho2, hb2⟩ | ⟨hf, _⟩
  · rw [bytes_bare] at ho2 ⊢
    have B2 := Lib.hid hb2
    obtain ⟨_, p', c', hv, _, _, lies2, _⟩ := own_lies ho2
    simp only [Value.slice.injEq] at hv
    obtain ⟨rfl, -, rfl⟩ := hv
    have L2 := Lib.hid lies2
    clear ho2 hb2 EN lies2
    obtain ⟨LS, hLS⟩ : ∃ X, sealed [1, 0, 1, 0] = X := ⟨_, rfl⟩
    have NS : LS.length = 8 := by rw [← hLS]; rfl
    rw [hLS] at L2 ⊢
    have HLS := Lib.hid hLS
    clear hLS
    go_wp2_with fail
    refine (seal2_any _ _ [1, 0, 1, 0] _ (lies_lit _ _ _ [1, 0, 1, 0] _ rfl) (fun e => by cases e) (by decide)).mono ?_
    rw [HLS.out]
    rintro e w3 hr3
    obtain ⟨p3, c3, rfl, le3, _, n3, lies3, b3⟩ := hr3
    have al : Below w2.heap.size w2 (w2.alloc (.cells (bys [1, 0, 1, 0]).toArray 5)) := (Below.refl _ _).alloc (Nat.le_refl _) _
    have B3 := Lib.hid (thenBelow (thenBelow B2.out al) b3)
    have L3 := Lib.hid (L2.out.below (thenBelow al b3))
    have M3 := Lib.hid lies3
    clear al b3 lies3
    go_wp2_with fail
    refine (equal_any p2 p3 8 8 c2 c3 LS LS w3 L3.out M3.out NS.symm NS.symm).mono ?_
    rintro e w' ⟨rfl, rfl⟩
    have hbe : (LS == LS) = true := beq_self_eq_true _
    rw [hbe]
    go_wp2
    go_ret
    exact ⟨rfl, B3.out⟩
  · rw [may_bare] at hf; cases hf
end Go.Proofs.YtapbeokocfmlpaaDoor
