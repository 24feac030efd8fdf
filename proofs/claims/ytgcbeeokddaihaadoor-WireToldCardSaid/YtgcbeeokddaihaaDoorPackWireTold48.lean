/- The statement WireTold, proved for every input that its row reads: part 48 of 54. -/
import Derived.Test.YtgcbeeokddaihaaDoorPackWireTold47
import Derived.Test.YtgcbeeokddaihaaDoorPackWireTold16
import Derived.Test.YtgcbeeokddaihaaDoorPackWireTold18
import Derived.Test.YtgcbeeokddaihaaDoorPackWireTold21
import Derived.Test.YtgcbeeokddaihaaDoorPackWireTold32
/- wire.Encode: a message's bytes, sealed. -/
namespace Go.Proofs.YtgcbeeokddaihaaDoor
open Go Go.RowKit
set_option linter.unusedVariables false
set_option maxRecDepth 1000000

theorem mgB_len {m : Mg} (hM : mayM m = true) : (mgB m).length ≤ 20000000 := by
  obtain ⟨_, _, KD⟩ := may_parts hM
  have NE : m.E.length ≤ 1024 := by unfold mayM haveM at hM; simp only [Bool.and_eq_true, decide_eq_true_eq] at hM; exact hM.2.1.1
  have e1 := enc_len m.kind.toNat; have e2 := enc_len m.src.toNat; have e3 := enc_len m.dst.toNat
  have e4 := vbytes_len m.ack; have e5 := vbytes_len m.base; have e6 := vbytes_len m.floor
  have e7 := evsB_len m.E
  unfold mgB
  by_cases k2 : m.kind = 2
  · rw [if_pos k2]
    simp only [List.length_append]; omega
  rw [if_neg k2]
  by_cases k3 : m.kind = 3
  · rw [if_pos k3]
    have hcan : canB m.seen m.L = true := by rcases KD with h | h | ⟨_, h⟩ <;> first | exact h | omega
    have nS : (stB m.seen m.L).length ≤ 8700000 := by
      have h1 := vbytes_len m.seen; have h2 := enc_len m.L.length
      have h3 := wts_len m.L fun y hy => small_of ((can_iff.1 hcan).fine y hy).1
      have h4 := (can_iff.1 hcan).len
      unfold stB
      simp only [List.length_append]; omega
    simp only [List.length_append]; omega
  rw [if_neg k3]
  simp only [List.length_append, List.length_nil]; omega
/-- what wire.Encode answers -/
def EncR (w : World) (m : Mg) (e : Ending) (w' : World) : Prop :=
  (mayM m = true ∧ ∃ p c, e = .returned (.tuple #[.slice p (sealed (mgB m)).length c, .int .i64 0]) ∧ w'.ownsRow w.heap.size 5 1 (.slice p (sealed (mgB m)).length c) (sealed (mgB m)).length (bys (sealed (mgB m))) ∧ Below w.heap.size w w') ∨
  (mayM m = false ∧ e = .returned (.tuple #[.slice none 0 0, .int .i64 1]) ∧ Below w.heap.size w w')
set_option maxHeartbeats 8000000 in
theorem encode_is (m : Mg) (w : World) (hE : EvsAt w m.ep m.E) (hL : WrsAt w m.sp m.L) (hS : Shapes w) (hT : Table w) : Calls Tryd.prog 7 #[.agg m.cells.toArray] w (EncR w m) := by
  have HE := Lib.hid hE; have HW := Lib.hid hL; have HS := Lib.hid hS; have HT := Lib.hid hT
  clear hE hL hS hT
  have CK : Hid (∀ V : World, Below w.heap.size w V → Calls Tryd.prog 14 #[.agg m.cells.toArray] V (Check1 V (mayE m))) := Lib.hid fun V hV => wireCheck_is m V (HE.out.below hV) (HW.out.below hV) (HS.out.below hV)
  cases hM : mayM m with
  | false =>
    have e1 : mayE m = 1 := by unfold mayE; rw [if_neg (by rw [hM]; decide)]
    rw [e1] at CK
    have HM := Lib.hid hM
    clear hM e1
    go_enter Tryd.func7, Tryd.ntmps7
    go_wp2_with (refine wpList_gbox rfl _ rfl m.cells.toArray rfl ?_)
    intro g w1 l1 h1 hb1
    have X1 : Hid (Mx w1 g m) := Lib.hid h1
    have B1 := Lib.hid hb1
    have W1 := Lib.hid X1.out.whole
    clear h1 hb1
    go_wp2_with (refine wpList_gload rfl _ rfl g 0 rfl _ W1.out _ Tryd.underlying29 rfl (sizeMg m) ?_)
    refine (CK.out w1 B1.out).mono ?_
    rintro e w2 ⟨rfl, hb2⟩
    have B2 := Lib.hid (thenBelow B1.out hb2)
    clear hb2 CK X1 B1 W1
    go_wp2
    go_ret2
    exact .inr ⟨HM.out, rfl, B2.out⟩
  | true =>
    have e1 : mayE m = 0 := by unfold mayE; rw [if_pos hM]
    rw [e1] at CK
    have ML := mgB_len hM
    have WR : Hid (∀ V : World, Below w.heap.size w V → Calls Tryd.prog 16 #[.agg m.cells.toArray] V (RetOwn V 5 (mgB m))) := Lib.hid fun V hV => wireWritten_is m V hM (HE.out.below hV) (HW.out.below hV) (HS.out.below hV)
    have HM := Lib.hid hM
    clear hM e1
    obtain ⟨L, hL⟩ : ∃ X, mgB m = X := ⟨_, rfl⟩
    have HL := Lib.hid hL
    rw [hL] at ML WR
    clear hL
    go_enter Tryd.func7, Tryd.ntmps7
    go_wp2_with (refine wpList_gbox rfl _ rfl m.cells.toArray rfl ?_)
    intro g w1 l1 h1 hb1
    have X1 : Hid (Mx w1 g m) := Lib.hid h1
    have B1 := Lib.hid hb1
    have W1 := Lib.hid X1.out.whole
    clear h1 hb1
    go_wp2_with (refine wpList_gload rfl _ rfl g 0 rfl _ W1.out _ Tryd.underlying29 rfl (sizeMg m) ?_)
    refine (CK.out w1 B1.out).mono ?_
    rintro e w2 ⟨rfl, hb2⟩
    have X2 := Lib.hid (X1.out.later hb2); have B2 := Lib.hid (thenBelow B1.out hb2)
    have W2 := Lib.hid X2.out.whole
    clear hb2 CK X1 B1 W1
    go_wp2_with (refine wpList_gload rfl _ rfl g 0 rfl _ W2.out _ Tryd.underlying29 rfl (sizeMg m) ?_)
    refine (WR.out w2 B2.out).mono ?_
    intro e w3 hr3
    obtain ⟨p3, q3, rfl, g3, b3⟩ := hr3.given
    have B3 := Lib.hid (thenBelow B2.out b3); have G3 := Lib.hid g3
    clear hr3 g3 b3 WR X2 B2 W2
    go_wp2_with fail
    refine (seal_own p3 q3 L w3 G3.out.lies G3.out.none (HT.out.below B3.out) (by omega)).mono ?_
    intro e w4 hr4
    obtain ⟨v4, rfl, hO4, hB4⟩ := hr4.after B3.out
    obtain ⟨_, p4, q4, rfl, _, _, _, _⟩ := own_lies hO4
    have FO : Hid (EncR w m (.returned (.tuple #[.slice p4 (sealed L).length q4, .int .i64 0])) w4) := Lib.hid (.inl ⟨HM.out, p4, q4, by rw [HL.out], by rw [HL.out]; exact hO4, hB4⟩)
    clear hr4 hO4 hB4
    go_wp2
    go_ret2
    exact FO.out
end Go.Proofs.YtgcbeeokddaihaaDoor
/- wire.Decode of what is not read; wire.Same of two empty messages; the example. -/
namespace Go.Proofs.YtgcbeeokddaihaaDoor
open Go Go.RowKit
set_option linter.unusedVariables false
set_option maxRecDepth 1000000

/-- a message with nothing but its kind and where it goes -/
def Mg.bare (k a b : Int) : Mg := ⟨k, a, b, fun _ => 0, fun _ => 0, none, 0, [], fun _ => 0, none, 0, [], fun _ => 0⟩
theorem zeroMg (w : World) : (zeroValue 29).run Tryd.prog w = .ok (.agg (Mg.bare 0 0 0).cells.toArray) w := by kernel_rfl
theorem builtMg (w : World) : (Instr.build 29 #[]).run Tryd.prog w = .ok (.agg (Mg.bare 0 0 0).cells.toArray) w := run_build w _ _ _ (by kernel_rfl)
theorem builtMg1 (w : World) : (Instr.build 29 #[(0, .int .i64 1), (1, .int .i64 0), (2, .int .i64 1)]).run Tryd.prog w = .ok (.agg (Mg.bare 1 0 1).cells.toArray) w := run_build w _ _ _ (by kernel_rfl)
theorem sizeMgA (m : Mg) : (Tryd.prog.info? 29).map (·.size) = some m.cells.toArray.size := by rw [List.size_toArray]; exact sizeMg m
theorem Mg.one' (m : Mg) : ∀ u ∈ m.cells.toArray.toList, u.oneCell' = true := by simpa using m.cells_one

set_option maxHeartbeats 8000000 in
theorem decodeBad_is (p : Option Addr) (c : Nat) (l : List UInt8) (w : World) (h : Lies w p l) (hlc : l.length ≤ c) (hT : Table w) (hn : l.length ≤ 140737488355000) (k : Int) (ho : opens l = ([], k)) (hk : k ≠ 0) :
    Calls Tryd.prog 8 #[.slice p l.length c] w fun e w' => e = .returned (.tuple #[.agg (Mg.bare 0 0 0).cells.toArray, .int .i64 k]) ∧ Below w.heap.size w w' := by
  have OP : Hid (∀ V : World, Below w.heap.size w V → Calls Tryd.prog 17 #[.slice p l.length c] V (RetTwo V ([], k))) := Lib.hid fun V hV => by rw [← ho]; exact open_any p c l V (h.below hV) hlc (hT.below hV) hn
  have hk' : (k != 0) = true := by simpa using hk
  clear h hT ho hk
  go_enter Tryd.func8, Tryd.ntmps8
  go_wp2_with (refine wpList_galloc _ zeroMg rfl rfl ?_)
  intro g1 w1 l1 h1 hb1
  have H1 := Lib.hid h1; have B1 := Lib.hid hb1
  clear h1 hb1
  go_wp2_with fail
  refine (OP.out w1 B1.out).mono ?_
  rintro e w2 ⟨p2, c2, rfl, _, _, _, hb2⟩
  have H2 := Lib.hid ((hb2.block _ (Array.getElem?_eq_some_iff.1 H1.out).1).trans H1.out); have B2 := Lib.hid (thenBelow B1.out hb2)
  clear hb2 H1 OP
  go_wp2_with (first | refine wpList_pbuild (by rfl) _ rfl (Mg.bare 0 0 0).cells.toArray (by simp only [List.map_toArray, List.map_nil]; exact builtMg _) ?_ | refine wpList_gstore rfl _ _ rfl g1 rfl (Mg.bare 0 0 0).cells.toArray rfl _ _ H2.out (sizeMgA _) rfl (Mg.one' _) ?_)
  intro w3 h3 g3
  have b3 := grown_below g3 B2.out.size l1
  have B3 := Lib.hid (B2.out.trans b3)
  have H3 := Lib.hid h3
  clear h3 g3 b3 H2
  go_wp2
  exact bodyPost_ret (v := .tuple #[.agg (Mg.bare 0 0 0).cells.toArray, .int .i64 k]) (results_cell_two (p := 2) (q := 3) rfl _ w3 g1 _ _ (0, 0) _ rfl H3.out Tryd.underlying29 rfl (sizeMgA _) (.int .i64 k) rfl) rfl ⟨rfl, B3.out⟩
end Go.Proofs.YtgcbeeokddaihaaDoor
/- wire.Same of two messages that are the same. -/
namespace Go.Proofs.YtgcbeeokddaihaaDoor
open Go Go.RowKit
set_option linter.unusedVariables false
set_option maxRecDepth 1000000

/-- two messages that are the same -/
structure Mg.Eq (m x : Mg) : Prop where
  kind : x.kind = m.kind
  src : x.src = m.src
  dst : x.dst = m.dst
  ack : veq m.ack x.ack = true
  base : veq m.base x.base = true
  floor : veq m.floor x.floor = true
  evs : evs m.E = evs x.E
  seen : veq m.seen x.seen = true
  live : x.L = m.L
set_option maxHeartbeats 16000000 in
theorem wireSame_is (m x : Mg) (w : World) (hq : m.Eq x) (hE : EvsAt w m.ep m.E) (hE2 : EvsAt w x.ep x.E) (hL : WrsAt w m.sp m.L) (hL2 : WrsAt w x.sp x.L) (hn : m.E.length ≤ 1000) (hn2 : x.E.length ≤ 1000) (hg : ∀ y ∈ m.E, y.e.gone.length ≤ 1000) (hg2 : ∀ y ∈ x.E, y.e.gone.length ≤ 1000) (hl : m.L.length ≤ 10000) :
    Calls Tryd.prog 9 #[.agg m.cells.toArray, .agg x.cells.toArray] w (Yes w) := by
  obtain ⟨q1, q2, q3, q4, q5, q6, q7, q8, q9⟩ := hq
  have SE : Hid (∀ V : World, Below w.heap.size w V → Calls Tryd.prog 21 #[.slice m.ep m.E.length m.ec, .slice x.ep x.E.length x.ec] V (Yes V)) := Lib.hid fun V hV => (sameE_is m.ep m.ec m.E x.ep x.ec x.E V (hE.below hV) (hE2.below hV) hn hn2 hg hg2).mono fun e w' h => by
    obtain ⟨b, a, hb, c⟩ := h
    obtain rfl : b = true := hb.2 q7
    exact ⟨a, c⟩
  have DS : Hid (∀ V : World, Below w.heap.size w V → Calls Tryd.prog 22 #[.agg (scs m.seen (.slice m.sp m.L.length m.sc)), .agg (scs x.seen (.slice x.sp x.L.length x.sc))] V (Yes V)) := Lib.hid fun V hV => by
    have h2 := hL2.below hV
    rw [q9] at h2 ⊢
    exact docSame_is m.seen x.seen q8 m.sp x.sp m.sc x.sc m.L V (hL.below hV) h2 hl
  have E1 : Hid (∀ U : World, (binOp .eql 23 (.agg (vf m.ack)) (.agg (vf x.ack))).run Tryd.prog U = .ok (.bool true) U) := Lib.hid fun U => by rw [vecI.eql m.ack x.ack U, q4]
  have E2 : Hid (∀ U : World, (binOp .eql 23 (.agg (vf m.base)) (.agg (vf x.base))).run Tryd.prog U = .ok (.bool true) U) := Lib.hid fun U => by rw [vecI.eql m.base x.base U, q5]
  have E3 : Hid (∀ U : World, (binOp .eql 23 (.agg (vf m.floor)) (.agg (vf x.floor))).run Tryd.prog U = .ok (.bool true) U) := Lib.hid fun U => by rw [vecI.eql m.floor x.floor U, q6]
  have Q1 := Lib.hid q1; have Q2 := Lib.hid q2; have Q3 := Lib.hid q3
  clear q1 q2 q3 q4 q5 q6 q7 q8 q9 hE hE2 hL hL2 hg hg2
  go_enter Tryd.func9, Tryd.ntmps9
  go_wp2_with (refine wpList_gbox rfl _ rfl m.cells.toArray rfl ?_)
  intro g2 w1 l2 h2 hb1
  have X1 : Hid (Mx w1 g2 m) := Lib.hid h2
  have B1 := Lib.hid hb1
  clear h2 hb1
  go_wp2_with (refine wpList_gbox rfl _ rfl x.cells.toArray rfl ?_)
  intro g3 w2 l3 h3 hb2
  have X2 := Lib.hid (X1.out.later hb2); have Y2 : Hid (Mx w2 g3 x) := Lib.hid h3
  have B2 := Lib.hid (thenBelow B1.out hb2)
  clear h3 hb2 X1 B1
  have a1 := X2.out.parts.kind; have a2 := X2.out.parts.src; have a3 := X2.out.parts.dst
  have b1 := Y2.out.parts.kind; have b2 := Y2.out.parts.src; have b3 := Y2.out.parts.dst
  rw [Q1.out] at b1; rw [Q2.out] at b2; rw [Q3.out] at b3
  have a4 := Lib.hid X2.out.parts.ack; have b4 := Lib.hid Y2.out.parts.ack
  have a5 := Lib.hid X2.out.parts.base; have b5 := Lib.hid Y2.out.parts.base
  have a6 := Lib.hid X2.out.parts.floor; have b6 := Lib.hid Y2.out.parts.floor
  have a7 := X2.out.parts.evs; have b7 := Y2.out.parts.evs
  have E1' := E1.out; have E2' := E2.out; have E3' := E3.out
  go_wp2_with (first
    | refine wpList_gloadG (by rfl) _ rfl g2 3 rfl _ a4.out _ Tryd.underlying23 rfl (sizeVcl m.ack) ?_
    | refine wpList_gloadG (by rfl) _ rfl g3 3 rfl _ b4.out _ Tryd.underlying23 rfl (sizeVcl x.ack) ?_
    | refine wpList_gloadG (by rfl) _ rfl g2 67 rfl _ a5.out _ Tryd.underlying23 rfl (sizeVcl m.base) ?_
    | refine wpList_gloadG (by rfl) _ rfl g3 67 rfl _ b5.out _ Tryd.underlying23 rfl (sizeVcl x.base) ?_
    | refine wpList_gloadG (by rfl) _ rfl g2 197 rfl _ a6.out _ Tryd.underlying23 rfl (sizeVcl m.floor) ?_
    | refine wpList_gloadG (by rfl) _ rfl g3 197 rfl _ b6.out _ Tryd.underlying23 rfl (sizeVcl x.floor) ?_)
  refine (SE.out w2 B2.out).mono ?_
  rintro e w3 ⟨rfl, hb3⟩
  have X3 := Lib.hid (X2.out.later hb3); have Y3 := Lib.hid (Y2.out.later hb3); have B3 := Lib.hid (thenBelow B2.out hb3)
  have a8 : Hid (w3.rangeAt g2 132 (scs m.seen (.slice m.sp m.L.length m.sc)).toList) := Lib.hid X3.out.parts.st
  have b8 : Hid (w3.rangeAt g3 132 (scs x.seen (.slice x.sp x.L.length x.sc)).toList) := Lib.hid Y3.out.parts.st
  clear hb3 X2 Y2 B2 a1 a2 a3 b1 b2 b3 a4 b4 a5 b5 a6 b6 a7 b7 E1' E2' E3' E1 E2 E3 SE
  go_wp2_with (first
    | refine wpList_gloadG (by rfl) _ rfl g2 132 rfl _ a8.out _ Tryd.underlying27 rfl (sizeStl _ _) ?_
    | refine wpList_gloadG (by rfl) _ rfl g3 132 rfl _ b8.out _ Tryd.underlying27 rfl (sizeStl _ _) ?_)
  refine (DS.out w3 B3.out).mono ?_
  rintro e w4 ⟨rfl, hb4⟩
  have B4 := Lib.hid (thenBelow B3.out hb4)
  clear hb4 DS a8 b8
  go_wp2
  go_ret
  exact ⟨rfl, B4.out⟩
end Go.Proofs.YtgcbeeokddaihaaDoor
/- The example that each law of layer 14 ends with. -/
namespace Go.Proofs.YtgcbeeokddaihaaDoor
open Go Go.RowKit
set_option linter.unusedVariables false
set_option maxRecDepth 1000000

theorem good0 : goodB (fun _ => 0) = true := by decide +kernel
theorem veq0 : veq (fun _ => 0) (fun _ => 0) = true := veq_self _
theorem may_bare : mayM (Mg.bare 1 0 1) = true := by
  have h1 : goM (Mg.bare 1 0 1) = true := by
    unfold goM Mg.bare
    simp only [good0]
    decide
  have h2 : haveM (Mg.bare 1 0 1) = true := by unfold haveM Mg.bare; rfl
  have h3 : kindM (Mg.bare 1 0 1) = true := by
    unfold kindM noBaseM noFullM noState Mg.bare
    simp only [veq0]
    rfl
  unfold mayM
  rw [h1, h2, h3]; rfl
theorem vbytes0 : vbytes (fun _ => 0) = [0] := by decide +kernel
theorem bytes_bare : mgB (Mg.bare 1 0 1) = [1, 0, 1, 0] := by
  unfold mgB Mg.bare
  simp only [vbytes0]
  rfl
theorem evs_nil (w : World) (p : Option Addr) : EvsAt w p [] := ⟨fun h => absurd rfl h, fun x h => absurd h (List.not_mem_nil), fun _ => rfl⟩
set_option maxHeartbeats 8000000 in
theorem awake14 (w : World) (hS : Shapes w) (hT : Table w) : Calls Tryd.prog 6 #[] w (Yes w) := by
  have HS := Lib.hid hS; have HT := Lib.hid hT
  clear hS hT
  have EN := Lib.hid (encode_is (Mg.bare 1 0 1) w (evs_nil _ _) (wrs_nil _ _) HS.out HT.out)
  go_enter Tryd.func6, Tryd.ntmps6
  go_wp2_with (refine wpList_pbuild (by rfl) _ rfl (Mg.bare 1 0 1).cells.toArray (by simp only [List.map_toArray, List.map_cons, List.map_nil]; exact builtMg1 _) ?_)
  refine EN.out.mono ?_
  intro e w2 hr
  rcases hr with ⟨_, p2, c2, rfl, ho2, hb2⟩ | ⟨hf, _⟩
  · rw [bytes_bare] at ho2 ⊢
    have B2 := Lib.hid hb2
    obtain ⟨_, p', c', hv, _, _, lies2, _⟩ := own_lies ho2
    simp only [Value.slice.injEq] at hv
    obtain ⟨rfl, -, rfl⟩ := hv
    have L2 := Lib.hid lies2
    clear ho2 hb2 EN lies2
    obtain ⟨LS, hLS⟩ : ∃ X, sealed [1, 0, 1, 0] = X := ⟨_, rfl⟩
    have NS : LS.length = 8 := by rw [← hLS]; rfl
    rw [hLS] at L2 ⊢
    have HLS := Lib.hid hLS
    clear hLS
    go_wp2_with fail
    refine (seal2_any _ _ [1, 0, 1, 0] _ (lies_lit _ _ _ [1, 0, 1, 0] _ rfl) (fun e => by cases e) (by decide)).mono ?_
    rw [HLS.out]
    rintro e w3 hr3
    obtain ⟨p3, c3, rfl, le3, _, n3, lies3, b3⟩ := hr3
    have al : Below w2.heap.size w2 (w2.alloc (.cells (bys [1, 0, 1, 0]).toArray 5)) := (Below.refl _ _).alloc (Nat.le_refl _) _
    have B3 := Lib.hid (thenBelow (thenBelow B2.out al) b3)
    have L3 := Lib.hid (L2.out.below (thenBelow al b3))
    have M3 := Lib.hid lies3
    clear al b3 lies3
    go_wp2_with fail
    refine (equal_any p2 p3 8 8 c2 c3 LS LS w3 L3.out M3.out NS.symm NS.symm).mono ?_
    rintro e w' ⟨rfl, rfl⟩
    have hbe : (LS == LS) = true := beq_self_eq_true _
    rw [hbe]
    go_wp2
    go_ret
    exact ⟨rfl, B3.out⟩
  · rw [may_bare] at hf; cases hf
end Go.Proofs.YtgcbeeokddaihaaDoor
/- The walk of WireTold. -/
namespace Go.Proofs.YtgcbeeokddaihaaDoor
open Go Go.RowKit
set_option linter.unusedVariables false
set_option maxRecDepth 1000000

/-- may a message be gone through? -/
def SmM (w : World) (m : Mg) (e : Ending) (w' : World) : Prop := ∃ b, e = .returned (.bool b) ∧ (b = true → m.E.length ≤ 80 ∧ (∀ y ∈ m.E, y.e.gone.length ≤ 130) ∧ m.L.length ≤ 120) ∧ Below w.heap.size w w'
set_option maxHeartbeats 8000000 in
theorem smallM_is (m : Mg) (w : World) (hE : EvsAt w m.ep m.E) (hL : WrsAt w m.sp m.L) : Calls Tryd.prog 5 #[.agg m.cells.toArray] w (SmM w m) := by
  have HE := Lib.hid hE; have HW := Lib.hid hL
  clear hE hL
  go_enter Tryd.func5, Tryd.ntmps5
  go_wp2_with (refine wpList_gbox rfl _ rfl m.cells.toArray rfl ?_)
  intro g w1 l1 h1 hb1
  have X1 : Hid (Mx w1 g m) := Lib.hid h1
  have B1 := Lib.hid hb1
  have S1 : Hid (w1.rangeAt g 132 (scs m.seen (.slice m.sp m.L.length m.sc)).toList) := Lib.hid X1.out.parts.st
  clear h1 hb1
  go_wp2_with (refine wpList_gload rfl _ rfl g 132 rfl _ S1.out _ Tryd.underlying27 rfl (sizeStl _ _) ?_)
  refine (smallS_is m.seen m.sp m.sc m.L w1 (HW.out.below B1.out)).mono ?_
  rintro e w2 ⟨b2, rfl, hs2, hb2⟩
  have X2 := Lib.hid (X1.out.later hb2); have B2 := Lib.hid (thenBelow B1.out hb2)
  clear hb2 S1 X1 B1
  cases b2 with
  | false =>
    clear hs2
    go_wp2
    go_ret
    exact ⟨false, rfl, (fun h => by cases h), B2.out⟩
  | true =>
  have SL : Hid (m.L.length ≤ 120) := Lib.hid (hs2 rfl)
  clear hs2
  have k2 := X2.out.parts.evs
  have b3 := below_alloc w2 (.cells #[.slice m.ep m.E.length m.ec] 24)
  have B3 := Lib.hid (thenBelow B2.out b3)
  have n3 := heap_alloc_new w2 (.cells #[.slice m.ep m.E.length m.ec] 24)
  have E3 := Lib.hid (HE.out.below B3.out)
  have FW : Hid (Calls Tryd.prog 11 #[.slice (some ⟨w2.heap.size, 0, none⟩) 1 1] (w2.alloc (.cells #[.slice m.ep m.E.length m.ec] 24)) (FewR (w2.alloc (.cells #[.slice m.ep m.E.length m.ec] 24)) [⟨m.ep, m.ec, m.E⟩])) :=
    Lib.hid (fewE_is w2.heap.size 1 [⟨m.ep, m.ec, m.E⟩] _ (fun i hi => by
      obtain rfl : i = 0 := by simpa using hi
      exact ⟨(cell_of_row _ _ 0 _ _ _ n3).trans rfl, E3.out⟩) (by simp))
  clear b3 n3
  go_wp2_with fail
  generalize w2.alloc (.cells #[.slice m.ep m.E.length m.ec] 24) = w3 at B3 E3 FW ⊢
  refine FW.out.mono ?_
  rintro e w4 ⟨fw, rfl, hfw, hb4⟩
  have B4 := Lib.hid (thenBelow B3.out hb4)
  have FB : Hid (fw = true → m.E.length ≤ 80 ∧ (∀ y ∈ m.E, y.e.gone.length ≤ 130)) := Lib.hid fun h => by
    have := hfw h 0 (by simp)
    simpa [EvL.small] using this
  clear FW hb4 hfw E3 k2
  go_wp2
  go_ret
  exact ⟨fw, rfl, fun h => ⟨(FB.out h).1, (FB.out h).2, SL.out⟩, B4.out⟩

set_option maxHeartbeats 16000000 in
theorem wireTold_walk (m : Mg) (at_ x : Int) (W : World) (hE : EvsAt W m.ep m.E) (hL : WrsAt W m.sp m.L) (ho : m.E.length ≤ m.ec ∧ (∀ a, m.ep = some a → ∃ b o, a = ⟨b, o, none⟩) ∧ (∀ a, m.sp = some a → ∃ b o, a = ⟨b, o, none⟩)) (hat : (Lit.int .i64 at_).wf = true) (hx : (Lit.int .u8 x).wf = true) (hS : Shapes W) (hT : Table W) :
    Calls Tryd.prog 4 #[.agg m.cells.toArray, .int .i64 at_, .int .u8 x] W (Yes W) := by
  have HE := Lib.hid hE; have HW := Lib.hid hL; have HS := Lib.hid hS; have HT := Lib.hid hT
  clear hE hL ho hS hT
  obtain ⟨d, rfl⟩ := byte_of hx
  have hd2 := d.toNat_lt
  clear hx
  go_enter Tryd.func4, Tryd.ntmps4
  go_wp2_with (refine wpList_gbox rfl _ rfl m.cells.toArray rfl ?_)
  intro g w1 l1 h1 hb1
  have X1 : Hid (Mx w1 g m) := Lib.hid h1
  have B1 := Lib.hid hb1
  have W1 := Lib.hid X1.out.whole
  clear h1 hb1
  go_wp2_with (refine wpList_gload rfl _ rfl g 0 rfl _ W1.out _ Tryd.underlying29 rfl (sizeMg m) ?_)
  refine (smallM_is m w1 (HE.out.below B1.out) (HW.out.below B1.out)).mono ?_
  rintro e w2 ⟨b2, rfl, hs2, hb2⟩
  have X2 := Lib.hid (X1.out.later hb2); have B2 := Lib.hid (thenBelow B1.out hb2)
  clear hb2 X1 B1 W1 hs2
  cases b2 with
  | false =>
    have AW := Lib.hid (awake14 w2 (HS.out.below B2.out) (HT.out.below B2.out))
    go_wp2_with fail
    refine AW.out.mono ?_
    rintro e w99 ⟨rfl, hb99⟩
    have B99 := Lib.hid (thenBelow B2.out hb99)
    clear hb99 AW
    go_wp2
    go_ret
    exact ⟨rfl, B99.out⟩
  | true =>
  have W2 := Lib.hid X2.out.whole
  have EN := Lib.hid (encode_is m w2 (HE.out.below B2.out) (HW.out.below B2.out) (HS.out.below B2.out) (HT.out.below B2.out))
  go_wp2_with (refine wpList_gload rfl _ rfl g 0 rfl _ W2.out _ Tryd.underlying29 rfl (sizeMg m) ?_)
  refine EN.out.mono ?_
  intro e w3 hr
  clear EN W2
  rcases hr with ⟨hM, p3, c3, rfl, ho3, hb3⟩ | ⟨_, rfl, hb3⟩
  · have ML := mgB_len hM
    obtain ⟨lb, hlb⟩ : ∃ X, mgB m = X := ⟨_, rfl⟩
    rw [hlb] at ho3 ML ⊢
    have hn := sealed_length lb
    obtain ⟨q, hq⟩ : ∃ q, q = sealed lb := ⟨_, rfl⟩
    rw [← hq] at ho3 hn ⊢
    have HQ := Lib.hid hq
    clear hq hlb hM
    have B3 := Lib.hid (thenBelow B2.out hb3)
    have ho3 := own_mono ho3 B2.out.size
    have hn1 : 4 ≤ q.length := by omega
    have hn2 : q.length ≤ 140737488355000 := by omega
    obtain ⟨gq, cap, hv, hg⟩ := own_some ho3 (by omega)
    simp only [Value.slice.injEq] at hv
    obtain ⟨rfl, -, rfl⟩ := hv
    clear hn hb3 B2 X2
    have hlen : ((q.length : Int) == 0) = false := beq_eq_false_iff_ne.2 (by omega)
    have hpos : (q.length : Int) > 0 := by omega
    by_cases hx3 : d = 0
    · subst hx3
      have hxb : (((0 : UInt8).toNat : Int) == 0) = true := rfl
      clear ho3 hlen
      have AW := Lib.hid (awake14 w3 (HS.out.below B3.out) (HT.out.below B3.out))
      go_wp2_with fail
      refine AW.out.mono ?_
      rintro e w99 ⟨rfl, hb99⟩
      have B99 := Lib.hid (thenBelow B3.out hb99)
      clear hb99 AW
      go_wp2
      go_ret
      exact ⟨rfl, B99.out⟩
    · have hxb : ((d.toNat : Int) == 0) = false := by
        have : d.toNat ≠ 0 := fun e => hx3 (UInt8.toNat_inj.1 (by simpa using e))
        simp; omega
      obtain ⟨i, hi, hidx, hiv⟩ := uidx at_ q.length (by omega) (by omega)
      clear hiv
      have ho : opens (q.set i (q.getD i 0 ^^^ d)) = ([], 6) := by rw [HQ.out]; exact opens_turned lb i (by rw [← HQ.out]; exact hi) d hx3
      have HO := Lib.hid ho; clear ho
      obtain ⟨b, hb⟩ : ∃ b, b = q.getD i 0 := ⟨_, rfl⟩
      have hbx : bits BinOp.xor IntKind.u8 (b.toNat : Int) (d.toNat : Int) = ((b ^^^ d).toNat : Int) := by
        rw [u8_xor_nat _ _ b.toNat_lt d.toNat_lt, UInt8.toNat_xor]
      rw [← hb] at HO
      obtain ⟨bx, hbe⟩ : ∃ bx, bx = b ^^^ d := ⟨_, rfl⟩
      rw [← hbe] at hbx HO
      clear hbe
      have HB := Lib.hid hb; clear hb
      obtain ⟨k1, k2, k3⟩ := own_cell ho3 i hi
      rw [← HB.out] at k1
      have hown2 := k3 bx
      obtain ⟨u1, p', c', hv, hle', u2, lies', u3⟩ := own_lies hown2
      simp only [Value.slice.injEq] at hv
      obtain ⟨rfl, -, rfl⟩ := hv
      have b2 : Below W.heap.size W (w3.setCell ⟨gq, i, none⟩ (.int .u8 (bx.toNat : Int))) := B3.out.setCell hg _
      have H2 := decodeBad_is _ c3 (q.set i bx) _ lies' hle' (HT.out.below b2) (by simp; omega) 6 HO.out (by decide)
      rw [List.length_set] at H2
      have B2 := Lib.hid b2
      have H3 := Lib.hid H2
      clear H2 ho3 hown2 k3 lies' hle' b2 u1 u2 u3
      go_wp2_with fail
      refine H3.out.mono ?_
      rintro e w4 ⟨rfl, hb4⟩
      have B4 := Lib.hid (thenBelow B2.out hb4)
      clear hb4 H3 hidx hbx k1 k2 HO HB
      go_wp2_with (refine wpList_galloc _ zeroMg rfl rfl ?_)
      intro g9 w5 l9 h9 hb5
      have H9 := Lib.hid h9; have B5 := Lib.hid (thenBelow B4.out hb5)
      have l9W : W.heap.size ≤ g9 := Nat.le_trans B4.out.size l9
      clear h9 hb5
      go_wp2_with (refine wpList_gstore rfl _ _ rfl g9 rfl (Mg.bare 0 0 0).cells.toArray rfl _ _ H9.out (sizeMgA _) rfl (Mg.one' _) ?_)
      intro w6 h6 g6
      have b6 := grown_below g6 B5.out.size l9W
      have B6 := Lib.hid (B5.out.trans b6)
      have X6 : Hid (Mx w6 g9 (Mg.bare 0 0 0)) := Lib.hid h6
      have W6 := Lib.hid X6.out.whole
      clear h6 g6 b6 H9
      have SM := Lib.hid (wireSame_is (Mg.bare 0 0 0) (Mg.bare 0 0 0) w6 ⟨rfl, rfl, rfl, veq_self _, veq_self _, veq_self _, rfl, veq_self _, rfl⟩ (evs_nil _ _) (evs_nil _ _) (wrs_nil _ _) (wrs_nil _ _) (by simp [Mg.bare]) (by simp [Mg.bare]) (by simp [Mg.bare]) (by simp [Mg.bare]) (by simp [Mg.bare]))
      go_wp2_with (first | refine wpList_gloadG (by rfl) _ rfl g9 0 rfl _ W6.out _ Tryd.underlying29 rfl (sizeMg _) ?_ | refine wpList_pbuild (by rfl) _ rfl (Mg.bare 0 0 0).cells.toArray (by simp only [List.map_toArray, List.map_nil]; exact builtMg _) ?_)
      refine SM.out.mono ?_
      rintro e w7 ⟨rfl, hb7⟩
      have B7 := Lib.hid (thenBelow B6.out hb7)
      clear hb7 SM X6 W6
      have AW := Lib.hid (awake14 w7 (HS.out.below B7.out) (HT.out.below B7.out))
      go_wp2_with fail
      refine AW.out.mono ?_
      rintro e w99 ⟨rfl, hb99⟩
      have B99 := Lib.hid (thenBelow B7.out hb99)
      clear hb99 AW
      go_wp2
      go_ret
      exact ⟨rfl, B99.out⟩
  · have B3 := Lib.hid (thenBelow B2.out hb3)
    clear hb3
    have AW := Lib.hid (awake14 w3 (HS.out.below B3.out) (HT.out.below B3.out))
    go_wp2_with fail
    refine AW.out.mono ?_
    rintro e w99 ⟨rfl, hb99⟩
    have B99 := Lib.hid (thenBelow B3.out hb99)
    clear hb99 AW
    go_wp2
    go_ret
    exact ⟨rfl, B99.out⟩
end Go.Proofs.YtgcbeeokddaihaaDoor
