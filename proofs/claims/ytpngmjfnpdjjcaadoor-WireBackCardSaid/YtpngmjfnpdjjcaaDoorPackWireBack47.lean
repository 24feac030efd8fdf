/- The statement WireBack, proved for every input that its row reads: part 47 of 54. -/
import Derived.Test.YtpngmjfnpdjjcaaDoorPackWireBack45
import Derived.Test.YtpngmjfnpdjjcaaDoorPackWireBack10
import Derived.Test.YtpngmjfnpdjjcaaDoorPackWireBack46
import Derived.Test.YtpngmjfnpdjjcaaDoorPackWireBack16
import Derived.Test.YtpngmjfnpdjjcaaDoorPackWireBack21
import Derived.Test.YtpngmjfnpdjjcaaDoorPackWireBack19
import Derived.Test.YtpngmjfnpdjjcaaDoorPackWireBack31
import Derived.Test.YtpngmjfnpdjjcaaDoorPackWireBack27
/- A message in a variable, part by part written anew. -/
namespace Go.Proofs.YtpngmjfnpdjjcaaDoor
open Go Go.RowKit
set_option linter.unusedVariables false
set_option maxRecDepth 1000000

theorem setL_mid (A B B' C : List Value) (h : B'.length = B.length) : setL (A ++ (B ++ C)).toArray A.length B' = (A ++ (B' ++ C)).toArray := by
  apply Array.ext_getElem?
  intro i
  rw [setL_get _ _ _ (by simp; omega), List.getElem?_toArray, List.getElem?_toArray]
  by_cases h1 : i < A.length
  · rw [if_neg (by omega), List.getElem?_append_left h1, List.getElem?_append_left h1]
  · by_cases h2 : i < A.length + B'.length
    · rw [if_pos ⟨by omega, h2⟩, List.getElem?_append_right (by omega), List.getElem?_append_left (by omega)]
    · rw [if_neg (by omega), List.getElem?_append_right (by omega), List.getElem?_append_right (by omega), List.getElem?_append_right (by omega), List.getElem?_append_right (by omega), h]
theorem Mg.cells_base (m : Mg) (f : Nat → Int) : setL m.cells.toArray 67 (vf f).toList = ({ m with base := f } : Mg).cells.toArray := by
  have := setL_mid ([.int .i64 m.kind, .int .i64 m.src, .int .i64 m.dst] ++ (vf m.ack).toList) (vf m.base).toList (vf f).toList ([.slice m.ep m.E.length m.ec] ++ (m.st.toList ++ (vf m.floor).toList)) (by rw [vfl_len, vfl_len])
  rw [List.length_append, vfl_len, List.append_assoc, List.append_assoc] at this
  exact this
theorem Mg.cells_evs (m : Mg) (p : Option Addr) (c : Nat) (E : List EvP) : setL m.cells.toArray 131 [.slice p E.length c] = ({ m with ep := p, ec := c, E := E } : Mg).cells.toArray := by
  have := setL_mid ([.int .i64 m.kind, .int .i64 m.src, .int .i64 m.dst] ++ ((vf m.ack).toList ++ (vf m.base).toList)) [.slice m.ep m.E.length m.ec] [.slice p E.length c] (m.st.toList ++ (vf m.floor).toList) rfl
  simp only [List.length_append, vfl_len, List.append_assoc] at this
  exact this
theorem Mg.cells_st (m : Mg) (f : Nat → Int) (p : Option Addr) (c : Nat) (L : List Wr) : setL m.cells.toArray 132 (scs f (.slice p L.length c)).toList = ({ m with seen := f, sp := p, sc := c, L := L } : Mg).cells.toArray := by
  have := setL_mid ([.int .i64 m.kind, .int .i64 m.src, .int .i64 m.dst] ++ ((vf m.ack).toList ++ ((vf m.base).toList ++ [.slice m.ep m.E.length m.ec]))) m.st.toList (scs f (.slice p L.length c)).toList (vf m.floor).toList (((Array.length_toList (xs := scs f (.slice p L.length c))).trans (scs_size _ _)).trans ((Array.length_toList (xs := m.st)).trans (Mg.st_size m)).symm)
  simp only [List.length_append, vfl_len, List.append_assoc] at this
  exact this
theorem Mg.cells_floor (m : Mg) (f : Nat → Int) : setL m.cells.toArray 197 (vf f).toList = ({ m with floor := f } : Mg).cells.toArray := by
  have := setL_mid ([.int .i64 m.kind, .int .i64 m.src, .int .i64 m.dst] ++ ((vf m.ack).toList ++ ((vf m.base).toList ++ ([.slice m.ep m.E.length m.ec] ++ m.st.toList)))) (vf m.floor).toList (vf f).toList [] (by rw [vfl_len, vfl_len])
  simp only [List.length_append, vfl_len, Array.length_toList, Mg.st_size, List.append_assoc, List.append_nil] at this
  exact this
section
variable {P : Program} {ops : Array Oper} {rest : List Oper} {o : Oper} {a : Act} {w : World} {Q : Exit → Act → World → Prop}
theorem exec_pset (t : TypeId) (x y : Operand) (ho : o.op = .store t x y) (g off : Nat) (hx : a.eval x = .pointer (some ⟨g, off, none⟩)) (cs : Array Value) (hy : a.eval y = .agg cs) (hi : (P.info? t).map (·.size) = some cs.size) (h1 : ∀ v ∈ cs.toList, v.oneCell' = true)
    {old : Array Value} {ty : TypeId} (h : w.heap[g]? = some (.cells old ty (0, 0))) (hs : off + cs.size ≤ old.size) :
    (execOp a.eval o).run P w = .ok .skip (w.setCells g off cs.toList) := by
  have ht : w.there g off cs.size := fun j hj => by
    refine ⟨?_, frozen_of_row w g (off + j) _ _ h⟩
    rw [cell_of_row w g (off + j) _ _ _ h, Array.getElem?_eq_getElem (by omega)]
    rfl
  unfold execOp
  simp only [ho, hx, hy, Sem.run_bind, run_storeAt_mid w g off t cs ht hi (Array.all_eq_true_iff_forall_mem.2 (fun u hu => h1 u (by simpa using hu))), Result.andThen_ok]
  rfl
theorem wpList_pset (hg : o.guard = none) (t : TypeId) (x y : Operand) (ho : o.op = .store t x y) (g off : Nat) (hx : a.eval x = .pointer (some ⟨g, off, none⟩)) (cs : Array Value) (hy : a.eval y = .agg cs) (hi : (P.info? t).map (·.size) = some cs.size) (h1 : ∀ v ∈ cs.toList, v.oneCell' = true)
    {old : Array Value} {ty : TypeId} (hh : w.heap[g]? = some (.cells old ty (0, 0))) (hs : off + cs.size ≤ old.size)
    (h : ∀ V, Hid (V = w.setCells g off cs.toList) → wpList P ops Q rest (a.put o.dst undef) V) : wpList P ops Q (o :: rest) a w := wpList_skipTo hg _ (exec_pset t x y ho g off hx cs hy hi h1 hh hs) h
end
theorem mx_size {m : Mg} : m.cells.toArray.size = 261 := by rw [List.size_toArray, Mg.cells_len]
theorem Mx.setBase {w : World} {g : Nat} {m : Mg} (h : Mx w g m) (f : Nat → Int) : Mx (w.setCells g 67 (vf f).toList) g { m with base := f } := by
  unfold Mx; rw [← Mg.cells_base]; exact heap_setCells _ _ _ _ h
theorem Mx.setFloor {w : World} {g : Nat} {m : Mg} (h : Mx w g m) (f : Nat → Int) : Mx (w.setCells g 197 (vf f).toList) g { m with floor := f } := by
  unfold Mx; rw [← Mg.cells_floor]; exact heap_setCells _ _ _ _ h
theorem Mx.setSt {w : World} {g : Nat} {m : Mg} (h : Mx w g m) (f : Nat → Int) (p : Option Addr) (c : Nat) (L : List Wr) : Mx (w.setCells g 132 (scs f (.slice p L.length c)).toList) g { m with seen := f, sp := p, sc := c, L := L } := by
  unfold Mx; rw [← Mg.cells_st]; exact heap_setCells _ _ _ _ h
theorem Mx.setEvs {w : World} {g : Nat} {m : Mg} (h : Mx w g m) (p : Option Addr) (c : Nat) (E : List EvP) : Mx (w.setCell ⟨g, 131, none⟩ (.slice p E.length c)) g { m with ep := p, ec := c, E := E } := by
  unfold Mx; rw [← Mg.cells_evs]; exact block_setCell h _
theorem vf_oneC (f : Nat → Int) : ∀ u ∈ (vf f).toList, u.oneCell' = true := fun u h => scs_one f (v := .slice none 0 0) rfl u (by simp [scs, h])
end Go.Proofs.YtpngmjfnpdjjcaaDoor
/- wire.Encode: a message's bytes, sealed. -/
namespace Go.Proofs.YtpngmjfnpdjjcaaDoor
open Go Go.RowKit
set_option linter.unusedVariables false
set_option maxRecDepth 1000000

theorem mgB_len {m : Mg} (hM : mayM m = true) : (mgB m).length ≤ 20000000 := by
  obtain ⟨_, _, KD⟩ := may_parts hM
  have NE : m.E.length ≤ 1024 := by unfold mayM haveM at hM; simp only [Bool.and_eq_true, decide_eq_true_eq] at hM; exact hM.2.1.1
  have e1 := enc_len m.kind.toNat; have e2 := enc_len m.src.toNat; have e3 := enc_len m.dst.toNat
  have e4 := vbytes_len m.ack; have e5 := vbytes_len m.base; have e6 := vbytes_len m.floor
  have e7 := evsB_len m.E
  unfold mgB
  by_cases k2 : m.kind = 2
  · rw [if_pos k2]
    simp only [List.length_append]; omega
  rw [if_neg k2]
  by_cases k3 : m.kind = 3
  · rw [if_pos k3]
    have hcan : canB m.seen m.L = true := by rcases KD with h | h | ⟨_, h⟩ <;> first | exact h | omega
    have nS : (stB m.seen m.L).length ≤ 8700000 := by
      have h1 := vbytes_len m.seen; have h2 := enc_len m.L.length
      have h3 := wts_len m.L fun y hy => small_of ((can_iff.1 hcan).fine y hy).1
      have h4 := (can_iff.1 hcan).len
      unfold stB
      simp only [List.length_append]; omega
    simp only [List.length_append]; omega
  rw [if_neg k3]
  simp only [List.length_append, List.length_nil]; omega
/-- what wire.Encode answers -/
def EncR (w : World) (m : Mg) (e : Ending) (w' : World) : Prop :=
  (mayM m = true ∧ ∃ p c, e = .returned (.tuple #[.slice p (sealed (mgB m)).length c, .int .i64 0]) ∧ w'.ownsRow w.heap.size 5 1 (.slice p (sealed (mgB m)).length c) (sealed (mgB m)).length (bys (sealed (mgB m))) ∧ Below w.heap.size w w') ∨
  (mayM m = false ∧ e = .returned (.tuple #[.slice none 0 0, .int .i64 1]) ∧ Below w.heap.size w w')
set_option maxHeartbeats 8000000 in
theorem encode_is (m : Mg) (w : World) (hE : EvsAt w m.ep m.E) (hL : WrsAt w m.sp m.L) (hS : Shapes w) (hT : Table w) : Calls Tryd.prog 6 #[.agg m.cells.toArray] w (EncR w m) := by
  have HE := Lib.hid hE; have HW := Lib.hid hL; have HS := Lib.hid hS; have HT := Lib.hid hT
  clear hE hL hS hT
  have CK : Hid (∀ V : World, Below w.heap.size w V → Calls Tryd.prog 13 #[.agg m.cells.toArray] V (Check1 V (mayE m))) := Lib.hid fun V hV => wireCheck_is m V (HE.out.below hV) (HW.out.below hV) (HS.out.below hV)
  cases hM : mayM m with
  | false =>
    have e1 : mayE m = 1 := by unfold mayE; rw [if_neg (by rw [hM]; decide)]
    rw [e1] at CK
    have HM := Lib.hid hM
    clear hM e1
    go_enter Tryd.func6, Tryd.ntmps6
    go_wp2_with (refine wpList_gbox rfl _ rfl m.cells.toArray rfl ?_)
    intro g w1 l1 h1 hb1
    have X1 : Hid (Mx w1 g m) := Lib.hid h1
    have B1 := Lib.hid hb1
    have W1 := Lib.hid X1.out.whole
    clear h1 hb1
    go_wp2_with (refine wpList_gload rfl _ rfl g 0 rfl _ W1.out _ Tryd.underlying29 rfl (sizeMg m) ?_)
    refine (CK.out w1 B1.out).mono ?_
    rintro e w2 ⟨rfl, hb2⟩
    have B2 := Lib.hid (thenBelow B1.out hb2)
    clear hb2 CK X1 B1 W1
    go_wp2
    go_ret2
    exact .inr ⟨HM.out, rfl, B2.out⟩
  | true =>
    have e1 : mayE m = 0 := by unfold mayE; rw [if_pos hM]
    rw [e1] at CK
    have ML := mgB_len hM
    have WR : Hid (∀ V : World, Below w.heap.size w V → Calls Tryd.prog 15 #[.agg m.cells.toArray] V (RetOwn V 5 (mgB m))) := Lib.hid fun V hV => wireWritten_is m V hM (HE.out.below hV) (HW.out.below hV) (HS.out.below hV)
    have HM := Lib.hid hM
    clear hM e1
    obtain ⟨L, hL⟩ : ∃ X, mgB m = X := ⟨_, rfl⟩
    have HL := Lib.hid hL
    rw [hL] at ML WR
    clear hL
    go_enter Tryd.func6, Tryd.ntmps6
    go_wp2_with (refine wpList_gbox rfl _ rfl m.cells.toArray rfl ?_)
    intro g w1 l1 h1 hb1
    have X1 : Hid (Mx w1 g m) := Lib.hid h1
    have B1 := Lib.hid hb1
    have W1 := Lib.hid X1.out.whole
    clear h1 hb1
    go_wp2_with (refine wpList_gload rfl _ rfl g 0 rfl _ W1.out _ Tryd.underlying29 rfl (sizeMg m) ?_)
    refine (CK.out w1 B1.out).mono ?_
    rintro e w2 ⟨rfl, hb2⟩
    have X2 := Lib.hid (X1.out.later hb2); have B2 := Lib.hid (thenBelow B1.out hb2)
    have W2 := Lib.hid X2.out.whole
    clear hb2 CK X1 B1 W1
    go_wp2_with (refine wpList_gload rfl _ rfl g 0 rfl _ W2.out _ Tryd.underlying29 rfl (sizeMg m) ?_)
    refine (WR.out w2 B2.out).mono ?_
    intro e w3 hr3
    obtain ⟨p3, q3, rfl, g3, b3⟩ := hr3.given
    have B3 := Lib.hid (thenBelow B2.out b3); have G3 := Lib.hid g3
    clear hr3 g3 b3 WR X2 B2 W2
    go_wp2_with fail
    refine (seal_own p3 q3 L w3 G3.out.lies G3.out.none (HT.out.below B3.out) (by omega)).mono ?_
    intro e w4 hr4
    obtain ⟨v4, rfl, hO4, hB4⟩ := hr4.after B3.out
    obtain ⟨_, p4, q4, rfl, _, _, _, _⟩ := own_lies hO4
    have FO : Hid (EncR w m (.returned (.tuple #[.slice p4 (sealed L).length q4, .int .i64 0])) w4) := Lib.hid (.inl ⟨HM.out, p4, q4, by rw [HL.out], by rw [HL.out]; exact hO4, hB4⟩)
    clear hr4 hO4 hB4
    go_wp2
    go_ret2
    exact FO.out
end Go.Proofs.YtpngmjfnpdjjcaaDoor
/- wire.Decode of what is not read; wire.Same of two empty messages; the example. -/
namespace Go.Proofs.YtpngmjfnpdjjcaaDoor
open Go Go.RowKit
set_option linter.unusedVariables false
set_option maxRecDepth 1000000

/-- a message with nothing but its kind and where it goes -/
def Mg.bare (k a b : Int) : Mg := ⟨k, a, b, fun _ => 0, fun _ => 0, none, 0, [], fun _ => 0, none, 0, [], fun _ => 0⟩
theorem zeroMg (w : World) : (zeroValue 29).run Tryd.prog w = .ok (.agg (Mg.bare 0 0 0).cells.toArray) w := by kernel_rfl
theorem builtMg (w : World) : (Instr.build 29 #[]).run Tryd.prog w = .ok (.agg (Mg.bare 0 0 0).cells.toArray) w := run_build w _ _ _ (by kernel_rfl)
theorem builtMg1 (w : World) : (Instr.build 29 #[(0, .int .i64 1), (1, .int .i64 0), (2, .int .i64 1)]).run Tryd.prog w = .ok (.agg (Mg.bare 1 0 1).cells.toArray) w := run_build w _ _ _ (by kernel_rfl)
theorem sizeMgA (m : Mg) : (Tryd.prog.info? 29).map (·.size) = some m.cells.toArray.size := by rw [List.size_toArray]; exact sizeMg m
theorem Mg.one' (m : Mg) : ∀ u ∈ m.cells.toArray.toList, u.oneCell' = true := by simpa using m.cells_one

set_option maxHeartbeats 8000000 in
theorem decodeBad_is (p : Option Addr) (c : Nat) (l : List UInt8) (w : World) (h : Lies w p l) (hlc : l.length ≤ c) (hT : Table w) (hn : l.length ≤ 140737488355000) (k : Int) (ho : opens l = ([], k)) (hk : k ≠ 0) :
    Calls Tryd.prog 7 #[.slice p l.length c] w fun e w' => e = .returned (.tuple #[.agg (Mg.bare 0 0 0).cells.toArray, .int .i64 k]) ∧ Below w.heap.size w w' := by
  have OP : Hid (∀ V : World, Below w.heap.size w V → Calls Tryd.prog 16 #[.slice p l.length c] V (RetTwo V ([], k))) := Lib.hid fun V hV => by rw [← ho]; exact open_any p c l V (h.below hV) hlc (hT.below hV) hn
  have hk' : (k != 0) = true := by simpa using hk
  clear h hT ho hk
  go_enter Tryd.func7, Tryd.ntmps7
  go_wp2_with (refine wpList_galloc _ zeroMg rfl rfl ?_)
  intro g1 w1 l1 h1 hb1
  have H1 := Lib.hid h1; have B1 := Lib.hid hb1
  clear h1 hb1
  go_wp2_with fail
  refine (OP.out w1 B1.out).mono ?_
  rintro e w2 ⟨p2, c2, rfl, _, _, _, hb2⟩
  have H2 := Lib.hid ((hb2.block _ (Array.getElem?_eq_some_iff.1 H1.out).1).trans H1.out); have B2 := Lib.hid (thenBelow B1.out hb2)
  clear hb2 H1 OP
  go_wp2_with (first | refine wpList_pbuild (by rfl) _ rfl (Mg.bare 0 0 0).cells.toArray (by simp only [List.map_toArray, List.map_nil]; exact builtMg _) ?_ | refine wpList_gstore rfl _ _ rfl g1 rfl (Mg.bare 0 0 0).cells.toArray rfl _ _ H2.out (sizeMgA _) rfl (Mg.one' _) ?_)
  intro w3 h3 g3
  have b3 := grown_below g3 B2.out.size l1
  have B3 := Lib.hid (B2.out.trans b3)
  have H3 := Lib.hid h3
  clear h3 g3 b3 H2
  go_wp2
  exact bodyPost_ret (v := .tuple #[.agg (Mg.bare 0 0 0).cells.toArray, .int .i64 k]) (results_cell_two (p := 2) (q := 3) rfl _ w3 g1 _ _ (0, 0) _ rfl H3.out Tryd.underlying29 rfl (sizeMgA _) (.int .i64 k) rfl) rfl ⟨rfl, B3.out⟩
end Go.Proofs.YtpngmjfnpdjjcaaDoor
/- wire.Same of two messages that are the same. -/
namespace Go.Proofs.YtpngmjfnpdjjcaaDoor
open Go Go.RowKit
set_option linter.unusedVariables false
set_option maxRecDepth 1000000

theorem evs_nil (w : World) (p : Option Addr) : EvsAt w p [] := ⟨fun h => absurd rfl h, fun x h => absurd h (List.not_mem_nil), fun _ => rfl⟩
theorem good0 : goodB (fun _ => 0) = true := by decide +kernel
/-- two messages that are the same -/
structure Mg.Eq (m x : Mg) : Prop where
  kind : x.kind = m.kind
  src : x.src = m.src
  dst : x.dst = m.dst
  ack : veq m.ack x.ack = true
  base : veq m.base x.base = true
  floor : veq m.floor x.floor = true
  evs : evs m.E = evs x.E
  seen : veq m.seen x.seen = true
  live : x.L = m.L
set_option maxHeartbeats 16000000 in
theorem wireSame_is (m x : Mg) (w : World) (hq : m.Eq x) (hE : EvsAt w m.ep m.E) (hE2 : EvsAt w x.ep x.E) (hL : WrsAt w m.sp m.L) (hL2 : WrsAt w x.sp x.L) (hn : m.E.length ≤ 1000) (hn2 : x.E.length ≤ 1000) (hg : ∀ y ∈ m.E, y.e.gone.length ≤ 1000) (hg2 : ∀ y ∈ x.E, y.e.gone.length ≤ 1000) (hl : m.L.length ≤ 10000) :
    Calls Tryd.prog 8 #[.agg m.cells.toArray, .agg x.cells.toArray] w (Yes w) := by
  obtain ⟨q1, q2, q3, q4, q5, q6, q7, q8, q9⟩ := hq
  have SE : Hid (∀ V : World, Below w.heap.size w V → Calls Tryd.prog 20 #[.slice m.ep m.E.length m.ec, .slice x.ep x.E.length x.ec] V (Yes V)) := Lib.hid fun V hV => (sameE_is m.ep m.ec m.E x.ep x.ec x.E V (hE.below hV) (hE2.below hV) hn hn2 hg hg2).mono fun e w' h => by
    obtain ⟨b, a, hb, c⟩ := h
    obtain rfl : b = true := hb.2 q7
    exact ⟨a, c⟩
  have DS : Hid (∀ V : World, Below w.heap.size w V → Calls Tryd.prog 21 #[.agg (scs m.seen (.slice m.sp m.L.length m.sc)), .agg (scs x.seen (.slice x.sp x.L.length x.sc))] V (Yes V)) := Lib.hid fun V hV => by
    have h2 := hL2.below hV
    rw [q9] at h2 ⊢
    exact docSame_is m.seen x.seen q8 m.sp x.sp m.sc x.sc m.L V (hL.below hV) h2 hl
  have E1 : Hid (∀ U : World, (binOp .eql 23 (.agg (vf m.ack)) (.agg (vf x.ack))).run Tryd.prog U = .ok (.bool true) U) := Lib.hid fun U => by rw [vecI.eql m.ack x.ack U, q4]
  have E2 : Hid (∀ U : World, (binOp .eql 23 (.agg (vf m.base)) (.agg (vf x.base))).run Tryd.prog U = .ok (.bool true) U) := Lib.hid fun U => by rw [vecI.eql m.base x.base U, q5]
  have E3 : Hid (∀ U : World, (binOp .eql 23 (.agg (vf m.floor)) (.agg (vf x.floor))).run Tryd.prog U = .ok (.bool true) U) := Lib.hid fun U => by rw [vecI.eql m.floor x.floor U, q6]
  have Q1 := Lib.hid q1; have Q2 := Lib.hid q2; have Q3 := Lib.hid q3
  clear q1 q2 q3 q4 q5 q6 q7 q8 q9 hE hE2 hL hL2 hg hg2
  go_enter Tryd.func8, Tryd.ntmps8
  go_wp2_with (refine wpList_gbox rfl _ rfl m.cells.toArray rfl ?_)
  intro g2 w1 l2 h2 hb1
  have X1 : Hid (Mx w1 g2 m) := Lib.hid h2
  have B1 := Lib.hid hb1
  clear h2 hb1
  go_wp2_with (refine wpList_gbox rfl _ rfl x.cells.toArray rfl ?_)
  intro g3 w2 l3 h3 hb2
  have X2 := Lib.hid (X1.out.later hb2); have Y2 : Hid (Mx w2 g3 x) := Lib.hid h3
  have B2 := Lib.hid (thenBelow B1.out hb2)
  clear h3 hb2 X1 B1
  have a1 := X2.out.parts.kind; have a2 := X2.out.parts.src; have a3 := X2.out.parts.dst
  have b1 := Y2.out.parts.kind; have b2 := Y2.out.parts.src; have b3 := Y2.out.parts.dst
  rw [Q1.out] at b1; rw [Q2.out] at b2; rw [Q3.out] at b3
  have a4 := Lib.hid X2.out.parts.ack; have b4 := Lib.hid Y2.out.parts.ack
  have a5 := Lib.hid X2.out.parts.base; have b5 := Lib.hid Y2.out.parts.base
  have a6 := Lib.hid X2.out.parts.floor; have b6 := Lib.hid Y2.out.parts.floor
  have a7 := X2.out.parts.evs; have b7 := Y2.out.parts.evs
  have E1' := E1.out; have E2' := E2.out; have E3' := E3.out
  go_wp2_with (first
    | refine wpList_gloadG (by rfl) _ rfl g2 3 rfl _ a4.out _ Tryd.underlying23 rfl (sizeVcl m.ack) ?_
    | refine wpList_gloadG (by rfl) _ rfl g3 3 rfl _ b4.out _ Tryd.underlying23 rfl (sizeVcl x.ack) ?_
    | refine wpList_gloadG (by rfl) _ rfl g2 67 rfl _ a5.out _ Tryd.underlying23 rfl (sizeVcl m.base) ?_
    | refine wpList_gloadG (by rfl) _ rfl g3 67 rfl _ b5.out _ Tryd.underlying23 rfl (sizeVcl x.base) ?_
    | refine wpList_gloadG (by rfl) _ rfl g2 197 rfl _ a6.out _ Tryd.underlying23 rfl (sizeVcl m.floor) ?_
    | refine wpList_gloadG (by rfl) _ rfl g3 197 rfl _ b6.out _ Tryd.underlying23 rfl (sizeVcl x.floor) ?_)
  refine (SE.out w2 B2.out).mono ?_
  rintro e w3 ⟨rfl, hb3⟩
  have X3 := Lib.hid (X2.out.later hb3); have Y3 := Lib.hid (Y2.out.later hb3); have B3 := Lib.hid (thenBelow B2.out hb3)
  have a8 : Hid (w3.rangeAt g2 132 (scs m.seen (.slice m.sp m.L.length m.sc)).toList) := Lib.hid X3.out.parts.st
  have b8 : Hid (w3.rangeAt g3 132 (scs x.seen (.slice x.sp x.L.length x.sc)).toList) := Lib.hid Y3.out.parts.st
  clear hb3 X2 Y2 B2 a1 a2 a3 b1 b2 b3 a4 b4 a5 b5 a6 b6 a7 b7 E1' E2' E3' E1 E2 E3 SE
  go_wp2_with (first
    | refine wpList_gloadG (by rfl) _ rfl g2 132 rfl _ a8.out _ Tryd.underlying27 rfl (sizeStl _ _) ?_
    | refine wpList_gloadG (by rfl) _ rfl g3 132 rfl _ b8.out _ Tryd.underlying27 rfl (sizeStl _ _) ?_)
  refine (DS.out w3 B3.out).mono ?_
  rintro e w4 ⟨rfl, hb4⟩
  have B4 := Lib.hid (thenBelow B3.out hb4)
  clear hb4 DS a8 b8
  go_wp2
  go_ret
  exact ⟨rfl, B4.out⟩
end Go.Proofs.YtpngmjfnpdjjcaaDoor
/- The example that each law of layer 14 ends with. -/
namespace Go.Proofs.YtpngmjfnpdjjcaaDoor
open Go Go.RowKit
set_option linter.unusedVariables false
set_option maxRecDepth 1000000

theorem veq0 : veq (fun _ => 0) (fun _ => 0) = true := veq_self _
theorem may_bare : mayM (Mg.bare 1 0 1) = true := by
  have h1 : goM (Mg.bare 1 0 1) = true := by
    unfold goM Mg.bare
    simp only [good0]
    decide
  have h2 : haveM (Mg.bare 1 0 1) = true := by unfold haveM Mg.bare; rfl
  have h3 : kindM (Mg.bare 1 0 1) = true := by
    unfold kindM noBaseM noFullM noState Mg.bare
    simp only [veq0]
    rfl
  unfold mayM
  rw [h1, h2, h3]; rfl
theorem vbytes0 : vbytes (fun _ => 0) = [0] := by decide +kernel
theorem bytes_bare : mgB (Mg.bare 1 0 1) = [1, 0, 1, 0] := by
  unfold mgB Mg.bare
  simp only [vbytes0]
  rfl
set_option maxHeartbeats 8000000 in
theorem awake14 (w : World) (hS : Shapes w) (hT : Table w) : Calls Tryd.prog 5 #[] w (Yes w) := by
  have HS := Lib.hid hS; have HT := Lib.hid hT
  clear hS hT
  have EN := Lib.hid (encode_is (Mg.bare 1 0 1) w (evs_nil _ _) (wrs_nil _ _) HS.out HT.out)
  go_enter Tryd.func5, Tryd.ntmps5
  go_wp2_with (refine wpList_pbuild (by rfl) _ rfl (Mg.bare 1 0 1).cells.toArray (by simp only [List.map_toArray, List.map_cons, List.map_nil]; exact builtMg1 _) ?_)
  refine EN.out.mono ?_
  intro e w2 hr
  rcases hr with ⟨_, p2, c2, rfl, ho2, hb2⟩ | ⟨hf, _⟩
  · rw [bytes_bare] at ho2 ⊢
    have B2 := Lib.hid hb2
    obtain ⟨_, p', c', hv, _, _, lies2, _⟩ := own_lies ho2
    simp only [Value.slice.injEq] at hv
    obtain ⟨rfl, -, rfl⟩ := hv
    have L2 := Lib.hid lies2
    clear ho2 hb2 EN lies2
    obtain ⟨LS, hLS⟩ : ∃ X, sealed [1, 0, 1, 0] = X := ⟨_, rfl⟩
    have NS : LS.length = 8 := by rw [← hLS]; rfl
    rw [hLS] at L2 ⊢
    have HLS := Lib.hid hLS
    clear hLS
    go_wp2_with fail
    refine (seal2_any _ _ [1, 0, 1, 0] _ (lies_lit _ _ _ [1, 0, 1, 0] _ rfl) (fun e => by cases e) (by decide)).mono ?_
    rw [HLS.out]
    rintro e w3 hr3
    obtain ⟨p3, c3, rfl, le3, _, n3, lies3, b3⟩ := hr3
    have al : Below w2.heap.size w2 (w2.alloc (.cells (bys [1, 0, 1, 0]).toArray 5)) := (Below.refl _ _).alloc (Nat.le_refl _) _
    have B3 := Lib.hid (thenBelow (thenBelow B2.out al) b3)
    have L3 := Lib.hid (L2.out.below (thenBelow al b3))
    have M3 := Lib.hid lies3
    clear al b3 lies3
    go_wp2_with fail
    refine (equal_any p2 p3 8 8 c2 c3 LS LS w3 L3.out M3.out NS.symm NS.symm).mono ?_
    rintro e w' ⟨rfl, rfl⟩
    have hbe : (LS == LS) = true := beq_self_eq_true _
    rw [hbe]
    go_wp2
    go_ret
    exact ⟨rfl, B3.out⟩
  · rw [may_bare] at hf; cases hf
end Go.Proofs.YtpngmjfnpdjjcaaDoor
/- May a message be gone through? -/
namespace Go.Proofs.YtpngmjfnpdjjcaaDoor
open Go Go.RowKit
set_option linter.unusedVariables false
set_option maxRecDepth 1000000

/-- may a message be gone through? -/
def SmM (w : World) (m : Mg) (e : Ending) (w' : World) : Prop := ∃ b, e = .returned (.bool b) ∧ (b = true → m.E.length ≤ 80 ∧ (∀ y ∈ m.E, y.e.gone.length ≤ 130) ∧ m.L.length ≤ 120) ∧ Below w.heap.size w w'
set_option maxHeartbeats 8000000 in
theorem smallM_is (m : Mg) (w : World) (hE : EvsAt w m.ep m.E) (hL : WrsAt w m.sp m.L) : Calls Tryd.prog 4 #[.agg m.cells.toArray] w (SmM w m) := by
  have HE := Lib.hid hE; have HW := Lib.hid hL
  clear hE hL
  go_enter Tryd.func4, Tryd.ntmps4
  go_wp2_with (refine wpList_gbox rfl _ rfl m.cells.toArray rfl ?_)
  intro g w1 l1 h1 hb1
  have X1 : Hid (Mx w1 g m) := Lib.hid h1
  have B1 := Lib.hid hb1
  have S1 : Hid (w1.rangeAt g 132 (scs m.seen (.slice m.sp m.L.length m.sc)).toList) := Lib.hid X1.out.parts.st
  clear h1 hb1
  go_wp2_with (refine wpList_gload rfl _ rfl g 132 rfl _ S1.out _ Tryd.underlying27 rfl (sizeStl _ _) ?_)
  refine (smallS_is m.seen m.sp m.sc m.L w1 (HW.out.below B1.out)).mono ?_
  rintro e w2 ⟨b2, rfl, hs2, hb2⟩
  have X2 := Lib.hid (X1.out.later hb2); have B2 := Lib.hid (thenBelow B1.out hb2)
  clear hb2 S1 X1 B1
  cases b2 with
  | false =>
    clear hs2
    go_wp2
    go_ret
    exact ⟨false, rfl, (fun h => by cases h), B2.out⟩
  | true =>
  have SL : Hid (m.L.length ≤ 120) := Lib.hid (hs2 rfl)
  clear hs2
  have k2 := X2.out.parts.evs
  have b3 := below_alloc w2 (.cells #[.slice m.ep m.E.length m.ec] 24)
  have B3 := Lib.hid (thenBelow B2.out b3)
  have n3 := heap_alloc_new w2 (.cells #[.slice m.ep m.E.length m.ec] 24)
  have E3 := Lib.hid (HE.out.below B3.out)
  have FW : Hid (Calls Tryd.prog 10 #[.slice (some ⟨w2.heap.size, 0, none⟩) 1 1] (w2.alloc (.cells #[.slice m.ep m.E.length m.ec] 24)) (FewR (w2.alloc (.cells #[.slice m.ep m.E.length m.ec] 24)) [⟨m.ep, m.ec, m.E⟩])) :=
    Lib.hid (fewE_is w2.heap.size 1 [⟨m.ep, m.ec, m.E⟩] _ (fun i hi => by
      obtain rfl : i = 0 := by simpa using hi
      exact ⟨(cell_of_row _ _ 0 _ _ _ n3).trans rfl, E3.out⟩) (by simp))
  clear b3 n3
  go_wp2_with fail
  generalize w2.alloc (.cells #[.slice m.ep m.E.length m.ec] 24) = w3 at B3 E3 FW ⊢
  refine FW.out.mono ?_
  rintro e w4 ⟨fw, rfl, hfw, hb4⟩
  have B4 := Lib.hid (thenBelow B3.out hb4)
  have FB : Hid (fw = true → m.E.length ≤ 80 ∧ (∀ y ∈ m.E, y.e.gone.length ≤ 130)) := Lib.hid fun h => by
    have := hfw h 0 (by simp)
    simpa [EvL.small] using this
  clear FW hb4 hfw E3 k2
  go_wp2
  go_ret
  exact ⟨fw, rfl, fun h => ⟨(FB.out h).1, (FB.out h).2, SL.out⟩, B4.out⟩
end Go.Proofs.YtpngmjfnpdjjcaaDoor
