/- The statement WireEncodes, proved for every input that its row reads: part 45 of 54. -/
import Derived.Test.YtapbeokocfmlpaaDoorPackWireEncodes20
import Derived.Test.YtapbeokocfmlpaaDoorPackWireEncodes44
import Derived.Test.YtapbeokocfmlpaaDoorPackWireEncodes31
import Derived.Test.YtapbeokocfmlpaaDoorPackWireEncodes38
import Derived.Test.YtapbeokocfmlpaaDoorPackWireEncodes8
import Derived.Test.YtapbeokocfmlpaaDoorPackWireEncodes28
import Derived.Test.YtapbeokocfmlpaaDoorPackWireEncodes40
import Derived.Test.YtapbeokocfmlpaaDoorPackWireEncodes42
import Derived.Test.YtapbeokocfmlpaaDoorPackWireEncodes27
/- What wire tells of a message: may it be, and its bytes. -/
namespace Go.Proofs.YtapbeokocfmlpaaDoor
open Go Go.RowKit
set_option linter.unusedVariables false
set_option maxRecDepth 1000000

/-- may a number be a replica's? -/
def repB (n : Int) : Bool := decide (n ≥ 0) && decide (n < 64)
def goM (m : Mg) : Bool := repB m.src && (repB m.dst && (!decide (m.src = m.dst) && (goodB m.ack && (goodB m.base && goodB m.floor))))
noncomputable def haveM (m : Mg) : Bool := decide (m.E.length ≤ 1024) && m.E.all fun x => decide (chk x.e = 0)
def noBaseM (m : Mg) : Bool := veq m.base (fun _ => 0)
def noFullM (m : Mg) : Bool := noState m.seen m.L && veq m.floor (fun _ => 0)
noncomputable def kindM (m : Mg) : Bool :=
  if m.kind = 1 then decide (m.E.length = 0) && (noBaseM m && noFullM m) else if m.kind = 2 then decide (m.E.length > 0) && noFullM m else if m.kind = 3 then canB m.seen m.L && noBaseM m else false
/-- may it be? -/
noncomputable def mayM (m : Mg) : Bool := goM m && (haveM m && kindM m)
/-- events' bytes -/
noncomputable def evsB (E : List EvP) : List UInt8 := Cod.enc E.length ++ E.flatMap fun x => wrB x.e
theorem evs_take (E : List EvP) (k : Nat) (h : k < E.length) : (E.take (k + 1)).flatMap (fun x => wrB x.e) = (E.take k).flatMap (fun x => wrB x.e) ++ wrB E[k].e := by
  rw [List.take_succ_eq_append_getElem h, List.flatMap_append]; simp
theorem evs_len (E : List EvP) : (E.flatMap fun x => wrB x.e).length ≤ 3000 * E.length := by
  induction E with
  | nil => simp
  | cons x E ih => rw [List.flatMap_cons, List.length_append, List.length_cons]; have := wrB_len x.e; omega
theorem evsB_len (E : List EvP) : (evsB E).length ≤ 9 + 3000 * E.length := by
  unfold evsB
  have h1 := enc_len E.length; have h2 := evs_len E
  rw [List.length_append]; omega
/-- a message's bytes, not sealed -/
noncomputable def mgB (m : Mg) : List UInt8 :=
  Cod.enc m.kind.toNat ++ Cod.enc m.src.toNat ++ Cod.enc m.dst.toNat ++ vbytes m.ack ++ (if m.kind = 2 then vbytes m.base ++ evsB m.E else if m.kind = 3 then stB m.seen m.L ++ vbytes m.floor ++ evsB m.E else [])
theorem may_parts {m : Mg} (h : mayM m = true) : (0 ≤ m.src ∧ m.src < 64) ∧ (0 ≤ m.dst ∧ m.dst < 64) ∧ (m.kind = 1 ∨ m.kind = 2 ∨ (m.kind = 3 ∧ canB m.seen m.L = true)) := by
  unfold mayM goM repB at h
  simp only [Bool.and_eq_true, decide_eq_true_eq] at h
  obtain ⟨⟨h1, h2, _⟩, _, h3⟩ := h
  refine ⟨by omega, by omega, ?_⟩
  unfold kindM at h3
  by_cases k1 : m.kind = 1
  · exact .inl k1
  rw [if_neg k1] at h3
  by_cases k2 : m.kind = 2
  · exact .inr (.inl k2)
  rw [if_neg k2] at h3
  by_cases k3 : m.kind = 3
  · rw [if_pos k3] at h3
    simp only [Bool.and_eq_true] at h3
    exact .inr (.inr ⟨k3, h3.1⟩)
  · rw [if_neg k3] at h3; cases h3
end Go.Proofs.YtapbeokocfmlpaaDoor
/- A message in a variable of its own; how wire tells whether it may go, and have its events. -/
namespace Go.Proofs.YtapbeokocfmlpaaDoor
open Go Go.RowKit
set_option linter.unusedVariables false
set_option maxRecDepth 1000000

/-- a message in a block of its own -/
def Mx (w : World) (g : Nat) (m : Mg) : Prop := w.heap[g]? = some (.cells m.cells.toArray 29 (0, 0))
theorem Mx.lt {w : World} {g : Nat} {m : Mg} (h : Mx w g m) : g < w.heap.size := (Array.getElem?_eq_some_iff.1 h).1
theorem Mx.later {w w' : World} {g : Nat} {m : Mg} (h : Mx w g m) (hb : Below w.heap.size w w') : Mx w' g m := (hb.block g h.lt).trans h
theorem Mx.whole {w : World} {g : Nat} {m : Mg} (h : Mx w g m) : w.rangeAt g 0 m.cells := by simpa using range_of_block h
/-- its cells, one by one -/
structure M0 (w : World) (g : Nat) (m : Mg) : Prop where
  kind : w.cell? ⟨g, 0, none⟩ = some (.int .i64 m.kind)
  src : w.cell? ⟨g, 1, none⟩ = some (.int .i64 m.src)
  dst : w.cell? ⟨g, 2, none⟩ = some (.int .i64 m.dst)
  ack : w.rangeAt g 3 (vf m.ack).toList
  base : w.rangeAt g 67 (vf m.base).toList
  evs : w.cell? ⟨g, 131, none⟩ = some (.slice m.ep m.E.length m.ec)
  st : w.rangeAt g 132 m.st.toList
  floor : w.rangeAt g 197 (vf m.floor).toList
theorem Mx.parts {w : World} {g : Nat} {m : Mg} (h : Mx w g m) : M0 w g m := by
  have k := mat_of h.whole
  obtain ⟨a, b, c, d, e, f, i, j⟩ := k
  simp only [Nat.zero_add] at a b c d e f i j
  exact ⟨a, b, c, d, e, f, i, j⟩

theorem replica_is (n : Int) (w : World) : Calls Tryd.prog 45 #[.int .i64 n] w (RetBool w (repB n)) := by
  unfold repB
  by_cases h0 : n ≥ 0
  · by_cases h1 : n < 64
    · have e : (decide (n ≥ 0) && decide (n < 64)) = true := by simp [h0, h1]
      rw [e]
      go_enter Tryd.func45, Tryd.ntmps45
      go_wp2
      go_ret
      exact ⟨rfl, Below.refl _ _⟩
    · have e : (decide (n ≥ 0) && decide (n < 64)) = false := by simp [h1]
      rw [e]
      go_enter Tryd.func45, Tryd.ntmps45
      go_wp2
      go_ret
      exact ⟨rfl, Below.refl _ _⟩
  · have e : (decide (n ≥ 0) && decide (n < 64)) = false := by simp [h0]
    rw [e]
    go_enter Tryd.func45, Tryd.ntmps45
    go_wp2
    go_ret
    exact ⟨rfl, Below.refl _ _⟩

set_option maxHeartbeats 8000000 in
theorem wireGo_is (m : Mg) (w : World) : Calls Tryd.prog 23 #[.agg m.cells.toArray] w (RetBool w (goM m)) := by
  obtain ⟨R1, h1⟩ : ∃ X, repB m.src = X := ⟨_, rfl⟩
  obtain ⟨R2, h2⟩ : ∃ X, repB m.dst = X := ⟨_, rfl⟩
  obtain ⟨G1, h3⟩ : ∃ X, goodB m.ack = X := ⟨_, rfl⟩
  obtain ⟨G2, h4⟩ : ∃ X, goodB m.base = X := ⟨_, rfl⟩
  obtain ⟨G3, h5⟩ : ∃ X, goodB m.floor = X := ⟨_, rfl⟩
  have P1 : Hid (∀ V : World, Calls Tryd.prog 45 #[.int .i64 m.src] V (RetBool V R1)) := Lib.hid fun V => by rw [← h1]; exact replica_is _ V
  have P2 : Hid (∀ V : World, Calls Tryd.prog 45 #[.int .i64 m.dst] V (RetBool V R2)) := Lib.hid fun V => by rw [← h2]; exact replica_is _ V
  have Q1 : Hid (∀ V : World, Calls Tryd.prog 46 #[.agg (vf m.ack)] V (RetBool V G1)) := Lib.hid fun V => by rw [← h3]; exact good_is _ V
  have Q2 : Hid (∀ V : World, Calls Tryd.prog 46 #[.agg (vf m.base)] V (RetBool V G2)) := Lib.hid fun V => by rw [← h4]; exact good_is _ V
  have Q3 : Hid (∀ V : World, Calls Tryd.prog 46 #[.agg (vf m.floor)] V (RetBool V G3)) := Lib.hid fun V => by rw [← h5]; exact good_is _ V
  have HR : Hid (goM m = (R1 && (R2 && (!decide (m.src = m.dst) && (G1 && (G2 && G3)))))) := Lib.hid (by unfold goM; rw [h1, h2, h3, h4, h5])
  clear h1 h2 h3 h4 h5
  go_enter Tryd.func23, Tryd.ntmps23
  go_wp2_with (refine wpList_gbox rfl _ rfl m.cells.toArray rfl ?_)
  intro g w1 l1 h1 hb1
  have X1 : Hid (Mx w1 g m) := Lib.hid h1
  have B1 := Lib.hid hb1
  clear h1 hb1
  have k1 := X1.out.parts.src
  go_wp2_with fail
  refine (P1.out w1).mono ?_
  rintro e w2 ⟨rfl, hb2⟩
  have X2 := Lib.hid (X1.out.later hb2); have B2 := Lib.hid (thenBelow B1.out hb2)
  clear hb2 P1 X1 B1 k1
  cases R1 with
  | false =>
    go_wp2
    go_ret
    exact ⟨by rw [HR.out]; rfl, B2.out⟩
  | true =>
  have k2 := X2.out.parts.dst
  go_wp2_with fail
  refine (P2.out w2).mono ?_
  rintro e w3 ⟨rfl, hb3⟩
  have X3 := Lib.hid (X2.out.later hb3); have B3 := Lib.hid (thenBelow B2.out hb3)
  clear hb3 P2 X2 B2 k2
  cases R2 with
  | false =>
    go_wp2
    go_ret
    exact ⟨by rw [HR.out]; rfl, B3.out⟩
  | true =>
  have k1 := X3.out.parts.src
  have k2 := X3.out.parts.dst
  have A3 := Lib.hid X3.out.parts.ack
  by_cases hsd : m.src = m.dst
  · have hne : (m.src != m.dst) = false := by simp [hsd]
    have HF : Hid (goM m = false) := Lib.hid (by rw [HR.out, decide_eq_true hsd]; rfl)
    clear hsd
    go_wp2
    go_ret
    exact ⟨by rw [HF.out]; rfl, B3.out⟩
  have hne : (m.src != m.dst) = true := by simp [hsd]
  have HR2 : Hid (goM m = (G1 && (G2 && G3))) := Lib.hid (by rw [HR.out, decide_eq_false hsd]; rfl)
  clear HR hsd
  go_wp2_with (refine wpList_gloadG (by rfl) _ rfl g 3 rfl _ A3.out _ Tryd.underlying23 rfl (sizeVcl m.ack) ?_)
  refine (Q1.out w3).mono ?_
  rintro e w4 ⟨rfl, hb4⟩
  have X4 := Lib.hid (X3.out.later hb4); have B4 := Lib.hid (thenBelow B3.out hb4)
  clear hb4 Q1 X3 B3 k1 k2 hne A3
  cases G1 with
  | false =>
    go_wp2
    go_ret
    exact ⟨by rw [HR2.out]; rfl, B4.out⟩
  | true =>
  have A4 := Lib.hid X4.out.parts.base
  go_wp2_with (refine wpList_gloadG (by rfl) _ rfl g 67 rfl _ A4.out _ Tryd.underlying23 rfl (sizeVcl m.base) ?_)
  refine (Q2.out w4).mono ?_
  rintro e w5 ⟨rfl, hb5⟩
  have X5 := Lib.hid (X4.out.later hb5); have B5 := Lib.hid (thenBelow B4.out hb5)
  clear hb5 Q2 X4 B4 A4
  cases G2 with
  | false =>
    go_wp2
    go_ret
    exact ⟨by rw [HR2.out]; rfl, B5.out⟩
  | true =>
  have A5 := Lib.hid X5.out.parts.floor
  go_wp2_with (refine wpList_gloadG (by rfl) _ rfl g 197 rfl _ A5.out _ Tryd.underlying23 rfl (sizeVcl m.floor) ?_)
  refine (Q3.out w5).mono ?_
  rintro e w6 ⟨rfl, hb6⟩
  have B6 := Lib.hid (thenBelow B5.out hb6)
  clear hb6 Q3 X5 B5 A5
  go_wp2
  go_ret
  exact ⟨by rw [HR2.out]; cases G3 <;> rfl, B6.out⟩

set_option maxHeartbeats 8000000 in
theorem mayHave_is (m : Mg) (w : World) (hE : EvsAt w m.ep m.E) (hT : Shapes w) : Calls Tryd.prog 24 #[.agg m.cells.toArray] w (RetBool w (haveM m)) := by
  have HE := Lib.hid hE; have HT := Lib.hid hT
  clear hE hT
  have HY : Hid (m.E.length ≤ 1024 → (∀ x ∈ m.E, chk x.e = 0) → haveM m = true) := Lib.hid fun h1 h2 => by unfold haveM; rw [decide_eq_true h1, Bool.true_and, List.all_eq_true]; exact fun x hx => decide_eq_true (h2 x hx)
  have HB : Hid (1024 < m.E.length → haveM m = false) := Lib.hid fun h1 => by unfold haveM; rw [decide_eq_false (by omega)]; rfl
  have HN : Hid ((∃ x ∈ m.E, chk x.e ≠ 0) → haveM m = false) := Lib.hid fun ⟨x, h1, h2⟩ => by
    unfold haveM
    have : (m.E.all fun x => decide (chk x.e = 0)) = false := by
      cases q : m.E.all fun x => decide (chk x.e = 0) with
      | false => rfl
      | true => exact absurd (of_decide_eq_true (List.all_eq_true.1 q x h1)) h2
    rw [this, Bool.and_false]
  obtain ⟨HM, hHM⟩ : ∃ X, haveM m = X := ⟨_, rfl⟩
  rw [hHM] at HY HB HN ⊢
  clear hHM
  go_enter Tryd.func24, Tryd.ntmps24
  go_wp2_with (refine wpList_gbox rfl _ rfl m.cells.toArray rfl ?_)
  intro g w1 l1 h1 hb1
  have X1 : Hid (Mx w1 g m) := Lib.hid h1
  have B1 := Lib.hid hb1
  clear h1 hb1
  have k1 := X1.out.parts.evs
  obtain ⟨mk, ms, md, ma, mb, ep, ec, E, msn, msp, msc, mL, mf⟩ := m
  simp only at HE HY HB HN k1
  by_cases hbig : 1024 < E.length
  · have hbig' : (E.length : Int) > 1024 := by omega
    have hf : HM = false := HB.out hbig
    subst hf
    clear hbig
    go_wp2
    go_ret
    exact ⟨rfl, B1.out⟩
  have hbig' : ¬ (E.length : Int) > 1024 := by omega
  go_wp2
  clear k1
  go_loopw [12] (fun i wr => ∃ k : Nat, k ≤ E.length ∧ i = .int .i64 k ∧ (∀ i (h : i < E.length), i < k → chk E[i].e = 0) ∧ Below w.heap.size w wr) (fun i _ => E.length - (RowKit.intOf i).toNat)
  case atStart => exact ⟨0, Nat.zero_le _, rfl, fun i _ h => by omega, B1.out⟩
  case round =>
    obtain ⟨k, hk, rfl, hall, hb⟩ := hrel
    have BB := Lib.hid hb; have HA := Lib.hid hall
    clear hall hb
    by_cases hkl : k < E.length
    · have hkl' : (k : Int) < E.length := by omega
      have HEr := Lib.hid (HE.out.below BB.out)
      obtain ⟨b, o, rfl, hlt, hq⟩ := HEr.out.at hkl
      have OK := Lib.hid (HEr.out.ok _ (List.getElem_mem hkl))
      obtain ⟨x, hx⟩ : ∃ x, E[k] = x := ⟨_, rfl⟩
      rw [hx] at hq OK
      have XC := Lib.hid hx
      have XM : Hid (x ∈ E) := Lib.hid (by rw [← hx]; exact List.getElem_mem hkl)
      clear hx
      obtain ⟨c0, c1, c2, c3, c4, c5, c6, c7⟩ := ev_cells hq
      clear hq
      obtain ⟨C, hC⟩ : ∃ C, chk x.e = C := ⟨_, rfl⟩
      have CK : Hid (∀ V : World, Below wr.heap.size wr V → Calls Tryd.prog 47 #[.agg x.cells.toArray] V (Check1 V C)) := Lib.hid fun V hV => by rw [← hC]; exact check_is x V (OK.out.below hV) (HT.out.below (thenBelow BB.out hV))
      have HC := Lib.hid hC
      clear hC OK
      obtain ⟨⟨r, n, t, kd, dd, fl, tx, gg⟩, gp, gc⟩ := x
      simp only at c0 c1 c2 c3 c4 c5 c6 c7
      have ba := below_alloc wr (.cells #[.int .i64 r, .int .i64 n, .int .i64 t, .int .i64 kd, .string dd, .int .i64 fl, .string tx, .slice gp gg.length gc] 55)
      have na := heap_alloc_new wr (.cells #[.int .i64 r, .int .i64 n, .int .i64 t, .int .i64 kd, .string dd, .int .i64 fl, .string tx, .slice gp gg.length gc] 55)
      have R4 : Hid ((wr.alloc (.cells #[.int .i64 r, .int .i64 n, .int .i64 t, .int .i64 kd, .string dd, .int .i64 fl, .string tx, .slice gp gg.length gc] 55)).rangeAt wr.heap.size 0 (EvP.cells ⟨⟨r, n, t, kd, dd, fl, tx, gg⟩, gp, gc⟩)) := Lib.hid (range_of_block na)
      have BA := Lib.hid ba
      have B5 := Lib.hid (thenBelow BB.out ba)
      clear ba na
      go_wp2_with (refine wpList_gload rfl _ rfl wr.heap.size 0 rfl _ R4.out _ Tryd.underlying55 rfl (sizeEv _) ?_)
      refine (CK.out _ BA.out).mono ?_
      rintro e w6 ⟨rfl, hb6⟩
      have B6 := Lib.hid (thenBelow B5.out hb6)
      clear hb6 c0 c1 c2 c3 c4 c5 c6 c7 CK R4 BA
      by_cases h0 : C = 0
      · subst h0
        have NA : Hid (∀ i (h : i < E.length), i < k + 1 → chk E[i].e = 0) := Lib.hid fun i h hi => by
          rcases Nat.lt_or_ge i k with h3 | h3
          · exact HA.out i h h3
          · obtain rfl : i = k := by omega
            rw [XC.out]; exact HC.out
        go_wp2
        go_roundw
        case rel => exact ⟨k + 1, by omega, by go_num, NA.out, B6.out⟩
        case measure => simp [RowKit.intOf]; omega
      · have hn : (C != 0) = true := by simpa using h0
        have hf : HM = false := HN.out ⟨_, XM.out, by rw [HC.out]; exact h0⟩
        subst hf
        clear h0
        go_wp2
        go_ret
        exact ⟨rfl, B6.out⟩
    · obtain rfl : k = E.length := by omega
      have hkl' : ¬ ((E.length : Nat) : Int) < E.length := by omega
      have ht : HM = true := HY.out (by omega) fun x hx => by
        obtain ⟨i, hi, rfl⟩ := List.getElem_of_mem hx
        exact HA.out i hi hi
      subst ht
      go_wp2
      go_ret
      exact ⟨rfl, BB.out⟩
end Go.Proofs.YtapbeokocfmlpaaDoor
/- The document's bytes of events behind others. -/
namespace Go.Proofs.YtapbeokocfmlpaaDoor
open Go Go.RowKit
set_option linter.unusedVariables false
set_option maxRecDepth 1000000

set_option maxHeartbeats 8000000 in
theorem refPutEvents_is (p : Option Addr) (c : Nat) (l : List UInt8) (ep : Option Addr) (ec : Nat) (E : List EvP) (w : World) (hb : Given w p c l) (hE : EvsAt w ep E) (hn : E.length ≤ 1024) (hlen : l.length ≤ 140737488350000) :
    Calls Tryd.prog 20 #[.slice p l.length c, .slice ep E.length ec] w (RetOwn w 5 (l ++ evsB E)) := by
  have HE := Lib.hid hE; have HG := Lib.hid hb
  have N4 := Lib.hid hn
  have WN : Hid ((Lit.int .i64 (E.length : Int)).wf = true) := Lib.hid (wf_ok (by omega))
  have EL := enc_len E.length
  have NM : Hid (Calls Tryd.prog 18 #[.slice p l.length c, .int .i64 (E.length : Int)] w (RetOwn w 5 (l ++ Cod.enc E.length))) := Lib.hid (by have := refNumW_any p c l (E.length : Int) w hb WN.out (by omega); simpa using this)
  clear hb hE hn
  obtain ⟨X, hX⟩ : ∃ X, l ++ evsB E = X := ⟨_, rfl⟩
  rw [hX]
  obtain ⟨LB, hLB⟩ : ∃ Y, l ++ Cod.enc E.length = Y := ⟨_, rfl⟩
  have HX : Hid (LB ++ E.flatMap (fun x => wrB x.e) = X) := Lib.hid (by rw [← hX, ← hLB]; unfold evsB; simp only [List.append_assoc])
  have nB : LB.length ≤ 140737488350009 := by rw [← hLB, List.length_append]; omega
  rw [hLB] at NM
  clear hX hLB
  go_enter Tryd.func20, Tryd.ntmps20
  go_wp2_with fail
  refine NM.out.mono ?_
  rintro e w1 ⟨v1, rfl, ho1, hb1⟩
  have O1 := Lib.hid ho1; have B1 := Lib.hid hb1
  clear ho1 hb1 NM
  go_wp2
  go_loopw [5, 14] (fun v i wr => ∃ (k : Nat) (LJ : List UInt8), k ≤ E.length ∧ i = .int .i64 k ∧ Hid (LJ = LB ++ (E.take k).flatMap (fun x => wrB x.e)) ∧ LJ.length ≤ 140737488350009 + 3000 * k ∧ wr.ownsRow w.heap.size 5 1 v LJ.length (bys LJ) ∧ Below w.heap.size w wr) (fun _ i _ => E.length - (RowKit.intOf i).toNat)
  case atStart => exact ⟨0, LB, Nat.zero_le _, rfl, Lib.hid (by simp), by omega, O1.out, B1.out⟩
  case round =>
    clear O1 B1
    obtain ⟨k, LJ, hk, rfl, HJ, hj, hown, hb⟩ := hrel
    have BB := Lib.hid hb; have OO := Lib.hid hown
    have hL4 : E.length ≤ 1024 := N4.out
    clear hown hb
    by_cases hkl : k < E.length
    · obtain ⟨p0, c0, hu5, hg0⟩ := own_given OO.out
      subst hu5
      have hkl' : (k : Int) < E.length := by omega
      have HEr := Lib.hid (HE.out.below BB.out)
      obtain ⟨b, o, rfl, hlt, hq⟩ := HEr.out.at hkl
      have OK := Lib.hid (HEr.out.ok _ (List.getElem_mem hkl))
      obtain ⟨x, hx⟩ : ∃ x, E[k] = x := ⟨_, rfl⟩
      rw [hx] at hq OK
      have yl := wrB_len x.e
      obtain ⟨LW, hLW⟩ : ∃ X, wrB x.e = X := ⟨_, rfl⟩
      have DW : Hid (∀ (p0 : Option Addr) (c0 : Nat) (V : World), Given V p0 c0 LJ → Below wr.heap.size wr V → Calls Tryd.prog 42 #[.slice p0 LJ.length c0, .agg x.cells.toArray] V (RetOwn V 5 (LJ ++ LW))) := Lib.hid fun p0 c0 V hG hV => by rw [← hLW]; exact refPutEvent_is p0 c0 LJ x V hG (OK.out.below hV) (by have := N4.out; omega)
      have HJ2 : Hid (LJ ++ LW = LB ++ (E.take (k + 1)).flatMap (fun x => wrB x.e)) := Lib.hid (by rw [evs_take E k hkl, HJ.out, hx, hLW, List.append_assoc])
      rw [hLW] at yl
      clear hLW HJ hx OK
      obtain ⟨c0', c1, c2, c3, c4, c5, c6, c7⟩ := ev_cells hq
      clear hq
      obtain ⟨⟨r, n, t, kd, dd, fl, tx, gg⟩, gp, gc⟩ := x
      simp only at c0' c1 c2 c3 c4 c5 c6 c7
      have ba := below_alloc wr (.cells #[.int .i64 r, .int .i64 n, .int .i64 t, .int .i64 kd, .string dd, .int .i64 fl, .string tx, .slice gp gg.length gc] 55)
      have na := heap_alloc_new wr (.cells #[.int .i64 r, .int .i64 n, .int .i64 t, .int .i64 kd, .string dd, .int .i64 fl, .string tx, .slice gp gg.length gc] 55)
      have R4 : Hid ((wr.alloc (.cells #[.int .i64 r, .int .i64 n, .int .i64 t, .int .i64 kd, .string dd, .int .i64 fl, .string tx, .slice gp gg.length gc] 55)).rangeAt wr.heap.size 0 (EvP.cells ⟨⟨r, n, t, kd, dd, fl, tx, gg⟩, gp, gc⟩)) := Lib.hid (range_of_block na)
      have BA := Lib.hid ba
      have B5 := Lib.hid (thenBelow BB.out ba); have G5 := Lib.hid (hg0.below ba)
      clear ba na OO
      go_wp2_with (refine wpList_gload rfl _ rfl wr.heap.size 0 rfl _ R4.out _ Tryd.underlying55 rfl (sizeEv _) ?_)
      refine (DW.out p0 c0 _ G5.out BA.out).mono ?_
      intro e w6 hr6
      obtain ⟨v7, rfl, o7, b7⟩ := hr6.after B5.out
      have O7 := Lib.hid o7; have B7 := Lib.hid b7
      have nJ : Hid ((LJ ++ LW).length ≤ 140737488350009 + 3000 * (k + 1)) := Lib.hid (by rw [List.length_append]; omega)
      clear hr6 o7 b7 DW R4 G5 c0' c1 c2 c3 c4 c5 c6 c7 BA
      go_wp2
      go_roundw
      case rel => exact ⟨k + 1, LJ ++ LW, by omega, by go_num, HJ2, nJ.out, O7.out, B7.out⟩
      case measure => simp [RowKit.intOf]; omega
    · obtain rfl : k = E.length := by omega
      have hkl' : ¬ ((E.length : Nat) : Int) < E.length := by omega
      have HJ2 : Hid (LJ = X) := Lib.hid (by rw [HJ.out, List.take_length]; exact HX.out)
      have FO : Hid (RetOwn w 5 X (.returned u5) wr) := Lib.hid (by rw [← HJ2.out]; exact ⟨u5, rfl, OO.out, BB.out⟩)
      clear HJ HJ2 OO hj
      go_wp2
      go_ret
      exact FO.out
end Go.Proofs.YtapbeokocfmlpaaDoor
/- docs: a state that was written is read. -/
namespace Go.Proofs.YtapbeokocfmlpaaDoor
open Go Go.RowKit
set_option linter.unusedVariables false
set_option maxRecDepth 1000000

theorem wts_drop (L : List Wr) (k : Nat) (h : k < L.length) : (L.drop k).flatMap wtB = wtB L[k] ++ (L.drop (k + 1)).flatMap wtB := by
  rw [List.drop_eq_getElem_cons h, List.flatMap_cons]
theorem wcl_step (L : List Wr) (k : Nat) (h : k < L.length) : wcl (L.take (k + 1)) = wcl (L.take k) ++ L[k].cells := by
  rw [List.take_succ_eq_append_getElem h, wcl_append]; simp [wcl]
theorem wts_len (L : List Wr) (h : ∀ y ∈ L, Small1 y) : (L.flatMap wtB).length ≤ 2100 * L.length := by
  induction L with
  | nil => simp
  | cons y L ih =>
    have h1 := wtB_len (h y (by simp))
    have h2 := ih fun z hz => h z (by simp [hz])
    rw [List.flatMap_cons, List.length_append, List.length_cons]; omega
end Go.Proofs.YtapbeokocfmlpaaDoor
/- May a message be gone through? -/
namespace Go.Proofs.YtapbeokocfmlpaaDoor
open Go Go.RowKit
set_option linter.unusedVariables false
set_option maxRecDepth 1000000

/-- may a message be gone through? -/
def SmM (w : World) (m : Mg) (e : Ending) (w' : World) : Prop := ∃ b, e = .returned (.bool b) ∧ (b = true → m.E.length ≤ 80 ∧ (∀ y ∈ m.E, y.e.gone.length ≤ 130) ∧ m.L.length ≤ 120) ∧ Below w.heap.size w w'
set_option maxHeartbeats 8000000 in
theorem smallM_is (m : Mg) (w : World) (hE : EvsAt w m.ep m.E) (hL : WrsAt w m.sp m.L) : Calls Tryd.prog 4 #[.agg m.cells.toArray] w (SmM w m) := by
  have HE := Lib.hid hE; have HW := Lib.hid hL
  clear hE hL
  go_enter Tryd.func4, Tryd.ntmps4
  go_wp2_with (refine wpList_gbox rfl _ rfl m.cells.toArray rfl ?_)
  intro g w1 l1 h1 hb1
  have X1 : Hid (Mx w1 g m) := Lib.hid h1
  have B1 := Lib.hid hb1
  have S1 : Hid (w1.rangeAt g 132 (scs m.seen (.slice m.sp m.L.length m.sc)).toList) := Lib.hid X1.out.parts.st
  clear h1 hb1
  go_wp2_with (refine wpList_gload rfl _ rfl g 132 rfl _ S1.out _ Tryd.underlying27 rfl (sizeStl _ _) ?_)
  refine (smallS_is m.seen m.sp m.sc m.L w1 (HW.out.below B1.out)).mono ?_
  rintro e w2 ⟨b2, rfl, hs2, hb2⟩
  have X2 := Lib.hid (X1.out.later hb2); have B2 := Lib.hid (thenBelow B1.out hb2)
  clear hb2 S1 X1 B1
  cases b2 with
  | false =>
    clear hs2
    go_wp2
    go_ret
    exact ⟨false, rfl, (fun h => by cases h), B2.out⟩
  | true =>
  have SL : Hid (m.L.length ≤ 120) := Lib.hid (hs2 rfl)
  clear hs2
  have k2 := X2.out.parts.evs
  have b3 := below_alloc w2 (.cells #[.slice m.ep m.E.length m.ec] 24)
  have B3 := Lib.hid (thenBelow B2.out b3)
  have n3 := heap_alloc_new w2 (.cells #[.slice m.ep m.E.length m.ec] 24)
  have E3 := Lib.hid (HE.out.below B3.out)
  have FW : Hid (Calls Tryd.prog 14 #[.slice (some ⟨w2.heap.size, 0, none⟩) 1 1] (w2.alloc (.cells #[.slice m.ep m.E.length m.ec] 24)) (FewR (w2.alloc (.cells #[.slice m.ep m.E.length m.ec] 24)) [⟨m.ep, m.ec, m.E⟩])) :=
    Lib.hid (fewE_is w2.heap.size 1 [⟨m.ep, m.ec, m.E⟩] _ (fun i hi => by
      obtain rfl : i = 0 := by simpa using hi
      exact ⟨(cell_of_row _ _ 0 _ _ _ n3).trans rfl, E3.out⟩) (by simp))
  clear b3 n3
  go_wp2_with fail
  generalize w2.alloc (.cells #[.slice m.ep m.E.length m.ec] 24) = w3 at B3 E3 FW ⊢
  refine FW.out.mono ?_
  rintro e w4 ⟨fw, rfl, hfw, hb4⟩
  have B4 := Lib.hid (thenBelow B3.out hb4)
  have FB : Hid (fw = true → m.E.length ≤ 80 ∧ (∀ y ∈ m.E, y.e.gone.length ≤ 130)) := Lib.hid fun h => by
    have := hfw h 0 (by simp)
    simpa [EvL.small] using this
  clear FW hb4 hfw E3 k2
  go_wp2
  go_ret
  exact ⟨fw, rfl, fun h => ⟨(FB.out h).1, (FB.out h).2, SL.out⟩, B4.out⟩
end Go.Proofs.YtapbeokocfmlpaaDoor
