/- The statement WireBack, proved for every input that its row reads: part 45 of 54. -/
import Derived.Test.YtpngmjfnpdjjcaaDoorPackWireBack20
import Derived.Test.YtpngmjfnpdjjcaaDoorPackWireBack43
import Derived.Test.YtpngmjfnpdjjcaaDoorPackWireBack31
import Derived.Test.YtpngmjfnpdjjcaaDoorPackWireBack38
import Derived.Test.YtpngmjfnpdjjcaaDoorPackWireBack10
import Derived.Test.YtpngmjfnpdjjcaaDoorPackWireBack8
import Derived.Test.YtpngmjfnpdjjcaaDoorPackWireBack28
import Derived.Test.YtpngmjfnpdjjcaaDoorPackWireBack44
import Derived.Test.YtpngmjfnpdjjcaaDoorPackWireBack40
/- What wire tells of a message: may it be, and its bytes. -/
namespace Go.Proofs.YtpngmjfnpdjjcaaDoor
open Go Go.RowKit
set_option linter.unusedVariables false
set_option maxRecDepth 1000000

/-- may a number be a replica's? -/
def repB (n : Int) : Bool := decide (n ≥ 0) && decide (n < 64)
def goM (m : Mg) : Bool := repB m.src && (repB m.dst && (!decide (m.src = m.dst) && (goodB m.ack && (goodB m.base && goodB m.floor))))
noncomputable def haveM (m : Mg) : Bool := decide (m.E.length ≤ 1024) && m.E.all fun x => decide (chk x.e = 0)
def noBaseM (m : Mg) : Bool := veq m.base (fun _ => 0)
def noFullM (m : Mg) : Bool := noState m.seen m.L && veq m.floor (fun _ => 0)
noncomputable def kindM (m : Mg) : Bool :=
  if m.kind = 1 then decide (m.E.length = 0) && (noBaseM m && noFullM m) else if m.kind = 2 then decide (m.E.length > 0) && noFullM m else if m.kind = 3 then canB m.seen m.L && noBaseM m else false
/-- may it be? -/
noncomputable def mayM (m : Mg) : Bool := goM m && (haveM m && kindM m)
/-- events' bytes -/
noncomputable def evsB (E : List EvP) : List UInt8 := Cod.enc E.length ++ E.flatMap fun x => wrB x.e
theorem evs_take (E : List EvP) (k : Nat) (h : k < E.length) : (E.take (k + 1)).flatMap (fun x => wrB x.e) = (E.take k).flatMap (fun x => wrB x.e) ++ wrB E[k].e := by
  rw [List.take_succ_eq_append_getElem h, List.flatMap_append]; simp
theorem evs_len (E : List EvP) : (E.flatMap fun x => wrB x.e).length ≤ 3000 * E.length := by
  induction E with
  | nil => simp
  | cons x E ih => rw [List.flatMap_cons, List.length_append, List.length_cons]; have := wrB_len x.e; omega
theorem evsB_len (E : List EvP) : (evsB E).length ≤ 9 + 3000 * E.length := by
  unfold evsB
  have h1 := enc_len E.length; have h2 := evs_len E
  rw [List.length_append]; omega
/-- a message's bytes, not sealed -/
noncomputable def mgB (m : Mg) : List UInt8 :=
  Cod.enc m.kind.toNat ++ Cod.enc m.src.toNat ++ Cod.enc m.dst.toNat ++ vbytes m.ack ++ (if m.kind = 2 then vbytes m.base ++ evsB m.E else if m.kind = 3 then stB m.seen m.L ++ vbytes m.floor ++ evsB m.E else [])
theorem may_parts {m : Mg} (h : mayM m = true) : (0 ≤ m.src ∧ m.src < 64) ∧ (0 ≤ m.dst ∧ m.dst < 64) ∧ (m.kind = 1 ∨ m.kind = 2 ∨ (m.kind = 3 ∧ canB m.seen m.L = true)) := by
  unfold mayM goM repB at h
  simp only [Bool.and_eq_true, decide_eq_true_eq] at h
  obtain ⟨⟨h1, h2, _⟩, _, h3⟩ := h
  refine ⟨by omega, by omega, ?_⟩
  unfold kindM at h3
  by_cases k1 : m.kind = 1
  · exact .inl k1
  rw [if_neg k1] at h3
  by_cases k2 : m.kind = 2
  · exact .inr (.inl k2)
  rw [if_neg k2] at h3
  by_cases k3 : m.kind = 3
  · rw [if_pos k3] at h3
    simp only [Bool.and_eq_true] at h3
    exact .inr (.inr ⟨k3, h3.1⟩)
  · rw [if_neg k3] at h3; cases h3
end Go.Proofs.YtpngmjfnpdjjcaaDoor
/- past.ReadEvents of what PutEvents wrote. -/
namespace Go.Proofs.YtpngmjfnpdjjcaaDoor
open Go Go.RowKit
set_option linter.unusedVariables false
set_option maxRecDepth 1000000

/-- what reading events comes to -/
def GotEvs (w : World) (B : Nat) (es : List Ev) (l : List UInt8) (e : Ending) (w' : World) : Prop := ∃ v ys, e = .returned v ∧ OwnE w' w.heap.size v ys ∧ evs ys = es ∧ Rd w' B l ∧ w.grownBy w' (some B)
theorem ecl_snoc (ys : List EvP) (x : EvP) : ecl (ys ++ [x]) = ecl ys ++ x.cells := by unfold ecl; rw [List.flatMap_append]; simp
theorem evs_drop (E : List EvP) (k : Nat) (h : k < E.length) : (E.drop k).flatMap (fun x => wrB x.e) = wrB E[k].e ++ (E.drop (k + 1)).flatMap (fun x => wrB x.e) := by
  rw [List.drop_eq_getElem_cons h, List.flatMap_cons]
set_option maxHeartbeats 8000000 in
theorem readEvents_live (B : Nat) (E : List EvP) (l : List UInt8) (w : World) (h : Rd w B (evsB E ++ l)) (hE : ∀ x ∈ E, chk x.e = 0) (hn : E.length ≤ 1024) (hT : ∀ w', w.grownBy w' (some B) → Shapes w') (hl : l.length ≤ 140000000000000) :
    Calls Tryd.prog 33 #[.pointer (some ⟨B, 0, none⟩), .int .i64 1024] w (GotEvs w B (evs E) l) := by
  have HB := Lib.hid h.lt'
  have HE := Lib.hid hE; have HT := Lib.hid hT; have N4 := Lib.hid hn
  obtain ⟨T2, hT2⟩ : ∃ X, (E.flatMap fun x => wrB x.e) ++ l = X := ⟨_, rfl⟩
  have nT2 : T2.length ≤ 140000004000000 := by rw [← hT2, List.length_append]; have := evs_len E; omega
  have e1 := enc_len E.length
  have h' : Rd w B (Cod.enc E.length ++ T2) := by
    have := h
    unfold evsB at this
    rwa [List.append_assoc, hT2] at this
  have N9 := Lib.hid (numIn_live B E.length 1024 T2 w h' (by omega) (by omega) (by rw [List.length_append]; omega))
  have Q2 := Lib.hid hT2
  clear h hE hT hn h' hT2
  go_enter Tryd.func33, Tryd.ntmps33
  go_wp2_with fail
  refine N9.out.mono ?_
  rintro e w1 ⟨rfl, hr, hg⟩
  have G1 := Lib.hid hg; have R1 := Lib.hid hr
  clear hr hg N9
  go_wp2
  go_loopw [5, 10] (fun u i wr => ∃ (j : Nat) (ys : List EvP) (TJ : List UInt8), j ≤ E.length ∧ i = .int .i64 j ∧ ys.length = j ∧ Hid (evs ys = evs (E.take j)) ∧ Hid (TJ = ((E.drop j).flatMap fun x => wrB x.e) ++ l) ∧ OwnE wr w.heap.size u ys ∧ Rd wr B TJ ∧ w.grownBy wr (some B)) (fun _ i _ => E.length - (RowKit.intOf i).toNat)
  case atStart => exact ⟨0, [], T2, Nat.zero_le _, rfl, rfl, Lib.hid rfl, Lib.hid (by simpa using Q2.out.symm), ⟨World.ownsRow_nil _ _ _ _, fun _ h => absurd h (List.not_mem_nil)⟩, R1.out, G1.out⟩
  case round =>
    clear Q2 R1 G1
    obtain ⟨j, ys, TJ, hj, rfl, hys, HYS, HTJ, hown, hrd, hgr⟩ := hrel
    have OW := Lib.hid hown; have RD := Lib.hid hrd; have GR := Lib.hid hgr
    have LY := Lib.hid hys
    clear hown hrd hgr hys
    by_cases hjk : j < E.length
    · have hjk' : (j : Int) < E.length := by omega
      have hL4 : E.length ≤ 1024 := N4.out
      have FD := Lib.hid (evs_drop E j hjk)
      have hck := HE.out _ (List.getElem_mem hjk)
      have HS : Hid (evs (E.take (j + 1)) = evs (E.take j) ++ [E[j].e]) := Lib.hid (by
        rw [List.take_succ_eq_append_getElem hjk]
        unfold evs
        rw [List.map_append]; rfl)
      obtain ⟨z, hz⟩ : ∃ z, E[j].e = z := ⟨_, rfl⟩
      rw [hz] at FD hck HS
      clear hz
      have hw : wrB z = evB z := by unfold wrB; rw [if_pos hck]
      rw [hw] at FD
      obtain ⟨TK, hTK⟩ : ∃ X, ((E.drop (j + 1)).flatMap fun x => wrB x.e) ++ l = X := ⟨_, rfl⟩
      have nK : TK.length ≤ 140000004000000 := by
        rw [← hTK, List.length_append]
        have := evs_len (E.drop (j + 1))
        have h1 : (E.drop (j + 1)).length ≤ E.length := by rw [List.length_drop]; omega
        omega
      have HTK := Lib.hid hTK.symm
      have hTJ : TJ = evB z ++ TK := by rw [HTJ.out, FD.out, List.append_assoc, hTK]
      clear hTK
      have RDT : Hid (Calls Tryd.prog 54 #[.pointer (some ⟨B, 0, none⟩)] wr (GotEvO wr B z TK)) := Lib.hid (readEvent_liveO B z TK wr (by rw [← hTJ]; exact RD.out) hck (fun w' hg => HT.out w' (grown_trans GR.out hg)) (by omega))
      clear hTJ FD HTJ hw hck
      go_wp2_with fail
      refine RDT.out.mono ?_
      rintro e w2 ⟨x, hx, rfl, hgo, hr2, hg2⟩
      have GS := Lib.hid (grown_trans GR.out hg2)
      have R2 := Lib.hid hr2
      have LO := GR.out.size
      have O2 : Hid (OwnE w2 w.heap.size u5 ys) := Lib.hid ⟨own_keep OW.out.row hg2 (own_above OW.out.row HB.out), fun y hy => own_keep (OW.out.gone y hy) hg2 (own_above (OW.out.gone y hy) HB.out)⟩
      have X2 : Hid (w2.ownsRow w.heap.size 53 2 (.slice x.p x.e.gone.length x.c) x.e.gone.length (dcl x.e.gone)) := Lib.hid (own_base hgo LO)
      have HX := Lib.hid hx
      clear hgo hr2 hg2 OW RD GR RDT hx
      obtain ⟨⟨r, n, t, kd, d, fl, tx, gn⟩, gp, gc⟩ := x
      have ba := below_alloc w2 (.cells #[.int .i64 r, .int .i64 n, .int .i64 t, .int .i64 kd, .string d, .int .i64 fl, .string tx, .slice gp gn.length gc] 59)
      have na := heap_alloc_new w2 (.cells #[.int .i64 r, .int .i64 n, .int .i64 t, .int .i64 kd, .string d, .int .i64 fl, .string tx, .slice gp gn.length gc] 59)
      have O3 := Lib.hid (O2.out.later ba); have X3 := Lib.hid (own_later X2.out ba)
      have R3 := Lib.hid (R2.out.on ba)
      have G3 := Lib.hid (grown_on GS.out (ba.mono GS.out.size))
      have hz3 : w.heap.size ≤ w2.heap.size := GS.out.size
      have D3 : Hid ((w2.alloc (.cells #[.int .i64 r, .int .i64 n, .int .i64 t, .int .i64 kd, .string d, .int .i64 fl, .string tx, .slice gp gn.length gc] 59)).rangeAt w2.heap.size 0 (EvP.cells ⟨⟨r, n, t, kd, d, fl, tx, gn⟩, gp, gc⟩)) := Lib.hid (range_of_block na)
      have ER := Lib.hid (err_live B TK _ R3.out)
      have hz4 := Nat.le_trans hz3 ba.size
      clear ba na O2 X2 R2 GS
      rw [show (EvP.cells ⟨⟨r, n, t, kd, d, fl, tx, gn⟩, gp, gc⟩).toArray = #[.int .i64 r, .int .i64 n, .int .i64 t, .int .i64 kd, .string d, .int .i64 fl, .string tx, .slice gp gn.length gc] from rfl]
      go_wp2_with fail
      refine ER.out.mono ?_
      rintro e w4 ⟨rfl, rfl⟩
      obtain ⟨g6, hg6⟩ : ∃ g, g = w2.heap.size := ⟨_, rfl⟩
      rw [← hg6] at D3 ⊢
      generalize (w2.alloc (.cells #[.int .i64 r, .int .i64 n, .int .i64 t, .int .i64 kd, .string d, .int .i64 fl, .string tx, .slice gp gn.length gc] 59)) = w3 at O3 X3 R3 G3 D3 ER hz4 ⊢
      obtain ⟨c0, c1, c2, c3, c4, c5, c6, c7⟩ := ev_cells D3.out
      simp only [Nat.zero_add] at c0 c1 c2 c3 c4 c5 c6 c7
      clear D3 ER hg6
      obtain ⟨XX, hXX⟩ : ∃ X : EvP, X = ⟨⟨r, n, t, kd, d, fl, tx, gn⟩, gp, gc⟩ := ⟨_, rfl⟩
      go_wp2_with (at_builtin; refine wpList_ev w3 rfl _ _ rfl w.heap.size ys.length (ecl ys) u5 rfl O3.out.row ⟨⟨r, n, t, kd, d, fl, tx, gn⟩, gp, gc⟩ rfl (by have := LY.out; omega) hz4 ?_)
      intro v8 w8 o8 g8
      have b8 : Below w.heap.size w3 w8 := (Below.refl _ _).grown g8 hz4 (fun k hk => (O3.out.row.lt k hk).1)
      have R8 := Lib.hid (R3.out.under' HB.out b8)
      have G8 := Lib.hid (grown_on G3.out b8)
      have O8 : Hid (OwnE w8 w.heap.size v8 (ys ++ [⟨⟨r, n, t, kd, d, fl, tx, gn⟩, gp, gc⟩])) := Lib.hid ⟨by rw [ecl_snoc, List.length_append]; exact o8, fun y hy => by
        rcases List.mem_append.1 hy with h | h
        · exact own_keep (O3.out.gone y h) g8 (own_apart (O3.out.gone y h) O3.out.row (by decide))
        · obtain rfl := List.mem_singleton.1 h
          exact own_keep X3.out g8 (own_apart X3.out O3.out.row (by decide))⟩
      have HE8 : Hid (evs (ys ++ [⟨⟨r, n, t, kd, d, fl, tx, gn⟩, gp, gc⟩]) = evs (E.take (j + 1))) := Lib.hid (by
        rw [HS.out, ← HYS.out, ← HX.out]
        unfold evs
        rw [List.map_append]; rfl)
      have L8 : Hid ((ys ++ [(⟨⟨r, n, t, kd, d, fl, tx, gn⟩, gp, gc⟩ : EvP)]).length = j + 1) := Lib.hid (by rw [List.length_append, LY.out]; rfl)
      clear o8 g8 b8 O3 X3 R3 G3 c0 c1 c2 c3 c4 c5 c6 c7 hXX
      go_wp2
      go_roundw
      case rel => exact ⟨j + 1, _, TK, by omega, by go_num, L8.out, HE8, HTK, O8.out, R8.out, G8.out⟩
      case measure => simp [RowKit.intOf]; omega
    · obtain rfl : j = E.length := by omega
      have hjk' : ¬ ((E.length : Nat) : Int) < E.length := by omega
      have HL : Hid (TJ = l) := Lib.hid (by rw [HTJ.out, List.drop_length]; rfl)
      have HY : Hid (evs ys = evs E) := Lib.hid (by rw [HYS.out, List.take_length])
      have FO : Hid (GotEvs w B (evs E) l (.returned u5) wr) := Lib.hid ⟨u5, ys, rfl, OW.out, HY.out, by rw [← HL.out]; exact RD.out, GR.out⟩
      clear HTJ HYS HL HY OW RD GR
      go_wp2
      go_ret
      exact FO.out
end Go.Proofs.YtpngmjfnpdjjcaaDoor
/- A message in a variable of its own; how wire tells whether it may go, and have its events. -/
namespace Go.Proofs.YtpngmjfnpdjjcaaDoor
open Go Go.RowKit
set_option linter.unusedVariables false
set_option maxRecDepth 1000000

/-- a message in a block of its own -/
def Mx (w : World) (g : Nat) (m : Mg) : Prop := w.heap[g]? = some (.cells m.cells.toArray 29 (0, 0))
theorem Mx.lt {w : World} {g : Nat} {m : Mg} (h : Mx w g m) : g < w.heap.size := (Array.getElem?_eq_some_iff.1 h).1
theorem Mx.later {w w' : World} {g : Nat} {m : Mg} (h : Mx w g m) (hb : Below w.heap.size w w') : Mx w' g m := (hb.block g h.lt).trans h
theorem Mx.whole {w : World} {g : Nat} {m : Mg} (h : Mx w g m) : w.rangeAt g 0 m.cells := by simpa using range_of_block h
/-- its cells, one by one -/
structure M0 (w : World) (g : Nat) (m : Mg) : Prop where
  kind : w.cell? ⟨g, 0, none⟩ = some (.int .i64 m.kind)
  src : w.cell? ⟨g, 1, none⟩ = some (.int .i64 m.src)
  dst : w.cell? ⟨g, 2, none⟩ = some (.int .i64 m.dst)
  ack : w.rangeAt g 3 (vf m.ack).toList
  base : w.rangeAt g 67 (vf m.base).toList
  evs : w.cell? ⟨g, 131, none⟩ = some (.slice m.ep m.E.length m.ec)
  st : w.rangeAt g 132 m.st.toList
  floor : w.rangeAt g 197 (vf m.floor).toList
theorem Mx.parts {w : World} {g : Nat} {m : Mg} (h : Mx w g m) : M0 w g m := by
  have k := mat_of h.whole
  obtain ⟨a, b, c, d, e, f, i, j⟩ := k
  simp only [Nat.zero_add] at a b c d e f i j
  exact ⟨a, b, c, d, e, f, i, j⟩

theorem replica_is (n : Int) (w : World) : Calls Tryd.prog 40 #[.int .i64 n] w (RetBool w (repB n)) := by
  unfold repB
  by_cases h0 : n ≥ 0
  · by_cases h1 : n < 64
    · have e : (decide (n ≥ 0) && decide (n < 64)) = true := by simp [h0, h1]
      rw [e]
      go_enter Tryd.func40, Tryd.ntmps40
      go_wp2
      go_ret
      exact ⟨rfl, Below.refl _ _⟩
    · have e : (decide (n ≥ 0) && decide (n < 64)) = false := by simp [h1]
      rw [e]
      go_enter Tryd.func40, Tryd.ntmps40
      go_wp2
      go_ret
      exact ⟨rfl, Below.refl _ _⟩
  · have e : (decide (n ≥ 0) && decide (n < 64)) = false := by simp [h0]
    rw [e]
    go_enter Tryd.func40, Tryd.ntmps40
    go_wp2
    go_ret
    exact ⟨rfl, Below.refl _ _⟩

set_option maxHeartbeats 8000000 in
theorem wireGo_is (m : Mg) (w : World) : Calls Tryd.prog 23 #[.agg m.cells.toArray] w (RetBool w (goM m)) := by
  obtain ⟨R1, h1⟩ : ∃ X, repB m.src = X := ⟨_, rfl⟩
  obtain ⟨R2, h2⟩ : ∃ X, repB m.dst = X := ⟨_, rfl⟩
  obtain ⟨G1, h3⟩ : ∃ X, goodB m.ack = X := ⟨_, rfl⟩
  obtain ⟨G2, h4⟩ : ∃ X, goodB m.base = X := ⟨_, rfl⟩
  obtain ⟨G3, h5⟩ : ∃ X, goodB m.floor = X := ⟨_, rfl⟩
  have P1 : Hid (∀ V : World, Calls Tryd.prog 40 #[.int .i64 m.src] V (RetBool V R1)) := Lib.hid fun V => by rw [← h1]; exact replica_is _ V
  have P2 : Hid (∀ V : World, Calls Tryd.prog 40 #[.int .i64 m.dst] V (RetBool V R2)) := Lib.hid fun V => by rw [← h2]; exact replica_is _ V
  have Q1 : Hid (∀ V : World, Calls Tryd.prog 41 #[.agg (vf m.ack)] V (RetBool V G1)) := Lib.hid fun V => by rw [← h3]; exact good_is _ V
  have Q2 : Hid (∀ V : World, Calls Tryd.prog 41 #[.agg (vf m.base)] V (RetBool V G2)) := Lib.hid fun V => by rw [← h4]; exact good_is _ V
  have Q3 : Hid (∀ V : World, Calls Tryd.prog 41 #[.agg (vf m.floor)] V (RetBool V G3)) := Lib.hid fun V => by rw [← h5]; exact good_is _ V
  have HR : Hid (goM m = (R1 && (R2 && (!decide (m.src = m.dst) && (G1 && (G2 && G3)))))) := Lib.hid (by unfold goM; rw [h1, h2, h3, h4, h5])
  clear h1 h2 h3 h4 h5
  go_enter Tryd.func23, Tryd.ntmps23
  go_wp2_with (refine wpList_gbox rfl _ rfl m.cells.toArray rfl ?_)
  intro g w1 l1 h1 hb1
  have X1 : Hid (Mx w1 g m) := Lib.hid h1
  have B1 := Lib.hid hb1
  clear h1 hb1
  have k1 := X1.out.parts.src
  go_wp2_with fail
  refine (P1.out w1).mono ?_
  rintro e w2 ⟨rfl, hb2⟩
  have X2 := Lib.hid (X1.out.later hb2); have B2 := Lib.hid (thenBelow B1.out hb2)
  clear hb2 P1 X1 B1 k1
  cases R1 with
  | false =>
    go_wp2
    go_ret
    exact ⟨by rw [HR.out]; rfl, B2.out⟩
  | true =>
  have k2 := X2.out.parts.dst
  go_wp2_with fail
  refine (P2.out w2).mono ?_
  rintro e w3 ⟨rfl, hb3⟩
  have X3 := Lib.hid (X2.out.later hb3); have B3 := Lib.hid (thenBelow B2.out hb3)
  clear hb3 P2 X2 B2 k2
  cases R2 with
  | false =>
    go_wp2
    go_ret
    exact ⟨by rw [HR.out]; rfl, B3.out⟩
  | true =>
  have k1 := X3.out.parts.src
  have k2 := X3.out.parts.dst
  have A3 := Lib.hid X3.out.parts.ack
  by_cases hsd : m.src = m.dst
  · have hne : (m.src != m.dst) = false := by simp [hsd]
    have HF : Hid (goM m = false) := Lib.hid (by rw [HR.out, decide_eq_true hsd]; rfl)
    clear hsd
    go_wp2
    go_ret
    exact ⟨by rw [HF.out]; rfl, B3.out⟩
  have hne : (m.src != m.dst) = true := by simp [hsd]
  have HR2 : Hid (goM m = (G1 && (G2 && G3))) := Lib.hid (by rw [HR.out, decide_eq_false hsd]; rfl)
  clear HR hsd
  go_wp2_with (refine wpList_gloadG (by rfl) _ rfl g 3 rfl _ A3.out _ Tryd.underlying23 rfl (sizeVcl m.ack) ?_)
  refine (Q1.out w3).mono ?_
  rintro e w4 ⟨rfl, hb4⟩
  have X4 := Lib.hid (X3.out.later hb4); have B4 := Lib.hid (thenBelow B3.out hb4)
  clear hb4 Q1 X3 B3 k1 k2 hne A3
  cases G1 with
  | false =>
    go_wp2
    go_ret
    exact ⟨by rw [HR2.out]; rfl, B4.out⟩
  | true =>
  have A4 := Lib.hid X4.out.parts.base
  go_wp2_with (refine wpList_gloadG (by rfl) _ rfl g 67 rfl _ A4.out _ Tryd.underlying23 rfl (sizeVcl m.base) ?_)
  refine (Q2.out w4).mono ?_
  rintro e w5 ⟨rfl, hb5⟩
  have X5 := Lib.hid (X4.out.later hb5); have B5 := Lib.hid (thenBelow B4.out hb5)
  clear hb5 Q2 X4 B4 A4
  cases G2 with
  | false =>
    go_wp2
    go_ret
    exact ⟨by rw [HR2.out]; rfl, B5.out⟩
  | true =>
  have A5 := Lib.hid X5.out.parts.floor
  go_wp2_with (refine wpList_gloadG (by rfl) _ rfl g 197 rfl _ A5.out _ Tryd.underlying23 rfl (sizeVcl m.floor) ?_)
  refine (Q3.out w5).mono ?_
  rintro e w6 ⟨rfl, hb6⟩
  have B6 := Lib.hid (thenBelow B5.out hb6)
  clear hb6 Q3 X5 B5 A5
  go_wp2
  go_ret
  exact ⟨by rw [HR2.out]; cases G3 <;> rfl, B6.out⟩

set_option maxHeartbeats 8000000 in
theorem mayHave_is (m : Mg) (w : World) (hE : EvsAt w m.ep m.E) (hT : Shapes w) : Calls Tryd.prog 24 #[.agg m.cells.toArray] w (RetBool w (haveM m)) := by
  have HE := Lib.hid hE; have HT := Lib.hid hT
  clear hE hT
  have HY : Hid (m.E.length ≤ 1024 → (∀ x ∈ m.E, chk x.e = 0) → haveM m = true) := Lib.hid fun h1 h2 => by unfold haveM; rw [decide_eq_true h1, Bool.true_and, List.all_eq_true]; exact fun x hx => decide_eq_true (h2 x hx)
  have HB : Hid (1024 < m.E.length → haveM m = false) := Lib.hid fun h1 => by unfold haveM; rw [decide_eq_false (by omega)]; rfl
  have HN : Hid ((∃ x ∈ m.E, chk x.e ≠ 0) → haveM m = false) := Lib.hid fun ⟨x, h1, h2⟩ => by
    unfold haveM
    have : (m.E.all fun x => decide (chk x.e = 0)) = false := by
      cases q : m.E.all fun x => decide (chk x.e = 0) with
      | false => rfl
      | true => exact absurd (of_decide_eq_true (List.all_eq_true.1 q x h1)) h2
    rw [this, Bool.and_false]
  obtain ⟨HM, hHM⟩ : ∃ X, haveM m = X := ⟨_, rfl⟩
  rw [hHM] at HY HB HN ⊢
  clear hHM
  go_enter Tryd.func24, Tryd.ntmps24
  go_wp2_with (refine wpList_gbox rfl _ rfl m.cells.toArray rfl ?_)
  intro g w1 l1 h1 hb1
  have X1 : Hid (Mx w1 g m) := Lib.hid h1
  have B1 := Lib.hid hb1
  clear h1 hb1
  have k1 := X1.out.parts.evs
  obtain ⟨mk, ms, md, ma, mb, ep, ec, E, msn, msp, msc, mL, mf⟩ := m
  simp only at HE HY HB HN k1
  by_cases hbig : 1024 < E.length
  · have hbig' : (E.length : Int) > 1024 := by omega
    have hf : HM = false := HB.out hbig
    subst hf
    clear hbig
    go_wp2
    go_ret
    exact ⟨rfl, B1.out⟩
  have hbig' : ¬ (E.length : Int) > 1024 := by omega
  go_wp2
  clear k1
  go_loopw [12] (fun i wr => ∃ k : Nat, k ≤ E.length ∧ i = .int .i64 k ∧ (∀ i (h : i < E.length), i < k → chk E[i].e = 0) ∧ Below w.heap.size w wr) (fun i _ => E.length - (RowKit.intOf i).toNat)
  case atStart => exact ⟨0, Nat.zero_le _, rfl, fun i _ h => by omega, B1.out⟩
  case round =>
    obtain ⟨k, hk, rfl, hall, hb⟩ := hrel
    have BB := Lib.hid hb; have HA := Lib.hid hall
    clear hall hb
    by_cases hkl : k < E.length
    · have hkl' : (k : Int) < E.length := by omega
      have HEr := Lib.hid (HE.out.below BB.out)
      obtain ⟨b, o, rfl, hlt, hq⟩ := HEr.out.at hkl
      have OK := Lib.hid (HEr.out.ok _ (List.getElem_mem hkl))
      obtain ⟨x, hx⟩ : ∃ x, E[k] = x := ⟨_, rfl⟩
      rw [hx] at hq OK
      have XC := Lib.hid hx
      have XM : Hid (x ∈ E) := Lib.hid (by rw [← hx]; exact List.getElem_mem hkl)
      clear hx
      obtain ⟨c0, c1, c2, c3, c4, c5, c6, c7⟩ := ev_cells hq
      clear hq
      obtain ⟨C, hC⟩ : ∃ C, chk x.e = C := ⟨_, rfl⟩
      have CK : Hid (∀ V : World, Below wr.heap.size wr V → Calls Tryd.prog 42 #[.agg x.cells.toArray] V (Check1 V C)) := Lib.hid fun V hV => by rw [← hC]; exact check_is x V (OK.out.below hV) (HT.out.below (thenBelow BB.out hV))
      have HC := Lib.hid hC
      clear hC OK
      obtain ⟨⟨r, n, t, kd, dd, fl, tx, gg⟩, gp, gc⟩ := x
      simp only at c0 c1 c2 c3 c4 c5 c6 c7
      have ba := below_alloc wr (.cells #[.int .i64 r, .int .i64 n, .int .i64 t, .int .i64 kd, .string dd, .int .i64 fl, .string tx, .slice gp gg.length gc] 59)
      have na := heap_alloc_new wr (.cells #[.int .i64 r, .int .i64 n, .int .i64 t, .int .i64 kd, .string dd, .int .i64 fl, .string tx, .slice gp gg.length gc] 59)
      have R4 : Hid ((wr.alloc (.cells #[.int .i64 r, .int .i64 n, .int .i64 t, .int .i64 kd, .string dd, .int .i64 fl, .string tx, .slice gp gg.length gc] 59)).rangeAt wr.heap.size 0 (EvP.cells ⟨⟨r, n, t, kd, dd, fl, tx, gg⟩, gp, gc⟩)) := Lib.hid (range_of_block na)
      have BA := Lib.hid ba
      have B5 := Lib.hid (thenBelow BB.out ba)
      clear ba na
      go_wp2_with (refine wpList_gload rfl _ rfl wr.heap.size 0 rfl _ R4.out _ Tryd.underlying59 rfl (sizeEv _) ?_)
      refine (CK.out _ BA.out).mono ?_
      rintro e w6 ⟨rfl, hb6⟩
      have B6 := Lib.hid (thenBelow B5.out hb6)
      clear hb6 c0 c1 c2 c3 c4 c5 c6 c7 CK R4 BA
      by_cases h0 : C = 0
      · subst h0
        have NA : Hid (∀ i (h : i < E.length), i < k + 1 → chk E[i].e = 0) := Lib.hid fun i h hi => by
          rcases Nat.lt_or_ge i k with h3 | h3
          · exact HA.out i h h3
          · obtain rfl : i = k := by omega
            rw [XC.out]; exact HC.out
        go_wp2
        go_roundw
        case rel => exact ⟨k + 1, by omega, by go_num, NA.out, B6.out⟩
        case measure => simp [RowKit.intOf]; omega
      · have hn : (C != 0) = true := by simpa using h0
        have hf : HM = false := HN.out ⟨_, XM.out, by rw [HC.out]; exact h0⟩
        subst hf
        clear h0
        go_wp2
        go_ret
        exact ⟨rfl, B6.out⟩
    · obtain rfl : k = E.length := by omega
      have hkl' : ¬ ((E.length : Nat) : Int) < E.length := by omega
      have ht : HM = true := HY.out (by omega) fun x hx => by
        obtain ⟨i, hi, rfl⟩ := List.getElem_of_mem hx
        exact HA.out i hi hi
      subst ht
      go_wp2
      go_ret
      exact ⟨rfl, BB.out⟩
end Go.Proofs.YtpngmjfnpdjjcaaDoor
/- The document's ReadState of any bytes. -/
namespace Go.Proofs.YtpngmjfnpdjjcaaDoor
open Go Go.RowKit
set_option linter.unusedVariables false
set_option maxRecDepth 1000000

section
variable {P : Program} {ops : Array Oper} {rest : List Oper} {o : Oper} {a : Act} {w : World} {Q : Exit → Act → World → Prop}
theorem wpList_skipTo (hg : o.guard = none) (w' : World) (hrun : (execOp a.eval o).run P w = .ok .skip w') (h : ∀ V, Hid (V = w') → wpList P ops Q rest (a.put o.dst undef) V) : wpList P ops Q (o :: rest) a w := by
  refine wpList_plain hg fun K hK => ?_
  unfold Oper.wp
  rw [hrun, Oper.upon_skip]
  exact hK _ _ (h _ (Lib.hid rfl))
theorem wpList_storeI (hg : o.guard = none) (t : TypeId) (x y : Operand) (ho : o.op = .store t x y) (p : Addr) (hx : a.eval x = .pointer (some p)) (k : IntKind) (v : Int) (hy : a.eval y = .int k v) (hsz : ∀ w : World, (sizeOf t).run P w = .ok 1 w) (old : Value) (hc : w.cell? p = some old) (hf : w.frozen? p = false)
    (h : ∀ V, Hid (V = w.setCell p (.int k v)) → wpList P ops Q rest (a.put o.dst undef) V) : wpList P ops Q (o :: rest) a w := wpList_skipTo hg _ (exec_storeI1 t x y ho hsz p k v old hx hy hc hf) h
theorem exec_storeStr (t : TypeId) (x y : Operand) (ho : o.op = .store t x y) (hsz : ∀ w : World, (sizeOf t).run P w = .ok 1 w) (p : Addr) (v : ByteArray) (old : Value) (hx : a.eval x = .pointer (some p)) (hy : a.eval y = .string v)
    (hc : w.cell? p = some old) (hf : w.frozen? p = false) : (execOp a.eval o).run P w = .ok .skip (w.setCell p (.string v)) := by
  unfold execOp
  simp only [ho, hx, hy]
  have hs := hsz w
  go_simp
theorem wpList_storeStr (hg : o.guard = none) (t : TypeId) (x y : Operand) (ho : o.op = .store t x y) (p : Addr) (hx : a.eval x = .pointer (some p)) (v : ByteArray) (hy : a.eval y = .string v) (hsz : ∀ w : World, (sizeOf t).run P w = .ok 1 w) (old : Value) (hc : w.cell? p = some old) (hf : w.frozen? p = false)
    (h : ∀ V, Hid (V = w.setCell p (.string v)) → wpList P ops Q rest (a.put o.dst undef) V) : wpList P ops Q (o :: rest) a w := wpList_skipTo hg _ (exec_storeStr t x y ho hsz p v old hx hy hc hf) h
theorem wpList_storeSl (hg : o.guard = none) (t : TypeId) (x y : Operand) (ho : o.op = .store t x y) (p : Addr) (hx : a.eval x = .pointer (some p)) (q : Option Addr) (n c : Nat) (hy : a.eval y = .slice q n c) (hsz : ∀ w : World, (sizeOf t).run P w = .ok 1 w) (old : Value) (hc : w.cell? p = some old) (hf : w.frozen? p = false)
    (h : ∀ V, Hid (V = w.setCell p (.slice q n c)) → wpList P ops Q rest (a.put o.dst undef) V) : wpList P ops Q (o :: rest) a w := wpList_skipTo hg _ (exec_storeV t x y ho hsz p q n c old hx hy hc hf) h
end
/-- a write in a block of its own -/
def Wx (w : World) (g : Nat) (y : Wr) : Prop := w.heap[g]? = some (.cells y.cells.toArray 55 (0, 0))
theorem Wx.lt {w : World} {g : Nat} {y : Wr} (h : Wx w g y) : g < w.heap.size := (Array.getElem?_eq_some_iff.1 h).1
theorem Wx.kept {w w' : World} {g : Nat} {y : Wr} (h : Wx w g y) {A : Nat} (hg : w.grownBy w' (some A)) (hne : g ≠ A) : Wx w' g y := (hg.block g h.lt (by simpa using hne)).trans h
theorem Wx.at {w : World} {g : Nat} {y : Wr} (h : Wx w g y) (i : Nat) {v : Value} (hv : y.cells[i]? = some v) : w.cell? ⟨g, i, none⟩ = some v := (cell_of_row w g i _ _ _ h).trans (by rw [List.getElem?_toArray]; exact hv)
theorem Wx.free {w : World} {g : Nat} {y : Wr} (h : Wx w g y) (i : Nat) : w.frozen? ⟨g, i, none⟩ = false := frozen_of_row w g i _ _ h
theorem Wx.set {w : World} {g i : Nat} {y z : Wr} {v : Value} (h : Wx w g y) (hz : y.cells.toArray.setIfInBounds i v = z.cells.toArray) : Wx (w.setCell ⟨g, i, none⟩ v) g z := by
  unfold Wx
  rw [block_setCell (j := i) h v, hz]
theorem Cod.wrS_fst (s : Cod.S) : (Cod.wrS s).1 = ⟨(Cod.dotS s).1.1, (Cod.dotS s).1.2, (Cod.timeS s).1, (Cod.docS s).1, (Cod.fldS s).1, (Cod.txtS s).1⟩ := by simp only [Cod.wrS]
end Go.Proofs.YtpngmjfnpdjjcaaDoor
