/- The statement WireDecodes, proved for every input that its row reads: part 21 of 54. -/
import Derived.Test.YtapmbankpbiglaaGreatDoorPackWireDecodes17
import Derived.Test.YtapmbankpbiglaaGreatDoorPackWireDecodes20
/- docs: a dot that was written is read. -/
namespace Go.Proofs.YtapmbankpbiglaaGreatDoor
open Go Go.RowKit
set_option linter.unusedVariables false
set_option maxRecDepth 1000000

theorem Rd.lt' {w : World} {B : Nat} {l : List UInt8} (h : Rd w B l) : B < w.heap.size := by
  obtain ⟨b, o, c, h1, _⟩ := h
  exact (Array.getElem?_eq_some_iff.1 h1).1
theorem Rd.under' {w w' : World} {B T : Nat} {l : List UInt8} (h : Rd w B l) (hT : B < T) (hb : Below T w w') : Rd w' B l := by
  obtain ⟨b, o, c, h1, h2, h3, h4⟩ := h
  refine ⟨b, o, c, (hb.block B hT).trans h1, fun i hi => ?_, h3, h4⟩
  rw [World.cell?_of_block (w := w) (hb.block b (by omega))]
  exact h2 i hi
theorem Rd.on {w w' : World} {B : Nat} {l : List UInt8} (h : Rd w B l) (hb : Below w.heap.size w w') : Rd w' B l := h.under' h.lt' hb
/-- what turned is block R alone, and what is new -/
theorem grown_on {a w w' : World} {R : Option Nat} (h : a.grownBy w R) (hb : Below a.heap.size w w') : a.grownBy w' R :=
  ⟨hb.os.trans h.os, hb.tape.trans h.tape, hb.output.trans h.output, Nat.le_trans h.size hb.size, fun i hi hne => (hb.block i hi).trans (h.block i hi hne)⟩
theorem grown_self (w : World) (R : Option Nat) : w.grownBy w R := ⟨rfl, rfl, rfl, Nat.le_refl _, fun _ _ _ => rfl⟩
theorem grown_less {w w' : World} {R : Option Nat} (h : Below w.heap.size w w') : w.grownBy w' R := grown_on (grown_self w R) h
theorem sizeDt (r n : Int) : (Tryz.prog.info? 76).map (·.size) = some (dcs r n).size := by kernel_rfl
/-- what reading a dot comes to -/
def GotW (w : World) (B : Nat) (v : Value) (l : List UInt8) (e : Ending) (w' : World) : Prop := e = .returned v ∧ Rd w' B l ∧ w.grownBy w' (some B)
set_option maxHeartbeats 4000000 in
theorem readDot_live (B : Nat) (r n : Int) (l : List UInt8) (w : World) (h : Rd w B (dotB (r, n) ++ l)) (hv : vldB r n = true) (hl : l.length ≤ 149000000000000) :
    Calls Tryz.prog 79 #[.pointer (some ⟨B, 0, none⟩)] w (GotW w B (.agg (dcs r n)) l) := by
  have hv2 := (vld_iff r n).1 hv
  obtain ⟨r', rfl⟩ : ∃ r' : Nat, r = (r' : Int) := ⟨r.toNat, by omega⟩
  obtain ⟨n', rfl⟩ : ∃ n' : Nat, n = (n' : Int) := ⟨n.toNat, by omega⟩
  have hE : dotB ((r' : Int), (n' : Int)) ++ l = Cod.enc r' ++ (Cod.enc n' ++ l) := by unfold dotB; simp only [Int.toNat_natCast, List.append_assoc]
  rw [hE] at h
  have e1 := enc_len r'; have e2 := enc_len n'
  have HB := Lib.hid h.lt'
  have H := Lib.hid h
  clear h hv hE
  go_enter Tryz.func79, Tryz.ntmps79
  have hb1 := below_alloc w (.cells #[.int .i64 0, .int .i64 0] 76)
  have K1 := Lib.hid (heap_alloc_new w (.cells #[.int .i64 0, .int .i64 0] 76))
  have R1 := Lib.hid (H.out.on hb1)
  have G1 := Lib.hid (grown_less (R := some B) hb1)
  have N1 := Lib.hid (numIn_live B r' 63 (Cod.enc n' ++ l) _ R1.out (by omega) (by omega) (by simp only [List.length_append]; omega))
  clear hb1
  go_wp2_with fail
  refine N1.out.mono ?_
  rintro e w2 ⟨rfl, hr2, hg⟩
  have G2 := Lib.hid (grown_trans G1.out hg)
  have K2 := Lib.hid ((hg.block w.heap.size (by simp) (by have := HB.out; simp; omega)).trans K1.out)
  have N2 := Lib.hid (numIn_live B n' 1073741824 l w2 hr2 (by omega) (by omega) (by simp only [List.length_append]; omega))
  clear hr2 hg N1 K1
  go_wp2_with fail
  refine N2.out.mono ?_
  rintro e w3 ⟨rfl, hr3, hg⟩
  have S2 := Lib.hid G2.out.size
  have hlt : w.heap.size < w2.heap.size := (Array.getElem?_eq_some_iff.1 K2.out).1
  have G3 := Lib.hid (grown_trans G2.out hg)
  have K3 := Lib.hid ((hg.block w.heap.size hlt (by have := HB.out; simp; omega)).trans K2.out)
  have hb3 := below_alloc w3 (.cells #[.int .i64 (r' : Int), .int .i64 (n' : Int)] 76)
  have R4 := Lib.hid (hr3.on hb3)
  have G4 := Lib.hid (grown_on G3.out (hb3.mono G3.out.size))
  have K4 := Lib.hid ((hb3.block w.heap.size (Array.getElem?_eq_some_iff.1 K3.out).1).trans K3.out)
  have E3 := Lib.hid (err_live B l _ R4.out)
  clear hr3 hg N2 K2 hlt
  go_wp2_with fail
  refine E3.out.mono ?_
  rintro e w5 ⟨rfl, rfl⟩
  go_wp2_with (refine wpList_gstore rfl _ _ rfl w.heap.size rfl (dcs (r' : Int) (n' : Int)) rfl _ _ K4.out (sizeDt _ _) rfl (by intro u hu; simp [dcs] at hu; rcases hu with rfl | rfl <;> rfl) ?_)
  intro w6 h6 g6
  have b6 := grown_below g6 G4.out.size (Nat.le_refl _)
  have H6 := Lib.hid h6
  have R6 := Lib.hid (R4.out.under' HB.out (grown_below g6 G4.out.size (Nat.le_refl _)))
  have G6 : Hid (w.grownBy w6 (some B)) := Lib.hid ⟨g6.os.trans G4.out.os, g6.tape.trans G4.out.tape, g6.output.trans G4.out.output, Nat.le_trans G4.out.size g6.size, fun i hi hne => (g6.block i (Nat.lt_of_lt_of_le hi G4.out.size) (by simp; omega)).trans (G4.out.block i hi hne)⟩
  clear h6 g6 b6 hb3
  go_wp2
  exact bodyPost_ret (v := .agg (dcs (r' : Int) (n' : Int))) (results_cell_row rfl _ w6 w.heap.size _ _ (0, 0) _ rfl H6.out Tryz.underlying76 rfl (sizeDt _ _)) rfl ⟨rfl, R6.out, G6.out⟩
set_option maxRecDepth 1000000

/-- what reading an event comes to -/
def GotEv (w : World) (B : Nat) (E : Ev) (l : List UInt8) (e : Ending) (w' : World) : Prop := ∃ x : EvP, x.e = E ∧ e = .returned (.agg x.cells.toArray) ∧ x.Ok w' ∧ Rd w' B l ∧ w.grownBy w' (some B)
def GotEvO (w : World) (B : Nat) (E : Ev) (l : List UInt8) (e : Ending) (w' : World) : Prop := ∃ x : EvP, x.e = E ∧ e = .returned (.agg x.cells.toArray) ∧ w'.ownsRow w.heap.size 76 2 (.slice x.p x.e.gone.length x.c) x.e.gone.length (dcl x.e.gone) ∧ Rd w' B l ∧ w.grownBy w' (some B)
theorem grown_step {w a b : World} {B : Nat} (h : w.grownBy a (some B)) (hg : a.grownBy b (some B)) (hB : B < w.heap.size) {g : Nat} {o : Obj} (hge : w.heap.size ≤ g) (k : a.heap[g]? = some o) : b.heap[g]? = some o :=
  (hg.block g (Array.getElem?_eq_some_iff.1 k).1 (by simp; omega)).trans k
/-- what turned beside block R is new -/
theorem grown_onE {a w w' : World} {R : Option Nat} {g : Nat} (h : a.grownBy w R) (hg : w.grownBy w' (some g)) (hge : a.heap.size ≤ g) : a.grownBy w' R :=
  ⟨hg.os.trans h.os, hg.tape.trans h.tape, hg.output.trans h.output, Nat.le_trans h.size hg.size, fun i hi hne => (hg.block i (Nat.lt_of_lt_of_le hi h.size) (by simp; omega)).trans (h.block i hi hne)⟩
theorem own_keep {w w' : World} {B0 : Nat} {ty : TypeId} {k n : Nat} {v : Value} {xs : List Value} {row : Option Nat} (h : w.ownsRow B0 ty k v n xs) (hg : w.grownBy w' row) (hne : v.ownBlock = none ∨ v.ownBlock ≠ row) : w'.ownsRow B0 ty k v n xs := by
  refine ⟨h.1, ?_⟩
  rcases h.2 with q | ⟨g, cap, cur, rfl, q2, q3, q4⟩
  · exact .inl q
  · refine .inr ⟨g, cap, cur, rfl, q2, ?_, q4⟩
    refine (hg.block g (Array.getElem?_eq_some_iff.1 q3).1 ?_).trans q3
    rcases hne with h | h
    · cases h
    · exact h
theorem own_not {w : World} {B0 : Nat} {ty : TypeId} {k n : Nat} {v : Value} {xs : List Value} (h : w.ownsRow B0 ty k v n xs) {g : Nat} {cs : Array Value} {T : TypeId} {m : Nat × Nat} (hg : w.heap[g]? = some (.cells cs T m)) (hne : T ≠ ty) : some g ≠ v.ownBlock := by
  rcases h.2 with ⟨rfl, _⟩ | ⟨g', cap, cur, rfl, _, q3, _⟩
  · intro e; cases e
  · intro e
    have : g = g' := by simpa [Value.ownBlock] using e
    subst this
    rw [q3] at hg
    injection hg with hg
    injection hg with _ h2
    exact hne h2.symm
theorem own_above {w : World} {B0 : Nat} {ty : TypeId} {k n : Nat} {v : Value} {xs : List Value} (h : w.ownsRow B0 ty k v n xs) {R : Nat} (hR : R < B0) : v.ownBlock = none ∨ v.ownBlock ≠ some R := by
  rcases h.2 with ⟨rfl, _⟩ | ⟨g', cap, cur, rfl, q, _⟩
  · exact .inl rfl
  · right
    intro e
    have : g' = R := by simpa [Value.ownBlock] using e
    omega
theorem exec_appendV {P : Program} {o : Oper} {a : Act} {w : World} {t : TypeId} (s x : Operand) (ho : o.op = .call { callee := .builtin .append, args := #[s, x], argTypes := #[t, t] }) (v xv : Value) (hs : a.eval s = v) (hx : a.eval x = xv) {v' : Value} {w' : World} (hrun : (Builtin.append_ #[t, t] o.type #[v, xv]).run P w = .ok v' w') :
    (execOp a.eval o).run P w = .ok (.value v') w' := by
  simp [execOp, ho, resolve, invoke, builtin, hs, hx, hrun, Result.andThen]
theorem exec_storeV {P : Program} {o : Oper} {a : Act} {w : World} (t : TypeId) (x y : Operand) (ho : o.op = .store t x y) (hsz : ∀ w : World, (sizeOf t).run P w = .ok 1 w) (p : Addr) (q : Option Addr) (n c : Nat) (old : Value) (hx : a.eval x = .pointer (some p)) (hy : a.eval y = .slice q n c)
    (hc : w.cell? p = some old) (hf : w.frozen? p = false) : (execOp a.eval o).run P w = .ok .skip (w.setCell p (.slice q n c)) := by
  unfold execOp
  simp only [ho, hx, hy]
  have hs := hsz w
  go_simp
theorem rgd_two {P : Program} {ops : Array Oper} {o o2 : Oper} {a : Act} {w : World} {Q : Exit → Act → World → Prop} {S : World → Prop} {md : Region.Mode} {fuel : Nat} {listed : Array Bool} (i j : Nat) (d d2 : Option Tmp) (hr : Region.ready md ops listed = [i, j]) (hi : ops[i]? = some o) (hd : o.dst = d) (hw : Region.wanted o (yielded ops a.tmps) = true) (v : Value) (w' : World) (hrun : (execOp a.eval o).run P w = .ok (.value v) w')
    (hj : ops[j]? = some o2) (hd2 : o2.dst = d2) (hw2 : Region.wanted o2 (yielded ops a.tmps) = true) (f : FuncId) (args : Array Value) {Post : Ending → World → Prop} (hrun2 : (execOp a.eval o2).run P w = .ok (.enter f args) w) (hc : Calls P f args w Post) (hS : S w')
    (h : wpAnyH P md ops Q S fuel (listed.setIfInBounds i true) (a.put d v) w')
    (h2 : ∀ e w', Post e w' → ∃ v, e = .returned v ∧ S w' ∧ wpAnyH P md ops Q S fuel (listed.setIfInBounds j true) (a.put d2 v) w') : wpAnyH P md ops Q S (fuel + 1) listed a w := by
  subst hd; subst hd2; exact rg_two i j hr hi hw v w' hrun hj hw2 f args hrun2 hc hS h h2
/-- an event's cells, its dots not there yet -/
def evAt (r n t k : Int) (d : ByteArray) (f : Int) (x : ByteArray) (u : Value) : Array Value := #[.int .i64 r, .int .i64 n, .int .i64 t, .int .i64 k, .string d, .int .i64 f, .string x, u]
theorem flat_drop (l : List Dt) (k : Nat) (h : k < l.length) : (l.drop k).flatMap dotB = dotB l[k] ++ (l.drop (k + 1)).flatMap dotB := by
  rw [List.drop_eq_getElem_cons h, List.flatMap_cons]
theorem dcl_take (l : List Dt) (k : Nat) (h : k < l.length) : dcl (l.take (k + 1)) = dcl (l.take k) ++ [.int .i64 l[k].1, .int .i64 l[k].2] := by
  rw [List.take_succ_eq_append_getElem h, dcl_append]; rfl
theorem str_back (s : ByteArray) : (⟨s.data.toList.toArray⟩ : ByteArray) = s := by simp
set_option maxHeartbeats 4000000 in
theorem readEvent_liveO (B : Nat) (E : Ev) (l : List UInt8) (w : World) (h : Rd w B (evB E ++ l)) (hE : chk E = 0) (hT : ∀ w', w.grownBy w' (some B) → Shapes w') (hl : l.length ≤ 140737488355400) :
    Calls Tryz.prog 55 #[.pointer (some ⟨B, 0, none⟩)] w (GotEvO w B E l) := by
  have FN := fine_of hE
  have HE := Lib.hid hE
  have HB := Lib.hid h.lt'
  have HT := Lib.hid hT
  have hB := h.lt'
  clear hE hT
  obtain ⟨r, n, t, kd, d, fl, tx, gn⟩ := E
  obtain ⟨fdot, ftime, fdoc, fmany, fgone, fkind, ffield, ftext⟩ := FN
  simp only at fdot ftime fdoc fmany fgone fkind ffield ftext
  obtain ⟨t', rfl⟩ : ∃ t' : Nat, t = (t' : Int) := ⟨t.toNat, by omega⟩
  obtain ⟨k', rfl⟩ : ∃ k' : Nat, kd = (k' : Int) := ⟨kd.toNat, by omega⟩
  obtain ⟨f', rfl⟩ : ∃ f' : Nat, fl = (f' : Int) := ⟨fl.toNat, by omega⟩
  have FG := Lib.hid fgone
  clear fgone
  have e1 := enc_len t'; have e2 := enc_len k'; have e3 := enc_len d.data.toList.length; have e4 := enc_len f'; have e5 := enc_len tx.data.toList.length; have e6 := enc_len gn.length
  have hd : d.data.toList.length = d.size := Array.length_toList
  have htx : tx.data.toList.length = tx.size := Array.length_toList
  have hdl : d.data.toList.length ≤ 12 := by omega
  have htl : tx.data.toList.length ≤ 160 := by omega
  obtain ⟨T9, q9⟩ : ∃ X, gn.flatMap dotB ++ l = X := ⟨_, rfl⟩
  obtain ⟨T8, q8⟩ : ∃ X, Cod.enc gn.length ++ T9 = X := ⟨_, rfl⟩
  obtain ⟨T7, q7⟩ : ∃ X, Cod.enc tx.data.toList.length ++ (tx.data.toList ++ T8) = X := ⟨_, rfl⟩
  obtain ⟨T6, q6⟩ : ∃ X, Cod.enc f' ++ T7 = X := ⟨_, rfl⟩
  obtain ⟨T5, q5⟩ : ∃ X, Cod.enc d.data.toList.length ++ (d.data.toList ++ T6) = X := ⟨_, rfl⟩
  obtain ⟨T4, q4⟩ : ∃ X, Cod.enc k' ++ T5 = X := ⟨_, rfl⟩
  obtain ⟨T3, q3⟩ : ∃ X, Cod.enc t' ++ T4 = X := ⟨_, rfl⟩
  have hR : evB ⟨r, n, (t' : Int), (k' : Int), d, (f' : Int), tx, gn⟩ ++ l = dotB (r, n) ++ T3 := by
    rw [← q3, ← q4, ← q5, ← q6, ← q7, ← q8, ← q9]
    unfold evB
    simp only [Int.toNat_natCast, List.append_assoc, hd, htx]
  rw [hR] at h
  have n9 : T9.length ≤ l.length + 2160 := by rw [← q9, List.length_append]; have := flat_dots_len gn; omega
  have n8 : T8.length ≤ l.length + 2169 := by rw [← q8, List.length_append]; omega
  have n7 : T7.length ≤ l.length + 2400 := by rw [← q7, List.length_append, List.length_append]; omega
  have n6 : T6.length ≤ l.length + 2410 := by rw [← q6, List.length_append]; omega
  have n5 : T5.length ≤ l.length + 2440 := by rw [← q5, List.length_append, List.length_append]; omega
  have n4 : T4.length ≤ l.length + 2450 := by rw [← q4, List.length_append]; omega
  have n3 : T3.length ≤ l.length + 2460 := by rw [← q3, List.length_append]; omega
  have Q9 := Lib.hid q9; have Q8 := Lib.hid q8; have Q7 := Lib.hid q7; have Q6 := Lib.hid q6; have Q5 := Lib.hid q5; have Q4 := Lib.hid q4; have Q3 := Lib.hid q3
  clear q9 q8 q7 q6 q5 q4 q3 hR hd htx
  have H := Lib.hid h
  clear h
  have hb1 := below_alloc w (.cells #[.int .i64 0, .int .i64 0, .int .i64 0, .int .i64 0, .string ByteArray.empty, .int .i64 0, .string ByteArray.empty, .slice none 0 0] 79)
  have K1 := Lib.hid (heap_alloc_new w (.cells #[.int .i64 0, .int .i64 0, .int .i64 0, .int .i64 0, .string ByteArray.empty, .int .i64 0, .string ByteArray.empty, .slice none 0 0] 79))
  have N1 := Lib.hid (readDot_live B r n T3 _ (H.out.on hb1) fdot (by omega))
  have G1 := Lib.hid (grown_less (R := some B) hb1)
  clear hb1
  go_enter Tryz.func55, Tryz.ntmps55
  go_wp2_with fail
  refine N1.out.mono ?_
  rintro e w2 ⟨rfl, hr, hg⟩
  rw [← Q3.out] at hr
  have G2 := Lib.hid (grown_trans G1.out hg)
  have K2 := Lib.hid (grown_step G1.out hg HB.out (Nat.le_refl _) K1.out)
  have N2 := Lib.hid (numIn_live B t' 1099511627776 T4 w2 hr (by omega) (by omega) (by simp only [List.length_append]; omega))
  clear hr hg N1 K1
  go_wp2_with fail
  refine N2.out.mono ?_
  rintro e w3 ⟨rfl, hr, hg⟩
  rw [← Q4.out] at hr
  have G3 := Lib.hid (grown_trans G2.out hg)
  have K3 := Lib.hid (grown_step G2.out hg HB.out (Nat.le_refl _) K2.out)
  have N3 := Lib.hid (numIn_live B k' 9223372036854775807 T5 w3 hr (by omega) (by omega) (by simp only [List.length_append]; omega))
  clear hr hg N2 K2
  go_wp2_with fail
  refine N3.out.mono ?_
  rintro e w4 ⟨rfl, hr, hg⟩
  rw [← Q5.out] at hr
  have G4 := Lib.hid (grown_trans G3.out hg)
  have K4 := Lib.hid (grown_step G3.out hg HB.out (Nat.le_refl _) K3.out)
  have N4 := Lib.hid (textIn_live B 12 d.data.toList T6 w4 hr (by omega) (by omega) (by simp only [List.length_append]; omega))
  clear hr hg N3 K3
  rw [str_back d] at N4
  go_wp2_with fail
  refine N4.out.mono ?_
  rintro e w5 ⟨rfl, hr, hg⟩
  rw [← Q6.out] at hr
  have G5 := Lib.hid (grown_trans G4.out hg)
  have K5 := Lib.hid (grown_step G4.out hg HB.out (Nat.le_refl _) K4.out)
  have N5 := Lib.hid (numIn_live B f' 4 T7 w5 hr (by omega) (by omega) (by simp only [List.length_append]; omega))
  clear hr hg N4 K4
  go_wp2_with fail
  refine N5.out.mono ?_
  rintro e w6 ⟨rfl, hr, hg⟩
  rw [← Q7.out] at hr
  have G6 := Lib.hid (grown_trans G5.out hg)
  have K6 := Lib.hid (grown_step G5.out hg HB.out (Nat.le_refl _) K5.out)
  have N6 := Lib.hid (textIn_live B 160 tx.data.toList T8 w6 hr (by omega) (by omega) (by simp only [List.length_append]; omega))
  clear hr hg N5 K5
  rw [str_back tx] at N6
  go_wp2_with fail
  refine N6.out.mono ?_
  rintro e w7 ⟨rfl, hr, hg⟩
  rw [← Q8.out] at hr
  have G7 := Lib.hid (grown_trans G6.out hg)
  have K7 := Lib.hid (grown_step G6.out hg HB.out (Nat.le_refl _) K6.out)
  have R7 := Lib.hid hr
  clear hr hg N6 K6
  have BE : ∀ W : World, (Instr.build 79 #[(0, .agg (dcs r n)), (1, .int .i64 (t' : Int)), (2, .int .i64 (k' : Int)), (3, .string d), (4, .int .i64 (f' : Int)), (5, .string tx)]).run Tryz.prog W = .ok (.agg (EvP.cells ⟨⟨r, n, t', k', d, f', tx, []⟩, none, 0⟩).toArray) W := fun W => run_build W _ _ _ (by kernel_rfl)
  have ZE : ∀ W : World, (zeroValue 79).run Tryz.prog W = .ok (.agg (EvP.cells ⟨⟨0, 0, 0, 0, ByteArray.empty, 0, ByteArray.empty, []⟩, none, 0⟩).toArray) W := fun W => by kernel_rfl
  go_wp2_with (first | refine wpList_pbuild (by rfl) _ rfl (EvP.cells ⟨⟨r, n, t', k', d, f', tx, []⟩, none, 0⟩).toArray (by simp only [List.map_toArray, List.map_cons, List.map_nil]; exact BE _) ?_ | refine wpList_galloc _ ZE rfl rfl ?_)
  intro g3 w8 l8 h8 hb8
  have hl3 : w.heap.size ≤ g3 := Nat.le_trans G7.out.size l8
  have G8 := Lib.hid (grown_on G7.out (hb8.mono G7.out.size))
  have K8 := Lib.hid ((hb8.block _ (Array.getElem?_eq_some_iff.1 K7.out).1).trans K7.out)
  have R8 := Lib.hid (R7.out.on hb8)
  have h23 : w.heap.size ≠ g3 := by have := (Array.getElem?_eq_some_iff.1 K7.out).1; omega
  have H8 := Lib.hid h8
  clear hb8 h8 BE ZE R7 K7 l8
  go_wp2_with (refine wpList_gstore rfl _ _ rfl g3 rfl (EvP.cells ⟨⟨r, n, t', k', d, f', tx, []⟩, none, 0⟩).toArray rfl _ _ H8.out (by rw [List.size_toArray]; exact sizeEv _) rfl (fun v hv => EvP.cells_one _ v (by simpa using hv)) ?_)
  intro w9 h9 g9
  have B9 : Below w.heap.size w8 w9 := grown_below g9 G8.out.size hl3
  have G9 := Lib.hid (grown_onE G8.out g9 hl3)
  have K9 := Lib.hid ((g9.block _ (Array.getElem?_eq_some_iff.1 K8.out).1 (by simpa using h23)).trans K8.out)
  have R9 := Lib.hid (R8.out.under' HB.out B9)
  have H9 := Lib.hid h9
  clear h9 g9 B9 H8 K8 R8
  have N9 := Lib.hid (numIn_live B gn.length 120 T9 w9 R9.out (by omega) (by omega) (by simp only [List.length_append]; omega))
  obtain ⟨AG, hAG⟩ : ∃ v, Value.agg (EvP.cells ⟨⟨r, n, t', k', d, f', tx, []⟩, none, 0⟩).toArray = v := ⟨_, rfl⟩
  rw [hAG]
  have H9 : Hid (w9.heap[g3]? = some (.cells (evAt r n (t' : Int) (k' : Int) d (f' : Int) tx (.slice none 0 0)) 79 (0, 0))) := H9
  clear hAG
  go_wp2_with fail
  refine N9.out.mono ?_
  rintro e w10 ⟨rfl, hr, hg⟩
  have G10 := Lib.hid (grown_trans G9.out hg)
  have K10 := Lib.hid (grown_step G9.out hg HB.out (Nat.le_refl _) K9.out)
  have H10 := Lib.hid (grown_step G9.out hg HB.out hl3 H9.out)
  have R10 := Lib.hid hr
  clear hr hg N9 K9 H9 R9
  go_wp2
  go_loopw [19] (fun i wr => ∃ (j : Nat) (u : Value) (xs : List Value) (TJ : List UInt8), j ≤ gn.length ∧ i = .int .i64 j ∧ Hid (xs = dcl (gn.take j)) ∧ Hid (TJ = (gn.drop j).flatMap dotB ++ l) ∧ wr.heap[g3]? = some (.cells (evAt r n (t' : Int) (k' : Int) d (f' : Int) tx u) 79 (0, 0)) ∧ wr.ownsRow w.heap.size 76 2 u j xs ∧ Rd wr B TJ ∧ w.grownBy wr (some B) ∧ wr.heap[w.heap.size]? = some (Obj.cells #[.int .i64 0, .int .i64 0, .int .i64 0, .int .i64 0, .string ByteArray.empty, .int .i64 0, .string ByteArray.empty, .slice none 0 0] 79 (0, 0))) (fun i _ => gn.length - (intOf i).toNat)
  case atStart => exact ⟨0, _, [], T9, Nat.zero_le _, rfl, Lib.hid rfl, Lib.hid (by simpa using Q9.out.symm), H10.out, World.ownsRow_nil _ _ _ _, R10.out, G10.out, K10.out⟩
  case round =>
    clear Q9 H10 R10 G10 K10
    obtain ⟨j, u, xs, TJ, hj, rfl, HXS, HTJ, hh, hown, hrd, hgr, hk⟩ := hrel
    have H0 := Lib.hid hh; have OW := Lib.hid hown; have RD := Lib.hid hrd; have GR := Lib.hid hgr; have KK := Lib.hid hk
    clear hh hown hrd hgr hk
    by_cases hjk : j < gn.length
    · have hjk' : (j : Int) < gn.length := by omega
      have nT : (TJ.length ≤ l.length + 2160) := by
        rw [HTJ.out, List.length_append]
        have := flat_dots_len (gn.drop j)
        have : (gn.drop j).length ≤ 120 := by rw [List.length_drop]; omega
        omega
      have FD := Lib.hid (flat_drop gn j hjk); have DT := Lib.hid (dcl_take gn j hjk)
      have hvl := FG.out _ (List.getElem_mem hjk)
      obtain ⟨⟨z1, z2⟩, hz⟩ : ∃ z, gn[j] = z := ⟨_, rfl⟩
      rw [hz] at FD DT hvl
      clear hz
      obtain ⟨TK, hTK⟩ : ∃ X, (gn.drop (j + 1)).flatMap dotB ++ l = X := ⟨_, rfl⟩
      have HTK := Lib.hid hTK.symm
      have hTJ : TJ = dotB (z1, z2) ++ TK := by rw [HTJ.out, FD.out, List.append_assoc, hTK]
      clear hTK
      have nK : TK.length ≤ l.length + 2160 := by rw [hTJ, List.length_append] at nT; omega
      have HTJ2 := Lib.hid hTJ
      clear hTJ
      have RDT : Hid (∀ W, Below wr.heap.size wr W → Calls Tryz.prog 79 #[.pointer (some ⟨B, 0, none⟩)] W (GotW W B (.agg (dcs z1 z2)) TK)) := Lib.hid fun W hW => readDot_live B z1 z2 TK W (by rw [← HTJ2.out]; exact RD.out.on hW) hvl (by omega)
      have XN : Hid (xs ++ [.int .i64 z1, .int .i64 z2] = dcl (gn.take (j + 1))) := Lib.hid (by rw [HXS.out, DT.out])
      go_wp2_with fail
      rename_i K2 hK2
      have SZ : ∀ w : World, (sizeOf 77).run Tryz.prog w = .ok 1 w := fun w => by kernel_rfl
      have FIN : ∀ (X25 v' : Value) (W : World), W.heap[g3]? = some (.cells (evAt r n (t' : Int) (k' : Int) d (f' : Int) tx v') 79 (0, 0)) → W.ownsRow w.heap.size 76 2 v' (j + 1) (xs ++ [.int .i64 z1, .int .i64 z2]) → Rd W B TK → w.grownBy W (some B) → W.heap[w.heap.size]? = some (Obj.cells #[.int .i64 0, .int .i64 0, .int .i64 0, .int .i64 0, .string ByteArray.empty, .int .i64 0, .string ByteArray.empty, .slice none 0 0] 79 (0, 0)) → K2 { tmps := #[.pointer (some ⟨B, 0, none⟩), undef, .pointer (some ⟨w.heap.size, 0, none⟩), .pointer (some ⟨g3, 0, none⟩), .pointer (some ⟨B, 0, none⟩), .agg (dcs r n), .pointer (some ⟨B, 0, none⟩), .int .i64 (t' : Int), .pointer (some ⟨B, 0, none⟩), .int .i64 (k' : Int), .pointer (some ⟨B, 0, none⟩), .string d, .pointer (some ⟨B, 0, none⟩), .int .i64 (f' : Int), .pointer (some ⟨B, 0, none⟩), .string tx, AG, .pointer (some ⟨B, 0, none⟩), .int .i64 (gn.length : Int), .int .i64 (j : Int), .bool true, .pointer (some ⟨g3, 7, none⟩), u, .pointer (some ⟨B, 0, none⟩), .agg (dcs z1 z2), X25, v', .pointer (some ⟨g3, 7, none⟩), u28, undef, undef, undef, undef, undef, undef, undef, undef, undef, undef, undef, undef, undef, undef, undef], defers := [] } W := by
        intro X25 v' W q1 q2 q3 q4 q5
        refine hK2 _ _ ?_
        clear hK2
        have P1 := Lib.hid q1; have P2 := Lib.hid q2; have P3 := Lib.hid q3; have P4 := Lib.hid q4; have P5 := Lib.hid q5
        clear q1 q2 q3 q4 q5 RDT
        go_wp2
        go_roundw
        case rel => exact ⟨j + 1, v', _, TK, by omega, by go_num, XN, HTK, P1.out, P2.out, P3.out, P4.out, P5.out⟩
        case measure => simp [intOf]; omega
      have GD := Lib.hid (grown_on GR.out (to_drew (Below.refl w.heap.size wr)))
      have HD : Hid (wr.drew.heap[g3]? = _) := Lib.hid H0.out
      have KD : Hid (wr.drew.heap[w.heap.size]? = _) := Lib.hid KK.out
      have OD := Lib.hid (own_later OW.out (to_drew (Below.refl wr.heap.size wr)))
      obtain ⟨i0, hi, hz0, hz1, hz2⟩ := info_parts infoDt
      refine rg_last (by kernel_rfl) rfl (S := fun _ => True) ?_
      refine rgd_pure 0 (some 21) rfl rfl (.pointer (some ⟨g3, 7, none⟩)) (by kernel_rfl) (by kernel_rfl) (by kernel_rfl) (fun _ _ _ _ h => h) (by kernel_rfl) (fun w => by kernel_rfl) trivial ?_
      refine rgd_pure 2 (some 23) rfl rfl (.pointer (some ⟨B, 0, none⟩)) (by kernel_rfl) (by kernel_rfl) (by kernel_rfl) (fun _ _ _ _ h => h) (by kernel_rfl) (fun w => by kernel_rfl) trivial ?_
      refine rgd_two 1 3 (some 22) (some 24) (by kernel_rfl) rfl rfl (by kernel_rfl) u wr.drew (exec_load1 _ _ rfl Tryz.underlying77 rfl ⟨g3, 7, none⟩ u (by kernel_rfl) ((cell_of_row _ g3 7 _ _ _ HD.out).trans rfl)) rfl rfl (by kernel_rfl) 79 #[.pointer (some ⟨B, 0, none⟩)] (by kernel_rfl) (RDT.out wr.drew (to_drew (Below.refl _ _))) trivial ?_ ?_
      · refine rgd_call 3 (some 24) (by kernel_rfl) rfl rfl (by kernel_rfl) 79 #[.pointer (some ⟨B, 0, none⟩)] (by kernel_rfl) (RDT.out wr.drew (to_drew (Below.refl _ _))) ?_
        rintro e U1 ⟨rfl, r1, g1⟩
        refine ⟨_, rfl, trivial, ?_⟩
        have hU := grown_step GD.out g1 HB.out hl3 HD.out
        have kU := grown_step GD.out g1 HB.out (Nat.le_refl _) KD.out
        have oU := own_keep OD.out g1 (own_above OD.out HB.out)
        have gU := grown_trans GD.out g1
        have bA := below_alloc U1 (.cells #[.int .i64 z1, .int .i64 z2] 76)
        have rA := r1.on bA
        have hA := (bA.block g3 (Array.getElem?_eq_some_iff.1 hU).1).trans hU
        have kA := (bA.block w.heap.size (Array.getElem?_eq_some_iff.1 kU).1).trans kU
        have oA := own_later oU bA
        have gA := grown_on gU (bA.mono gU.size)
        have nA := heap_alloc_new U1 (.cells #[.int .i64 z1, .int .i64 z2] 76)
        obtain ⟨v1, w1', hrun, o1, q1, _⟩ := run_append_own (P := Tryz.prog) (w := U1.alloc (.cells #[.int .i64 z1, .int .i64 z2] 76)) w.heap.size 77 77 76 i0 _ 2 16 Tryz.underlying77 hi hz0 hz1 hz2 rfl (by decide) u j xs oA ⟨U1.heap.size, 0, none⟩ 1 1 [.int .i64 z1, .int .i64 z2] rfl (fun k y hy => by rw [Addr.add_lit, Nat.zero_add, cell_of_row _ U1.heap.size k _ _ _ nA]; simpa using hy) (by intro y hy; simp at hy; rcases hy with rfl | rfl <;> rfl) (by unfold maxLen; omega) (by omega) gA.size
        have bW : Below w.heap.size (U1.alloc (.cells #[.int .i64 z1, .int .i64 z2] 76)) w1' := (Below.refl _ _).grown q1 gA.size (fun k hk => (oA.lt k hk).1)
        have hW := (q1.block g3 (Array.getElem?_eq_some_iff.1 hA).1 (own_not oA hA (by decide))).trans hA
        have kW := (q1.block w.heap.size (Array.getElem?_eq_some_iff.1 kA).1 (own_not oA kA (by decide))).trans kA
        have rW := rA.under' HB.out bW
        have gW := grown_on gA bW
        obtain ⟨pv, cv, hv1⟩ := own_slice o1
        subst hv1
        have gS := grown_cell w1' g3 7 (.slice pv (j + 1) cv)
        have hS := heap_setCell_same w1' g3 7 _ _ (.slice pv (j + 1) cv) hW
        have kS := (gS.block w.heap.size (Array.getElem?_eq_some_iff.1 kW).1 (by simpa using h23)).trans kW
        have oS := own_keep o1 gS (.inr fun e => own_not o1 hW (by decide) e.symm)
        have rS := rW.under' HB.out (grown_below gS gW.size hl3)
        have gE := grown_onE gW gS hl3
        have KE := FIN (.slice (some ⟨U1.heap.size, 0, none⟩) 1 1) (.slice pv (j + 1) cv) _ hS oS rS gE kS
        refine rgd_run 4 (some 25) (by kernel_rfl) rfl rfl (by kernel_rfl) (.slice (some ⟨U1.heap.size, 0, none⟩) 1 1) (U1.alloc (.cells #[.int .i64 z1, .int .i64 z2] 76)) (by kernel_rfl) trivial ?_
        refine rgd_run 5 (some 26) (by kernel_rfl) rfl rfl (by kernel_rfl) (.slice pv (j + 1) cv) w1' (exec_appendV _ _ rfl _ _ (by kernel_rfl) (by kernel_rfl) hrun) trivial ?_
        refine rgd_pure 6 (some 27) rfl rfl (.pointer (some ⟨g3, 7, none⟩)) (by kernel_rfl) (by kernel_rfl) (by kernel_rfl) (fun _ _ _ _ h => h) (by kernel_rfl) (fun w => by kernel_rfl) trivial ?_
        refine rgd_do 7 none (by kernel_rfl) rfl rfl (by kernel_rfl) _ (exec_storeV _ _ _ rfl SZ ⟨g3, 7, none⟩ pv (j + 1) cv u (by kernel_rfl) (by kernel_rfl) ((cell_of_row _ g3 7 _ _ _ hW).trans rfl) (frozen_of_row _ g3 7 _ _ hW)) trivial ?_
        exact wpAnyH_done (by kernel_rfl) (Eq.mp (by kernel_rfl) KE) _
      · rintro e U1 ⟨rfl, r1, g1⟩
        refine ⟨_, rfl, trivial, ?_⟩
        have hU := grown_step GD.out g1 HB.out hl3 HD.out
        have kU := grown_step GD.out g1 HB.out (Nat.le_refl _) KD.out
        have oU := own_keep OD.out g1 (own_above OD.out HB.out)
        have gU := grown_trans GD.out g1
        have bA := below_alloc U1 (.cells #[.int .i64 z1, .int .i64 z2] 76)
        have rA := r1.on bA
        have hA := (bA.block g3 (Array.getElem?_eq_some_iff.1 hU).1).trans hU
        have kA := (bA.block w.heap.size (Array.getElem?_eq_some_iff.1 kU).1).trans kU
        have oA := own_later oU bA
        have gA := grown_on gU (bA.mono gU.size)
        have nA := heap_alloc_new U1 (.cells #[.int .i64 z1, .int .i64 z2] 76)
        obtain ⟨v1, w1', hrun, o1, q1, _⟩ := run_append_own (P := Tryz.prog) (w := U1.alloc (.cells #[.int .i64 z1, .int .i64 z2] 76)) w.heap.size 77 77 76 i0 _ 2 16 Tryz.underlying77 hi hz0 hz1 hz2 rfl (by decide) u j xs oA ⟨U1.heap.size, 0, none⟩ 1 1 [.int .i64 z1, .int .i64 z2] rfl (fun k y hy => by rw [Addr.add_lit, Nat.zero_add, cell_of_row _ U1.heap.size k _ _ _ nA]; simpa using hy) (by intro y hy; simp at hy; rcases hy with rfl | rfl <;> rfl) (by unfold maxLen; omega) (by omega) gA.size
        have bW : Below w.heap.size (U1.alloc (.cells #[.int .i64 z1, .int .i64 z2] 76)) w1' := (Below.refl _ _).grown q1 gA.size (fun k hk => (oA.lt k hk).1)
        have hW := (q1.block g3 (Array.getElem?_eq_some_iff.1 hA).1 (own_not oA hA (by decide))).trans hA
        have kW := (q1.block w.heap.size (Array.getElem?_eq_some_iff.1 kA).1 (own_not oA kA (by decide))).trans kA
        have rW := rA.under' HB.out bW
        have gW := grown_on gA bW
        obtain ⟨pv, cv, hv1⟩ := own_slice o1
        subst hv1
        have gS := grown_cell w1' g3 7 (.slice pv (j + 1) cv)
        have hS := heap_setCell_same w1' g3 7 _ _ (.slice pv (j + 1) cv) hW
        have kS := (gS.block w.heap.size (Array.getElem?_eq_some_iff.1 kW).1 (by simpa using h23)).trans kW
        have oS := own_keep o1 gS (.inr fun e => own_not o1 hW (by decide) e.symm)
        have rS := rW.under' HB.out (grown_below gS gW.size hl3)
        have gE := grown_onE gW gS hl3
        have KE := FIN (.slice (some ⟨U1.heap.size, 0, none⟩) 1 1) (.slice pv (j + 1) cv) _ hS oS rS gE kS
        refine rgd_acts 1 4 (some 22) (some 25) (by kernel_rfl) rfl rfl (by kernel_rfl) u U1 (exec_load1 _ _ rfl Tryz.underlying77 rfl ⟨g3, 7, none⟩ u (by kernel_rfl) ((cell_of_row _ g3 7 _ _ _ hU).trans rfl)) trivial rfl rfl (by kernel_rfl) (.slice (some ⟨U1.heap.size, 0, none⟩) 1 1) (U1.alloc (.cells #[.int .i64 z1, .int .i64 z2] 76)) (by kernel_rfl) trivial ?_ ?_
        · refine rgd_run 4 (some 25) (by kernel_rfl) rfl rfl (by kernel_rfl) (.slice (some ⟨U1.heap.size, 0, none⟩) 1 1) (U1.alloc (.cells #[.int .i64 z1, .int .i64 z2] 76)) (by kernel_rfl) trivial ?_
          refine rgd_run 5 (some 26) (by kernel_rfl) rfl rfl (by kernel_rfl) (.slice pv (j + 1) cv) w1' (exec_appendV _ _ rfl _ _ (by kernel_rfl) (by kernel_rfl) hrun) trivial ?_
          refine rgd_pure 6 (some 27) rfl rfl (.pointer (some ⟨g3, 7, none⟩)) (by kernel_rfl) (by kernel_rfl) (by kernel_rfl) (fun _ _ _ _ h => h) (by kernel_rfl) (fun w => by kernel_rfl) trivial ?_
          refine rgd_do 7 none (by kernel_rfl) rfl rfl (by kernel_rfl) _ (exec_storeV _ _ _ rfl SZ ⟨g3, 7, none⟩ pv (j + 1) cv u (by kernel_rfl) (by kernel_rfl) ((cell_of_row _ g3 7 _ _ _ hW).trans rfl) (frozen_of_row _ g3 7 _ _ hW)) trivial ?_
          exact wpAnyH_done (by kernel_rfl) (Eq.mp (by kernel_rfl) KE) _
        · refine rgd_run 1 (some 22) (by kernel_rfl) rfl rfl (by kernel_rfl) u _ (exec_load1 _ _ rfl Tryz.underlying77 rfl ⟨g3, 7, none⟩ u (by kernel_rfl) ((cell_of_row _ g3 7 _ _ _ hA).trans rfl)) trivial ?_
          refine rgd_run 5 (some 26) (by kernel_rfl) rfl rfl (by kernel_rfl) (.slice pv (j + 1) cv) w1' (exec_appendV _ _ rfl _ _ (by kernel_rfl) (by kernel_rfl) hrun) trivial ?_
          refine rgd_pure 6 (some 27) rfl rfl (.pointer (some ⟨g3, 7, none⟩)) (by kernel_rfl) (by kernel_rfl) (by kernel_rfl) (fun _ _ _ _ h => h) (by kernel_rfl) (fun w => by kernel_rfl) trivial ?_
          refine rgd_do 7 none (by kernel_rfl) rfl rfl (by kernel_rfl) _ (exec_storeV _ _ _ rfl SZ ⟨g3, 7, none⟩ pv (j + 1) cv u (by kernel_rfl) (by kernel_rfl) ((cell_of_row _ g3 7 _ _ _ hW).trans rfl) (frozen_of_row _ g3 7 _ _ hW)) trivial ?_
          exact wpAnyH_done (by kernel_rfl) (Eq.mp (by kernel_rfl) KE) _
    · obtain rfl : j = gn.length := by omega
      have hjk' : ¬ ((gn.length : Nat) : Int) < gn.length := by omega
      have hTL : TJ = l := by rw [HTJ.out]; simp
      have hXL : xs = dcl gn := by rw [HXS.out, List.take_length]
      subst hTL
      subst hXL
      obtain ⟨pu, cu, hu⟩ := own_slice OW.out
      subst hu
      have OKX : Hid (EvP.Ok wr ⟨⟨r, n, t', k', d, f', tx, gn⟩, pu, cu⟩) := Lib.hid (own_okE (B := w.heap.size) OW.out)
      have ER := Lib.hid (err_live B TJ wr RD.out)
      have R0 := Lib.hid (range_of_block H0.out)
      have R0 : Hid (wr.rangeAt g3 0 (EvP.cells ⟨⟨r, n, t', k', d, f', tx, gn⟩, pu, cu⟩)) := R0
      have SZ := Lib.hid (sizeEv ⟨⟨r, n, t', k', d, f', tx, gn⟩, pu, cu⟩)
      have CK := Lib.hid (check_is ⟨⟨r, n, t', k', d, f', tx, gn⟩, pu, cu⟩ wr OKX.out (HT.out wr GR.out))
      rw [HE.out] at CK
      have OKO : Hid (∀ W : World, W.ownsRow w.heap.size 76 2 (.slice pu gn.length cu) gn.length (dcl gn) → W.ownsRow w.heap.size 76 2 (.slice (EvP.mk ⟨r, n, t', k', d, f', tx, gn⟩ pu cu).p (EvP.mk ⟨r, n, t', k', d, f', tx, gn⟩ pu cu).e.gone.length (EvP.mk ⟨r, n, t', k', d, f', tx, gn⟩ pu cu).c) (EvP.mk ⟨r, n, t', k', d, f', tx, gn⟩ pu cu).e.gone.length (dcl (EvP.mk ⟨r, n, t', k', d, f', tx, gn⟩ pu cu).e.gone)) := Lib.hid fun W h => h
      clear HXS HTJ
      obtain ⟨XE, hXE⟩ : ∃ X, EvP.mk ⟨r, n, t', k', d, f', tx, gn⟩ pu cu = X := ⟨_, rfl⟩
      rw [hXE] at OKX R0 SZ CK OKO
      have HXE := Lib.hid hXE
      clear hXE
      have hx8 : XE.e = ⟨r, n, t', k', d, f', tx, gn⟩ := by rw [← HXE.out]
      have HX8 := Lib.hid hx8
      clear hx8
      go_wp2_with fail
      refine ER.out.mono ?_
      rintro e w11 ⟨rfl, rfl⟩
      go_wp2_with (refine wpList_gloadG (by rfl) _ rfl g3 0 rfl _ R0.out _ Tryz.underlying79 rfl SZ.out ?_)
      refine CK.out.mono ?_
      rintro e w12 ⟨rfl, hb12⟩
      have E12 := Lib.hid (err_live B TJ w12 (RD.out.on hb12))
      have R12 := Lib.hid (range_below R0.out hb12)
      have K12 := Lib.hid ((hb12.block _ (Array.getElem?_eq_some_iff.1 KK.out).1).trans KK.out)
      have G12 := Lib.hid (grown_on GR.out (hb12.mono GR.out.size))
      have RD12 := Lib.hid (RD.out.on hb12)
      have OW12 := Lib.hid (own_later OW.out hb12)
      clear hb12
      go_wp2_with fail
      refine E12.out.mono ?_
      rintro e w13 ⟨rfl, rfl⟩
      go_wp2_with (first | refine wpList_gload rfl _ rfl g3 0 rfl _ R12.out _ Tryz.underlying79 rfl SZ.out ?_ | refine wpList_gstore rfl _ _ rfl w.heap.size rfl XE.cells.toArray rfl _ _ K12.out (by rw [List.size_toArray]; exact sizeEv _) (by show 8 = _; rw [List.size_toArray, EvP.cells_len]) (fun v hv => EvP.cells_one _ v (by simpa using hv)) ?_)
      intro w14 h14 g14
      have H14 := Lib.hid h14
      have G14 := Lib.hid (grown_onE G12.out g14 (Nat.le_refl _))
      have B14 := grown_below g14 G12.out.size (Nat.le_refl _)
      have R14 := Lib.hid (RD12.out.under' HB.out B14)
      have OK14 : Hid (w14.ownsRow w.heap.size 76 2 (.slice XE.p XE.e.gone.length XE.c) XE.e.gone.length (dcl XE.e.gone)) := Lib.hid (OKO.out _ (own_keep OW12.out g14 (.inr fun e => own_not OW12.out K12.out (by decide) e.symm)))
      clear h14 g14 B14
      go_wp2
      exact bodyPost_ret (v := .agg XE.cells.toArray) (results_cell_row rfl _ w14 w.heap.size _ _ (0, 0) _ rfl H14.out Tryz.underlying79 rfl (by rw [List.size_toArray]; exact sizeEv _)) rfl ⟨XE, HX8.out, rfl, OK14.out, R14.out, G14.out⟩
theorem readEvent_live (B : Nat) (E : Ev) (l : List UInt8) (w : World) (h : Rd w B (evB E ++ l)) (hE : chk E = 0) (hT : ∀ w', w.grownBy w' (some B) → Shapes w') (hl : l.length ≤ 140737488355400) :
    Calls Tryz.prog 55 #[.pointer (some ⟨B, 0, none⟩)] w (GotEv w B E l) :=
  (readEvent_liveO B E l w h hE hT hl).mono fun e w' ⟨x, h1, h2, h3, h4, h5⟩ => ⟨x, h1, h2, own_okE (x := x) h3, h4, h5⟩
set_option maxRecDepth 1000000

theorem wrB_len (e : Ev) : (wrB e).length ≤ 3000 := by
  unfold wrB
  split
  · rename_i h
    have F := fine_of h
    unfold evB
    simp only [List.length_append, Array.length_toList, ByteArray.size_data]
    have := dotB_len (e.rep, e.n); have := enc_len e.time.toNat; have := enc_len e.kind.toNat; have := enc_len e.doc.size; have := enc_len e.field.toNat; have := enc_len e.text.size; have := enc_len e.gone.length; have := flat_dots_len e.gone
    have := F.doc; have := F.many; have := F.text
    omega
  · simp
end Go.Proofs.YtapmbankpbiglaaGreatDoor
