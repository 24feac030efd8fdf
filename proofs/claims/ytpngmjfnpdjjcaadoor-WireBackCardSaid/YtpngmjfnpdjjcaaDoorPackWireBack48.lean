/- The statement WireBack, proved for every input that its row reads: part 48 of 54. -/
import Derived.Test.YtpngmjfnpdjjcaaDoorPackWireBack45
import Derived.Test.YtpngmjfnpdjjcaaDoorPackWireBack47
/- wire.read of what was written of a message. -/
namespace Go.Proofs.YtpngmjfnpdjjcaaDoor
open Go Go.RowKit
set_option linter.unusedVariables false
set_option maxRecDepth 1000000

/-- what reading a message comes to -/
def GotMg (w : World) (B : Nat) (m : Mg) (e : Ending) (w' : World) : Prop := ∃ x : Mg, e = .returned (.agg x.cells.toArray) ∧ m.Eq x ∧ mayM x = true ∧ OwnE w' w.heap.size (.slice x.ep x.E.length x.ec) x.E ∧ WrsAt w' x.sp x.L ∧ RdA w' B ([], 0) ∧ w.grownBy w' (some B)
theorem haveM_evs (m : Mg) : haveM m = (decide ((evs m.E).length ≤ 1024) && (evs m.E).all fun e => decide (chk e = 0)) := by
  unfold haveM evs
  rw [List.length_map, List.all_map]; rfl
theorem may_mk {m x : Mg} (hM : mayM m = true) (hq : m.Eq x) (ga : goodB x.ack = true) (gb : goodB x.base = true) (gf : goodB x.floor = true) (hk : kindM x = true) : mayM x = true := by
  unfold mayM at hM ⊢
  simp only [Bool.and_eq_true] at hM ⊢
  obtain ⟨h1, h2, _⟩ := hM
  refine ⟨?_, ?_, hk⟩
  · unfold goM at h1 ⊢
    rw [hq.src, hq.dst]
    simp only [Bool.and_eq_true] at h1 ⊢
    exact ⟨h1.1, h1.2.1, h1.2.2.1, ga, gb, gf⟩
  · rw [haveM_evs] at h2 ⊢
    rw [← hq.evs]; exact h2
/-- a row of writes stays where what turns has no text in it -/
theorem wrs_off {w w' : World} {p : Option Addr} {L : List Wr} {A : Nat} (h : WrsAt w p L) (hg : w.grownBy w' (some A)) (hno : ∀ i st, w.cell? ⟨A, i, none⟩ ≠ some (.string st)) : WrsAt w' p L := by
  refine ⟨fun hn => ?_, h.none⟩
  have h0 : 0 < L.length := List.length_pos_iff.2 hn
  obtain ⟨b0, o0, rfl, hlt, hr0⟩ := h.at h0
  obtain ⟨b, o, e, hr⟩ := h.row hn
  obtain ⟨rfl, rfl, _⟩ := Addr.mk.inj (Option.some.inj e)
  have hne : b0 ≠ A := by
    rintro rfl
    exact hno _ _ (hr0 3 _ rfl)
  refine ⟨b0, o0, rfl, fun j u hu => ?_⟩
  exact (World.cell?_of_block (w := w) (hg.block b0 hlt (fun e => hne (Option.some.inj e)))).trans (hr j u hu)
theorem mg_nostr (m : Mg) : ∀ u ∈ m.cells, ∀ st, u ≠ .string st := by
  intro u hu st
  have hv : ∀ f : Nat → Int, u ∈ (vf f).toList → u ≠ .string st := fun f h e => by
    subst e
    obtain ⟨i, hi, h2⟩ := List.getElem_of_mem h
    have h3 := vf_get f i (by rwa [vfl_len] at hi)
    rw [← Array.getElem?_toList, List.getElem?_eq_getElem hi, h2] at h3
    cases h3
  simp only [Mg.cells, Mg.st, scs, Array.toList_push, List.mem_append, List.mem_cons, List.not_mem_nil, or_false] at hu
  rcases hu with (rfl | rfl | rfl) | hu | hu | rfl | (hu | rfl) | hu
  · intro e; cases e
  · intro e; cases e
  · intro e; cases e
  · exact hv _ hu
  · exact hv _ hu
  · intro e; cases e
  · exact hv _ hu
  · intro e; cases e
  · exact hv _ hu
theorem Mx.nostr {w : World} {g : Nat} {m : Mg} (h : Mx w g m) : ∀ i st, w.cell? ⟨g, i, none⟩ ≠ some (.string st) := fun i st e => by
  rw [cell_of_row w g i _ _ _ h, List.getElem?_toArray] at e
  exact mg_nostr m _ (List.mem_of_getElem? e) st rfl
theorem RdA.nostr {w : World} {B : Nat} {s : Cod.S} (h : RdA w B s) : ∀ i st, w.cell? ⟨B, i, none⟩ ≠ some (.string st) := fun i st e => by
  rcases h with ⟨_, b, o, c, h1, _⟩ | ⟨_, h1⟩
  · rw [cell_of_row w B i _ _ _ h1] at e
    match i with
    | 0 => cases e
    | 1 => cases e
    | 2 => cases e
    | n + 3 => simp at e
  · rw [cell_of_row w B i _ _ _ h1] at e
    match i with
    | 0 => cases e
    | 1 => cases e
    | 2 => cases e
    | n + 3 => simp at e
theorem OwnE.off {w w' : World} {B0 g : Nat} {v : Value} {L : List EvP} {cs : Array Value} (h : OwnE w B0 v L) (hx : w.heap[g]? = some (.cells cs 29 (0, 0))) (hg : w.grownBy w' (some g)) : OwnE w' B0 v L :=
  ⟨own_keep h.row hg (.inr fun e => own_not h.row hx (by decide) e.symm), fun x hx' => own_keep (h.gone x hx') hg (.inr fun e => own_not (h.gone x hx') hx (by decide) e.symm)⟩
theorem builtMg4 (k s d : Int) (f : Nat → Int) (w : World) : (Instr.build 29 #[(0, .int .i64 k), (1, .int .i64 s), (2, .int .i64 d), (3, .agg (vf f))]).run Tryd.prog w = .ok (.agg ({ Mg.bare k s d with ack := f } : Mg).cells.toArray) w := run_build w _ _ _ (by kernel_rfl)
set_option maxHeartbeats 16000000 in
theorem wireRead_live (B : Nat) (m : Mg) (w : World) (h : Rd w B (mgB m)) (hM : mayM m = true) (hT : ∀ w', w.grownBy w' (some B) → Shapes w') :
    Calls Tryd.prog 18 #[.pointer (some ⟨B, 0, none⟩)] w (GotMg w B m) := by
  have ML := mgB_len hM
  obtain ⟨⟨s1, s2⟩, ⟨d1, d2⟩, KD0⟩ := may_parts hM
  have HM := Lib.hid hM
  have NE0 : m.E.length ≤ 1024 ∧ ∀ x ∈ m.E, chk x.e = 0 := by
    unfold mayM haveM at hM
    simp only [Bool.and_eq_true, decide_eq_true_eq, List.all_eq_true] at hM
    exact hM.2.1
  have GO : goodB m.ack = true ∧ goodB m.base = true ∧ goodB m.floor = true := by
    unfold mayM goM at hM
    simp only [Bool.and_eq_true] at hM
    exact hM.1.2.2.2
  have KM : kindM m = true := by
    unfold mayM at hM
    simp only [Bool.and_eq_true] at hM
    exact hM.2.2
  have HB := Lib.hid h.lt'
  have NE := Lib.hid NE0; have HT := Lib.hid hT; have KD := Lib.hid KD0; have GD := Lib.hid GO; have KK := Lib.hid KM
  obtain ⟨k, hk⟩ : ∃ k : Nat, m.kind = k := ⟨m.kind.toNat, by rcases KD0 with h | h | ⟨h, _⟩ <;> omega⟩
  obtain ⟨s, hs⟩ : ∃ k : Nat, m.src = k := ⟨m.src.toNat, by omega⟩
  obtain ⟨d, hd⟩ : ∃ k : Nat, m.dst = k := ⟨m.dst.toNat, by omega⟩
  obtain ⟨T, hTl⟩ : ∃ X, (if m.kind = 2 then vbytes m.base ++ evsB m.E else if m.kind = 3 then stB m.seen m.L ++ vbytes m.floor ++ evsB m.E else []) = X := ⟨_, rfl⟩
  have hall : mgB m = Cod.enc k ++ (Cod.enc s ++ (Cod.enc d ++ (vbytes m.ack ++ T))) := by
    unfold mgB
    rw [hTl, hk, hs, hd]
    simp only [Int.toNat_natCast, List.append_assoc]
  have k3 : (k : Int) ≤ 3 := by rcases KD0 with h | h | ⟨h, _⟩ <;> omega
  have s63 : (s : Int) ≤ 63 := by omega
  have d63 : (d : Int) ≤ 63 := by omega
  rw [hall] at h ML
  have HTL := Lib.hid hTl
  have HK := Lib.hid hk; have HSr := Lib.hid hs; have HDs := Lib.hid hd
  clear hM hT NE0 GO KM KD0 hTl hall hk hs hd s1 s2 d1 d2
  obtain ⟨T3, h3⟩ : ∃ X, vbytes m.ack ++ T = X := ⟨_, rfl⟩
  obtain ⟨T2, h2⟩ : ∃ X, Cod.enc d ++ T3 = X := ⟨_, rfl⟩
  obtain ⟨T1, h1⟩ : ∃ X, Cod.enc s ++ T2 = X := ⟨_, rfl⟩
  have n1 : T1.length ≤ 20000000 := by rw [← h1, ← h2, ← h3]; simp only [List.length_append] at ML ⊢; omega
  have n2 : T2.length ≤ 20000000 := by rw [← h2, ← h3]; simp only [List.length_append] at ML ⊢; omega
  have n3 : T3.length ≤ 20000000 := by rw [← h3]; simp only [List.length_append] at ML ⊢; omega
  have n4 : T.length ≤ 20000000 := by simp only [List.length_append] at ML; omega
  have ek := enc_len k; have es := enc_len s; have ed := enc_len d
  rw [h3, h2, h1] at h
  have H0 := Lib.hid h; have E3 := Lib.hid h3; have E2 := Lib.hid h2; have E1 := Lib.hid h1
  have VB := Lib.hid (vec_back m.ack GD.out.1 T)
  clear h ML h3 h2 h1
  go_enter Tryd.func18, Tryd.ntmps18
  go_wp2_with (refine wpList_galloc _ zeroMg rfl rfl ?_)
  intro g2 w1 l2 hx1 hb1
  have K1 : Hid (Mx w1 g2 (Mg.bare 0 0 0)) := Lib.hid hx1
  have G1 := Lib.hid (grown_less (R := some B) hb1)
  have N1 := Lib.hid (numIn_live B k 3 T1 w1 (H0.out.on hb1) k3 (by omega) (by rw [List.length_append]; omega))
  clear hb1 hx1
  go_wp2_with fail
  refine N1.out.mono ?_
  rintro e w2 ⟨rfl, hr, hg⟩
  have G2 := Lib.hid (grown_trans G1.out hg)
  have K2 : Hid (Mx w2 g2 (Mg.bare 0 0 0)) := Lib.hid (grown_step G1.out hg HB.out l2 K1.out)
  rw [← E1.out] at hr
  have N2 := Lib.hid (numIn_live B s 63 T2 w2 hr s63 (by omega) (by rw [List.length_append]; omega))
  clear hr hg N1 K1 G1
  go_wp2_with fail
  refine N2.out.mono ?_
  rintro e w3 ⟨rfl, hr, hg⟩
  have G3 := Lib.hid (grown_trans G2.out hg)
  have K3 : Hid (Mx w3 g2 (Mg.bare 0 0 0)) := Lib.hid (grown_step G2.out hg HB.out l2 K2.out)
  rw [← E2.out] at hr
  have N3 := Lib.hid (numIn_live B d 63 T3 w3 hr d63 (by omega) (by rw [List.length_append]; omega))
  clear hr hg N2 K2 G2
  go_wp2_with fail
  refine N3.out.mono ?_
  rintro e w4 ⟨rfl, hr, hg⟩
  have G4 := Lib.hid (grown_trans G3.out hg)
  have K4 : Hid (Mx w4 g2 (Mg.bare 0 0 0)) := Lib.hid (grown_step G3.out hg HB.out l2 K3.out)
  rw [← E3.out] at hr
  have VL := vbytes_len m.ack
  have V4 : Hid (Calls Tryd.prog 32 #[.pointer (some ⟨B, 0, none⟩)] w4 fun e w' => e = .returned (.agg (vf m.ack)) ∧ RdA w' B (T, 0) ∧ w4.grownBy w' (some B)) := Lib.hid ((vread_is B (vbytes m.ack ++ T, 0) w4 (.inl ⟨rfl, hr⟩) (by simp only [List.length_append]; omega)).mono fun e w' ⟨h1, h2, h3⟩ => ⟨by rw [h1, vf_congr VB.out.2], by rw [VB.out.1] at h2; exact h2, h3⟩)
  clear hr hg N3 K3 G3 VB
  go_wp2_with fail
  refine V4.out.mono ?_
  rintro e w5 ⟨rfl, hr, hg⟩
  have G5 := Lib.hid (grown_trans G4.out hg)
  have K5 : Hid (Mx w5 g2 (Mg.bare 0 0 0)) := Lib.hid (grown_step G4.out hg HB.out l2 K4.out)
  have R5 := Lib.hid hr
  clear hr hg V4 K4 G4
  go_wp2_with (first | refine wpList_pbuild (by rfl) _ rfl ({ Mg.bare (k : Int) (s : Int) (d : Int) with ack := m.ack } : Mg).cells.toArray (by simp only [List.map_toArray, List.map_cons, List.map_nil]; exact builtMg4 _ _ _ _ _) ?_ | refine wpList_galloc _ zeroMg rfl rfl ?_)
  intro g3 w6 l3 hx6 hb6
  have hl3 : w.heap.size ≤ g3 := Nat.le_trans G5.out.size l3
  have G6 := Lib.hid (grown_on G5.out (hb6.mono G5.out.size))
  have K6 : Hid (Mx w6 g2 (Mg.bare 0 0 0)) := Lib.hid (K5.out.later hb6)
  --REST
  have R6 := Lib.hid (R5.out.below hb6)
  have H6 := Lib.hid hx6
  have h23 : g2 ≠ g3 := by have := K5.out.lt; omega
  have hBg : B < g3 := Nat.lt_of_lt_of_le HB.out hl3
  have hB2 : B < g2 := Nat.lt_of_lt_of_le HB.out l2
  clear hx6 hb6 K5 R5 G5
  go_wp2_with (refine wpList_gstore rfl _ _ rfl g3 rfl ({ Mg.bare (k : Int) (s : Int) (d : Int) with ack := m.ack } : Mg).cells.toArray rfl _ _ H6.out (sizeMgA _) (by rw [mx_size, mx_size]) (Mg.one' _) ?_)
  intro w7 h7 g7
  have G7 := Lib.hid (grown_onE G6.out g7 hl3)
  have K7 : Hid (Mx w7 g2 (Mg.bare 0 0 0)) := Lib.hid ((g7.block _ K6.out.lt (by simpa using h23)).trans K6.out)
  have R7 := Lib.hid (R6.out.beside g7 hBg)
  obtain ⟨m1, hm1⟩ : ∃ x : Mg, x = { Mg.bare (k : Int) (s : Int) (d : Int) with ack := m.ack } := ⟨_, rfl⟩
  rw [← hm1] at h7 ⊢
  have X7 : Hid (Mx w7 g3 m1) := Lib.hid h7
  have HM1 := Lib.hid hm1
  have k1k : m1.kind = k := by rw [hm1]; rfl
  clear h7 g7 H6 K6 R6 G6 hm1
  have kk := X7.out.parts.kind
  rw [k1k] at kk
  rcases KD.out with q1 | q2 | ⟨q3, hcan⟩
  · have e2 : ((k : Int) == 2) = false := by rw [← HK.out, q1]; rfl
    have e3 : ((k : Int) == 3) = false := by rw [← HK.out, q1]; rfl
    have hT0 : T = [] := by rw [← HTL.out, if_neg (by omega), if_neg (by omega)]
    have hk := KK.out
    unfold kindM noBaseM noFullM noState at hk
    rw [if_pos q1] at hk
    simp only [Bool.and_eq_true, decide_eq_true_eq] at hk
    obtain ⟨hE0, hb0, ⟨hs0, hL0⟩, hf0⟩ := hk
    have EQ : Hid (m.Eq m1) := Lib.hid (by
      rw [HM1.out]
      exact ⟨HK.out.symm, HSr.out.symm, HDs.out.symm, veq_self _, hb0, hf0, by show evs m.E = _; rw [List.eq_nil_of_length_eq_zero hE0]; rfl, hs0, (List.eq_nil_of_length_eq_zero hL0).symm⟩)
    have EN : Hid (m1.E = [] ∧ m1.L = [] ∧ m1.ep = none ∧ m1.ec = 0) := Lib.hid (by rw [HM1.out]; exact ⟨rfl, rfl, rfl, rfl⟩)
    have MY : Hid (mayM m1 = true) := Lib.hid (may_mk HM.out EQ.out (by rw [HM1.out]; exact GD.out.1) (by rw [HM1.out]; exact good0) (by rw [HM1.out]; exact good0) (by
      rw [HM1.out]
      unfold kindM noBaseM noFullM noState Mg.bare
      simp only
      rw [if_pos (by rw [← HK.out]; exact q1)]
      simp [veq_self]))
    have RE : Hid (RdA w7 B ([], 0)) := Lib.hid (by have := R7.out; rw [hT0] at this; exact this)
    have WH := Lib.hid X7.out.whole
    have KE := K7; have GE := G7
    clear q1 hT0 hE0 hb0 hs0 hL0 hf0 R7 X7 K7 G7
    obtain ⟨XX, hXX⟩ : ∃ x, x = m1 := ⟨_, rfl⟩
    rw [← hXX] at EQ EN WH MY
    clear hXX
    go_wp2_with (first | refine wpList_gload rfl _ rfl g3 0 rfl _ WH.out _ Tryd.underlying29 rfl (sizeMg _) ?_ | refine wpList_gstore rfl _ _ rfl g2 rfl XX.cells.toArray rfl _ _ KE.out (sizeMgA _) (by rw [mx_size, mx_size]) (Mg.one' _) ?_)
    intro w99 h99 g99
    have G99 := Lib.hid (grown_onE GE.out g99 l2)
    have R99 := Lib.hid (RE.out.beside g99 hB2)
    have H99 := Lib.hid h99
    have FO : Hid (GotMg w B m (.returned (.agg XX.cells.toArray)) w99) := Lib.hid ⟨XX, rfl, EQ.out, MY.out, (by rw [EN.out.1, EN.out.2.2.1, EN.out.2.2.2]; exact ⟨World.ownsRow_nil _ _ _ _, fun x h => absurd h List.not_mem_nil⟩), (by rw [EN.out.2.1]; exact wrs_nil _ _), R99.out, G99.out⟩
    clear h99 g99 RE GE
    go_wp2
    exact bodyPost_ret (v := .agg XX.cells.toArray) (results_cell_row rfl _ w99 g2 _ _ (0, 0) _ rfl H99.out Tryd.underlying29 rfl (sizeMgA _)) rfl FO.out
  · have e2 : ((k : Int) == 2) = true := by rw [← HK.out, q2]; rfl
    have hT0 : T = vbytes m.base ++ (evsB m.E ++ []) := by rw [← HTL.out, if_pos q2, List.append_nil]
    have hk := KK.out
    unfold kindM noFullM noState at hk
    rw [if_neg (by omega), if_pos q2] at hk
    simp only [Bool.and_eq_true, decide_eq_true_eq] at hk
    obtain ⟨hE1, ⟨hs0, hL0⟩, hf0⟩ := hk
    have q2' := q2
    have VB := vec_back m.base GD.out.2.1 (evsB m.E ++ [])
    have pE : 0 < (evsB m.E ++ ([] : List UInt8)).length := by
      unfold evsB
      simp only [List.length_append]
      have : 0 < (Cod.enc m.E.length).length := by rw [Cod.enc_length]; omega
      omega
    have V8 : Hid (Calls Tryd.prog 32 #[.pointer (some ⟨B, 0, none⟩)] w7 fun e w' => e = .returned (.agg (vf m.base)) ∧ Rd w' B (evsB m.E ++ []) ∧ w7.grownBy w' (some B)) := Lib.hid ((vread_is B (T, 0) w7 R7.out (by show T.length ≤ _; omega)).mono fun e w' ⟨h1, h2, h3⟩ => ⟨by rw [h1, hT0, vf_congr VB.2], by rw [hT0, VB.1] at h2; exact h2.live pE, h3⟩)
    clear q2 hT0 VB pE R7
    go_wp2_with fail
    refine V8.out.mono ?_
    rintro e w8 ⟨rfl, hr, hg⟩
    have G8 := Lib.hid (grown_trans G7.out hg)
    have K8 : Hid (Mx w8 g2 (Mg.bare 0 0 0)) := Lib.hid (grown_step G7.out hg HB.out l2 K7.out)
    have X8 : Hid (Mx w8 g3 m1) := Lib.hid (grown_step G7.out hg HB.out hl3 X7.out)
    have R8 := Lib.hid hr
    clear hr hg V8 K7 X7 G7 kk
    go_wp2_with (refine wpList_pset rfl _ _ _ rfl g3 67 rfl (vf m.base) rfl (by rw [vf_size]; kernel_rfl) (vf_oneC _) X8.out (by rw [vf_size, mx_size]; omega) ?_)
    intro w9 hw9
    have gq := grown_setCells g3 (vf m.base).toList w8 67
    have xq := X8.out.setBase m.base
    rw [← hw9.out] at gq xq
    have G9 := Lib.hid (grown_onE G8.out gq hl3)
    have K9 : Hid (Mx w9 g2 (Mg.bare 0 0 0)) := Lib.hid ((gq.block _ K8.out.lt (by simpa using h23)).trans K8.out)
    have R9 := Lib.hid (R8.out.under' hBg (grown_below gq (Nat.le_of_lt X8.out.lt) (Nat.le_refl _)))
    obtain ⟨m2, hm2⟩ : ∃ x : Mg, x = { m1 with base := m.base } := ⟨_, rfl⟩
    rw [← hm2] at xq
    have X9 := Lib.hid xq
    have HM2 := Lib.hid hm2
    clear gq xq hm2 hw9 X8 K8 G8 R8
    have EV := Lib.hid (readEvents_live B m.E [] w9 R9.out NE.out.2 NE.out.1 (fun w' hg => HT.out w' (grown_trans G9.out hg)) (by simp))
    go_wp2_with fail
    refine EV.out.mono ?_
    rintro e w10 ⟨v10, ys, rfl, ho, hys, hr, hg⟩
    obtain ⟨p10, c10, rfl, _, _, _⟩ := ho.at
    have ho := OwnE.mk (own_base ho.row G9.out.size) (fun x hx => own_base (ho.gone x hx) G9.out.size)
    have G10 := Lib.hid (grown_trans G9.out hg)
    have K10 : Hid (Mx w10 g2 (Mg.bare 0 0 0)) := Lib.hid (grown_step G9.out hg HB.out l2 K9.out)
    have X10 : Hid (Mx w10 g3 m2) := Lib.hid (grown_step G9.out hg HB.out hl3 X9.out)
    have R10 : Hid (RdA w10 B ([], 0)) := Lib.hid (.inl ⟨rfl, hr⟩)
    have O10 := Lib.hid ho
    clear hr hg ho EV K9 X9 G9 R9
    go_wp2_with (refine wpList_storeSl rfl _ _ _ rfl ⟨g3, 131, none⟩ rfl p10 ys.length c10 rfl (fun w => by kernel_rfl) _ X10.out.parts.evs (frozen_of_row _ g3 131 _ _ X10.out) ?_)
    intro w11 hw11
    have gq := grown_cell w10 g3 131 (.slice p10 ys.length c10)
    have xq := X10.out.setEvs p10 c10 ys
    rw [← hw11.out] at gq xq
    have GE := Lib.hid (grown_onE G10.out gq hl3)
    have KE : Hid (Mx w11 g2 (Mg.bare 0 0 0)) := Lib.hid ((gq.block _ K10.out.lt (by simpa using h23)).trans K10.out)
    have RE := Lib.hid (R10.out.beside gq hBg)
    have OE := Lib.hid (O10.out.off X10.out gq)
    obtain ⟨XX, hXX⟩ : ∃ x : Mg, x = { m2 with ep := p10, ec := c10, E := ys } := ⟨_, rfl⟩
    rw [← hXX] at xq
    have XE : Hid (Mx w11 g3 XX) := Lib.hid xq
    have HXX := Lib.hid hXX
    have EE : Hid (XX.E = ys ∧ XX.ep = p10 ∧ XX.ec = c10) := Lib.hid (by rw [hXX]; exact ⟨rfl, rfl, rfl⟩)
    clear gq xq hw11 hXX X10 K10 G10 R10 O10
    have EQ : Hid (m.Eq XX) := Lib.hid (by
      rw [HXX.out, HM2.out, HM1.out]
      exact ⟨HK.out.symm, HSr.out.symm, HDs.out.symm, veq_self _, veq_self _, hf0, hys.symm, hs0, (List.eq_nil_of_length_eq_zero hL0).symm⟩)
    have EN : Hid (XX.L = []) := Lib.hid (by rw [HXX.out, HM2.out, HM1.out]; rfl)
    have hlen : ys.length = m.E.length := by have := congrArg List.length hys; simpa [evs] using this
    have MY : Hid (mayM XX = true) := Lib.hid (may_mk HM.out EQ.out (by rw [HXX.out, HM2.out, HM1.out]; exact GD.out.1) (by rw [HXX.out, HM2.out]; exact GD.out.2.1) (by rw [HXX.out, HM2.out, HM1.out]; exact good0) (by
      rw [HXX.out, HM2.out, HM1.out]
      unfold kindM noFullM noState Mg.bare
      simp only
      rw [if_neg (by rw [← HK.out]; omega), if_pos (by rw [← HK.out]; exact q2')]
      simp [veq_self]
      omega))
    have WH := Lib.hid XE.out.whole
    clear hs0 hL0 hf0 hys XE HXX hE1 q2' hlen
    go_wp2_with (first | refine wpList_gload rfl _ rfl g3 0 rfl _ WH.out _ Tryd.underlying29 rfl (sizeMg _) ?_ | refine wpList_gstore rfl _ _ rfl g2 rfl XX.cells.toArray rfl _ _ KE.out (sizeMgA _) (by rw [mx_size, mx_size]) (Mg.one' _) ?_)
    intro w99 h99 g99
    have G99 := Lib.hid (grown_onE GE.out g99 l2)
    have R99 := Lib.hid (RE.out.beside g99 hB2)
    have H99 := Lib.hid h99
    have FO : Hid (GotMg w B m (.returned (.agg XX.cells.toArray)) w99) := Lib.hid ⟨XX, rfl, EQ.out, MY.out, (by rw [EE.out.1, EE.out.2.1, EE.out.2.2]; exact OE.out.off KE.out g99), (by rw [EN.out]; exact wrs_nil _ _), R99.out, G99.out⟩
    clear h99 g99 RE GE
    go_wp2
    exact bodyPost_ret (v := .agg XX.cells.toArray) (results_cell_row rfl _ w99 g2 _ _ (0, 0) _ rfl H99.out Tryd.underlying29 rfl (sizeMgA _)) rfl FO.out
  · have e2 : ((k : Int) == 2) = false := by rw [← HK.out, q3]; rfl
    have e3 : ((k : Int) == 3) = true := by rw [← HK.out, q3]; rfl
    have hT0 : T = stB m.seen m.L ++ (vbytes m.floor ++ (evsB m.E ++ [])) := by rw [← HTL.out, if_neg (by omega), if_pos q3, List.append_nil, List.append_assoc]
    have hk := KK.out
    unfold kindM noBaseM at hk
    rw [if_neg (by omega), if_neg (by omega), if_pos q3] at hk
    simp only [Bool.and_eq_true] at hk
    obtain ⟨_, hb0⟩ := hk
    have q3' := q3
    have hcan' := hcan
    have VB := vec_back m.floor GD.out.2.2 (evsB m.E ++ [])
    have pE : 0 < (evsB m.E ++ ([] : List UInt8)).length := by
      unfold evsB
      simp only [List.length_append]
      have : 0 < (Cod.enc m.E.length).length := by rw [Cod.enc_length]; omega
      omega
    have pS : 0 < T.length := by rw [hT0]; simp only [List.length_append] at pE ⊢; omega
    have nF : (vbytes m.floor ++ (evsB m.E ++ [])).length ≤ 20000000 := by rw [hT0, List.length_append] at n4; omega
    have R7' : Rd w7 B (stB m.seen m.L ++ (vbytes m.floor ++ (evsB m.E ++ []))) := by
      have := R7.out.live pS
      rwa [hT0] at this
    have V8 := Lib.hid (readState_live B m.seen m.L (vbytes m.floor ++ (evsB m.E ++ [])) w7 R7' hcan (fun w' hg => HT.out w' (grown_trans G7.out hg)) (by omega))
    have VB := Lib.hid VB; have PE := Lib.hid pE
    clear q3 hT0 pE pS R7 R7' hcan
    go_wp2_with fail
    refine V8.out.mono ?_
    rintro e w8 ⟨p8, c8, rfl, hW8, _, hr, hg⟩
    have G8 := Lib.hid (grown_trans G7.out hg)
    have K8 : Hid (Mx w8 g2 (Mg.bare 0 0 0)) := Lib.hid (grown_step G7.out hg HB.out l2 K7.out)
    have X8 : Hid (Mx w8 g3 m1) := Lib.hid (grown_step G7.out hg HB.out hl3 X7.out)
    have R8 := Lib.hid hr; have W8 := Lib.hid hW8
    clear hr hg hW8 V8 K7 X7 G7 kk
    go_wp2_with (refine wpList_pset rfl _ _ _ rfl g3 132 rfl (scs m.seen (.slice p8 m.L.length c8)) rfl (sizeSt _ _) (scs_one m.seen rfl) X8.out (by rw [scs_size, mx_size]; omega) ?_)
    intro w9 hw9
    have gq := grown_setCells g3 (scs m.seen (.slice p8 m.L.length c8)).toList w8 132
    have xq := X8.out.setSt m.seen p8 c8 m.L
    rw [← hw9.out] at gq xq
    have G9 := Lib.hid (grown_onE G8.out gq hl3)
    have K9 : Hid (Mx w9 g2 (Mg.bare 0 0 0)) := Lib.hid ((gq.block _ K8.out.lt (by simpa using h23)).trans K8.out)
    have R9 := Lib.hid (R8.out.under' hBg (grown_below gq (Nat.le_of_lt X8.out.lt) (Nat.le_refl _)))
    have W9 := Lib.hid (wrs_off W8.out gq X8.out.nostr)
    obtain ⟨m3, hm3⟩ : ∃ x : Mg, x = { m1 with seen := m.seen, sp := p8, sc := c8, L := m.L } := ⟨_, rfl⟩
    rw [← hm3] at xq
    have X9 := Lib.hid xq
    have HM3 := Lib.hid hm3
    clear gq xq hm3 hw9 X8 K8 G8 R8 W8
    have VF : Hid (Calls Tryd.prog 32 #[.pointer (some ⟨B, 0, none⟩)] w9 fun e w' => e = .returned (.agg (vf m.floor)) ∧ Rd w' B (evsB m.E ++ []) ∧ w9.grownBy w' (some B)) := Lib.hid ((vread_is B (vbytes m.floor ++ (evsB m.E ++ []), 0) w9 (.inl ⟨rfl, R9.out⟩) (by show (vbytes m.floor ++ (evsB m.E ++ [])).length ≤ _; omega)).mono fun e w' ⟨h1, h2, h3⟩ => ⟨by rw [h1, vf_congr VB.out.2], by rw [VB.out.1] at h2; exact h2.live PE.out, h3⟩)
    go_wp2_with fail
    refine VF.out.mono ?_
    rintro e w12 ⟨rfl, hr, hg⟩
    have G12 := Lib.hid (grown_trans G9.out hg)
    have K12 : Hid (Mx w12 g2 (Mg.bare 0 0 0)) := Lib.hid (grown_step G9.out hg HB.out l2 K9.out)
    have X12 : Hid (Mx w12 g3 m3) := Lib.hid (grown_step G9.out hg HB.out hl3 X9.out)
    have RA9 : RdA w9 B (vbytes m.floor ++ (evsB m.E ++ []), 0) := .inl ⟨rfl, R9.out⟩
    have W12 := Lib.hid (wrs_off W9.out hg RA9.nostr)
    have R12 := Lib.hid hr
    clear hr hg VF K9 X9 G9 R9 W9 RA9
    go_wp2_with (refine wpList_pset rfl _ _ _ rfl g3 197 rfl (vf m.floor) rfl (by rw [vf_size]; kernel_rfl) (vf_oneC _) X12.out (by rw [vf_size, mx_size]; omega) ?_)
    intro w9 hw9
    have gq := grown_setCells g3 (vf m.floor).toList w12 197
    have xq := X12.out.setFloor m.floor
    rw [← hw9.out] at gq xq
    have G9 := Lib.hid (grown_onE G12.out gq hl3)
    have K9 : Hid (Mx w9 g2 (Mg.bare 0 0 0)) := Lib.hid ((gq.block _ K12.out.lt (by simpa using h23)).trans K12.out)
    have R9 := Lib.hid (R12.out.under' hBg (grown_below gq (Nat.le_of_lt X12.out.lt) (Nat.le_refl _)))
    have W9 := Lib.hid (wrs_off W12.out gq X12.out.nostr)
    obtain ⟨m2, hm2⟩ : ∃ x : Mg, x = { m3 with floor := m.floor } := ⟨_, rfl⟩
    rw [← hm2] at xq
    have X9 := Lib.hid xq
    have HM2 := Lib.hid hm2
    clear gq xq hm2 hw9 X12 K12 G12 R12 W12
    have EV := Lib.hid (readEvents_live B m.E [] w9 R9.out NE.out.2 NE.out.1 (fun w' hg => HT.out w' (grown_trans G9.out hg)) (by simp))
    go_wp2_with fail
    refine EV.out.mono ?_
    rintro e w10 ⟨v10, ys, rfl, ho, hys, hr, hg⟩
    obtain ⟨p10, c10, rfl, _, _, _⟩ := ho.at
    have ho := OwnE.mk (own_base ho.row G9.out.size) (fun x hx => own_base (ho.gone x hx) G9.out.size)
    have G10 := Lib.hid (grown_trans G9.out hg)
    have K10 : Hid (Mx w10 g2 (Mg.bare 0 0 0)) := Lib.hid (grown_step G9.out hg HB.out l2 K9.out)
    have X10 : Hid (Mx w10 g3 m2) := Lib.hid (grown_step G9.out hg HB.out hl3 X9.out)
    have R10 : Hid (RdA w10 B ([], 0)) := Lib.hid (.inl ⟨rfl, hr⟩)
    have O10 := Lib.hid ho
    have RA9 : RdA w9 B (evsB m.E ++ [], 0) := .inl ⟨rfl, R9.out⟩
    have W10 := Lib.hid (wrs_off W9.out hg RA9.nostr)
    clear hr hg ho EV K9 X9 G9 R9
    go_wp2_with (refine wpList_storeSl rfl _ _ _ rfl ⟨g3, 131, none⟩ rfl p10 ys.length c10 rfl (fun w => by kernel_rfl) _ X10.out.parts.evs (frozen_of_row _ g3 131 _ _ X10.out) ?_)
    intro w11 hw11
    have gq := grown_cell w10 g3 131 (.slice p10 ys.length c10)
    have xq := X10.out.setEvs p10 c10 ys
    rw [← hw11.out] at gq xq
    have GE := Lib.hid (grown_onE G10.out gq hl3)
    have KE : Hid (Mx w11 g2 (Mg.bare 0 0 0)) := Lib.hid ((gq.block _ K10.out.lt (by simpa using h23)).trans K10.out)
    have RE := Lib.hid (R10.out.beside gq hBg)
    have OE := Lib.hid (O10.out.off X10.out gq)
    have W11 := Lib.hid (wrs_off W10.out gq X10.out.nostr)
    obtain ⟨XX, hXX⟩ : ∃ x : Mg, x = { m2 with ep := p10, ec := c10, E := ys } := ⟨_, rfl⟩
    rw [← hXX] at xq
    have XE : Hid (Mx w11 g3 XX) := Lib.hid xq
    have HXX := Lib.hid hXX
    have EE : Hid (XX.E = ys ∧ XX.ep = p10 ∧ XX.ec = c10) := Lib.hid (by rw [hXX]; exact ⟨rfl, rfl, rfl⟩)
    clear gq xq hw11 hXX X10 K10 G10 R10 O10
    have EQ : Hid (m.Eq XX) := Lib.hid (by
      rw [HXX.out, HM2.out, HM3.out, HM1.out]
      exact ⟨HK.out.symm, HSr.out.symm, HDs.out.symm, veq_self _, hb0, veq_self _, hys.symm, veq_self _, rfl⟩)
    have EN : Hid (XX.L = m.L ∧ XX.sp = p8) := Lib.hid (by rw [HXX.out, HM2.out, HM3.out]; exact ⟨rfl, rfl⟩)
    have MY : Hid (mayM XX = true) := Lib.hid (may_mk HM.out EQ.out (by rw [HXX.out, HM2.out, HM3.out, HM1.out]; exact GD.out.1) (by rw [HXX.out, HM2.out, HM3.out, HM1.out]; exact good0) (by rw [HXX.out, HM2.out]; exact GD.out.2.2) (by
      rw [HXX.out, HM2.out, HM3.out, HM1.out]
      unfold kindM noBaseM Mg.bare
      simp only
      rw [if_neg (by rw [← HK.out]; omega), if_neg (by rw [← HK.out]; omega), if_pos (by rw [← HK.out]; exact q3')]
      simp [veq_self, hcan']))
    have WH := Lib.hid XE.out.whole
    clear hb0 hys XE HXX q3' hcan'
    go_wp2_with (first | refine wpList_gload rfl _ rfl g3 0 rfl _ WH.out _ Tryd.underlying29 rfl (sizeMg _) ?_ | refine wpList_gstore rfl _ _ rfl g2 rfl XX.cells.toArray rfl _ _ KE.out (sizeMgA _) (by rw [mx_size, mx_size]) (Mg.one' _) ?_)
    intro w99 h99 g99
    have G99 := Lib.hid (grown_onE GE.out g99 l2)
    have R99 := Lib.hid (RE.out.beside g99 hB2)
    have H99 := Lib.hid h99
    have FO : Hid (GotMg w B m (.returned (.agg XX.cells.toArray)) w99) := Lib.hid ⟨XX, rfl, EQ.out, MY.out, (by rw [EE.out.1, EE.out.2.1, EE.out.2.2]; exact OE.out.off KE.out g99), (by rw [EN.out.1, EN.out.2]; exact wrs_off W11.out g99 KE.out.nostr), R99.out, G99.out⟩
    clear h99 g99 RE GE
    go_wp2
    exact bodyPost_ret (v := .agg XX.cells.toArray) (results_cell_row rfl _ w99 g2 _ _ (0, 0) _ rfl H99.out Tryd.underlying29 rfl (sizeMgA _)) rfl FO.out
end Go.Proofs.YtpngmjfnpdjjcaaDoor
/- wire.Decode of what Encode wrote. -/
namespace Go.Proofs.YtpngmjfnpdjjcaaDoor
open Go Go.RowKit
set_option linter.unusedVariables false
set_option maxRecDepth 1000000

theorem opens_sealed (l : List UInt8) : opens (sealed l) = (l, 0) := by
  have h1 : (sealed l).drop 4 = l := by simp [sealed, be4]
  have h2 : (sealed l).take 4 = be4 (Frm.crc l) := by simp [sealed, be4]
  unfold opens
  rw [if_neg (by rw [sealed_length]; omega), h1, if_pos h2]

theorem end_any (B : Nat) (w : World) (h : RdA w B ([], 0)) : Calls Tryd.prog 19 #[.pointer (some ⟨B, 0, none⟩)] w fun e w' => e = .returned (.int .i64 0) ∧ w = w' := by
  have E := Lib.hid (err_any B ([], 0) w h)
  have L := Lib.hid (left_any B ([], 0) w h)
  clear h
  go_enter Tryd.func19, Tryd.ntmps19
  go_wp2_with fail
  refine E.out.mono ?_
  rintro e w' ⟨rfl, rfl⟩
  go_wp2_with fail
  refine L.out.mono ?_
  rintro e w' ⟨rfl, rfl⟩
  go_wp2
  go_ret
  exact ⟨rfl, rfl⟩
/-- what decoding a message comes to -/
def DecR (w : World) (m : Mg) (e : Ending) (w' : World) : Prop := ∃ x : Mg, e = .returned (.tuple #[.agg x.cells.toArray, .int .i64 0]) ∧ m.Eq x ∧ EvsAt w' x.ep x.E ∧ WrsAt w' x.sp x.L ∧ Below w.heap.size w w'
set_option maxHeartbeats 16000000 in
theorem decode_is (m : Mg) (p : Option Addr) (c : Nat) (l : List UInt8) (w : World) (h : Lies w p l) (hlc : l.length ≤ c) (hS : Shapes w) (hT : Table w) (hM : mayM m = true) (hl : l = sealed (mgB m)) :
    Calls Tryd.prog 7 #[.slice p l.length c] w (DecR w m) := by
  have ML := mgB_len hM
  have pM : 0 < (mgB m).length := by
    unfold mgB
    simp only [List.length_append]
    have : 0 < (Cod.enc m.kind.toNat).length := by rw [Cod.enc_length]; omega
    omega
  have HS := Lib.hid hS; have HM := Lib.hid hM
  have nl : l.length ≤ 30000000 := by rw [hl, sealed_length]; omega
  have OP : Hid (∀ V : World, Below w.heap.size w V → Calls Tryd.prog 16 #[.slice p l.length c] V (RetTwo V (mgB m, 0))) := Lib.hid fun V hV => by
    have := open_any p c l V (h.below hV) hlc (hT.below hV) (by omega)
    rw [hl, opens_sealed] at this
    rw [hl]; exact this
  obtain ⟨LB, hLB⟩ : ∃ X, mgB m = X := ⟨_, rfl⟩
  rw [hLB] at OP ML pM
  have HLB := Lib.hid hLB
  clear h hS hT hM hl hLB hlc
  go_enter Tryd.func7, Tryd.ntmps7
  go_wp2_with (refine wpList_galloc _ zeroMg rfl rfl ?_)
  intro g2 w1 l2 h1 hb1
  have K1 : Hid (Mx w1 g2 (Mg.bare 0 0 0)) := Lib.hid h1
  have B1 := Lib.hid hb1
  clear h1 hb1
  go_wp2_with fail
  refine (OP.out w1 B1.out).mono ?_
  rintro e w2 ⟨p2, c2, rfl, le2, n2, lies2, hb2⟩
  have K2 := Lib.hid (K1.out.later hb2); have B2 := Lib.hid (thenBelow B1.out hb2)
  have RA := Lib.hid (read_any p2 c2 LB w2 ⟨lies2, le2, n2⟩ pM (by omega))
  clear hb2 K1 OP le2 n2 lies2
  go_wp2_with fail
  refine RA.out.mono ?_
  rintro e w3 ⟨B, rfl, hB, hr3, hb3⟩
  have K3 := Lib.hid (K2.out.later hb3); have B3 := Lib.hid (thenBelow B2.out hb3)
  have hBW : w.heap.size ≤ B := Nat.le_trans B2.out.size hB
  have h2B : g2 < B := Nat.lt_of_lt_of_le K2.out.lt hB
  rw [← HLB.out] at hr3
  have RM := Lib.hid (wireRead_live B m w3 hr3 HM.out (fun w' hg => HS.out.below (B3.out.grown hg B3.out.size (fun k hk => by have e2 : k = B := (Option.some.inj hk).symm; omega))))
  clear hr3 hb3 RA K2 hB
  go_wp2_with fail
  refine RM.out.mono ?_
  rintro e w4 ⟨x, rfl, hq, hmx, ho4, hw4, hr4, hg4⟩
  have B4 := Lib.hid (B3.out.grown hg4 B3.out.size (fun k hk => by have e2 : k = B := (Option.some.inj hk).symm; omega))
  have K4 : Hid (Mx w4 g2 (Mg.bare 0 0 0)) := Lib.hid ((hg4.block g2 K3.out.lt (fun e => by have e2 : g2 = B := Option.some.inj e; omega)).trans K3.out)
  have O4 := Lib.hid ho4; have W4 := Lib.hid hw4; have R4 := Lib.hid hr4
  have HQ := Lib.hid hq; have HX := Lib.hid hmx
  clear hq hmx ho4 hw4 hr4 hg4 RM K3
  go_wp2_with (refine wpList_galloc _ zeroMg rfl rfl ?_)
  intro g7 w5 l7 h5 hb5
  have H5 := Lib.hid h5
  have O5 := Lib.hid (O4.out.later hb5); have W5 := Lib.hid (W4.out.below hb5); have R5 := Lib.hid (R4.out.below hb5); have B5 := Lib.hid (thenBelow B4.out hb5); have K5 := Lib.hid (K4.out.later hb5)
  have l7W : w.heap.size ≤ g7 := Nat.le_trans B4.out.size l7
  have h27 : g2 ≠ g7 := by have := K4.out.lt; omega
  have hB7 : B < g7 := Nat.lt_of_lt_of_le R4.out.lt l7
  clear h5 hb5 O4 W4 R4 B4 K4
  go_wp2_with (refine wpList_gstore rfl _ _ rfl g7 rfl x.cells.toArray rfl _ _ H5.out (sizeMgA _) (by rw [mx_size, mx_size]) (Mg.one' _) ?_)
  intro w6 h6 g6
  have X6 : Hid (Mx w6 g7 x) := Lib.hid h6
  have hx5 : Mx w5 g7 (Mg.bare 0 0 0) := H5.out
  have O6 := Lib.hid (O5.out.off H5.out g6); have W6 := Lib.hid (wrs_off W5.out g6 hx5.nostr); have R6 := Lib.hid (R5.out.beside g6 hB7)
  have B6 := Lib.hid (B5.out.trans (grown_below g6 B5.out.size l7W))
  have K6 : Hid (Mx w6 g2 (Mg.bare 0 0 0)) := Lib.hid ((g6.block g2 K5.out.lt (by simpa using h27)).trans K5.out)
  have EN := Lib.hid (end_any B w6 R6.out)
  clear h6 g6 hx5 H5 O5 W5 R5 B5 K5
  go_wp2_with fail
  refine EN.out.mono ?_
  rintro e w7 ⟨rfl, rfl⟩
  have WH := Lib.hid X6.out.whole
  have EA : Hid (EvsAt w6 x.ep x.E) := Lib.hid (by obtain ⟨_, _, e9, _, h9, _⟩ := O6.out.at; injection e9 with e9 _ _; rw [e9]; exact h9)
  have hmE : mayE x = 0 := by unfold mayE; rw [if_pos HX.out]
  have CK := wireCheck_is x w6 EA.out W6.out (HS.out.below B6.out)
  rw [hmE] at CK
  have CK := Lib.hid CK
  clear hmE EN
  go_wp2_with (refine wpList_gloadG (by rfl) _ rfl g7 0 rfl _ WH.out _ Tryd.underlying29 rfl (sizeMg _) ?_)
  refine CK.out.mono ?_
  rintro e w8 ⟨rfl, hb8⟩
  have X8 := Lib.hid (X6.out.later hb8); have K8 := Lib.hid (K6.out.later hb8); have O8 := Lib.hid (O6.out.later hb8); have W8 := Lib.hid (W6.out.below hb8); have B8 := Lib.hid (thenBelow B6.out hb8)
  have WH := Lib.hid X8.out.whole
  clear hb8 CK X6 K6 O6 W6 B6 EA R6
  go_wp2_with (first | refine wpList_gload rfl _ rfl g7 0 rfl _ WH.out _ Tryd.underlying29 rfl (sizeMg _) ?_ | refine wpList_gstore rfl _ _ rfl g2 rfl x.cells.toArray rfl _ _ K8.out (sizeMgA _) (by rw [mx_size, mx_size]) (Mg.one' _) ?_)
  intro w9 h9 g9
  have H9 := Lib.hid h9
  have O9 := Lib.hid (O8.out.off K8.out g9); have W9 := Lib.hid (wrs_off W8.out g9 K8.out.nostr)
  have B9 := Lib.hid (B8.out.trans (grown_below g9 B8.out.size l2))
  have FO : Hid (DecR w m (.returned (.tuple #[.agg x.cells.toArray, .int .i64 0])) w9) := Lib.hid ⟨x, rfl, HQ.out, (by obtain ⟨_, _, e9, _, h9, _⟩ := O9.out.at; injection e9 with e9 _ _; rw [e9]; exact h9), W9.out, B9.out⟩
  clear h9 g9 O9 W9 B9 O8 W8 K8 X8
  go_wp2
  exact bodyPost_ret (v := .tuple #[.agg x.cells.toArray, .int .i64 0]) (results_cell_two (p := 2) (q := 3) rfl _ w9 g2 _ _ (0, 0) _ rfl H9.out Tryd.underlying29 rfl (sizeMgA _) (.int .i64 0) rfl) rfl FO.out
end Go.Proofs.YtpngmjfnpdjjcaaDoor
/- The walk of WireBack. -/
namespace Go.Proofs.YtpngmjfnpdjjcaaDoor
open Go Go.RowKit
set_option linter.unusedVariables false
set_option maxRecDepth 1000000

theorem evs_mem {E M : List EvP} (h : evs E = evs M) (hE : ∀ y ∈ E, y.e.gone.length ≤ 130) : ∀ y ∈ M, y.e.gone.length ≤ 1000 := by
  intro y hy
  have : y.e ∈ evs E := by rw [h]; exact List.mem_map.2 ⟨y, hy, rfl⟩
  obtain ⟨z, hz, e⟩ := List.mem_map.1 this
  have h2 := hE z hz
  rw [e] at h2
  omega
set_option maxHeartbeats 16000000 in
theorem wireBack_walk (m : Mg) (W : World) (hE : EvsAt W m.ep m.E) (hL : WrsAt W m.sp m.L) (ho : m.E.length ≤ m.ec ∧ (∀ a, m.ep = some a → ∃ b o, a = ⟨b, o, none⟩) ∧ (∀ a, m.sp = some a → ∃ b o, a = ⟨b, o, none⟩)) (hS : Shapes W) (hT : Table W) :
    Calls Tryd.prog 3 #[.agg m.cells.toArray] W (Yes W) := by
  have HE := Lib.hid hE; have HW := Lib.hid hL; have HS := Lib.hid hS; have HT := Lib.hid hT
  clear hE hL ho hS hT
  go_enter Tryd.func3, Tryd.ntmps3
  go_wp2_with (refine wpList_gbox rfl _ rfl m.cells.toArray rfl ?_)
  intro g w1 l1 h1 hb1
  have X1 : Hid (Mx w1 g m) := Lib.hid h1
  have B1 := Lib.hid hb1
  have W1 := Lib.hid X1.out.whole
  clear h1 hb1
  go_wp2_with (refine wpList_gload rfl _ rfl g 0 rfl _ W1.out _ Tryd.underlying29 rfl (sizeMg m) ?_)
  refine (smallM_is m w1 (HE.out.below B1.out) (HW.out.below B1.out)).mono ?_
  rintro e w2 ⟨b2, rfl, hs2, hb2⟩
  have X2 := Lib.hid (X1.out.later hb2); have B2 := Lib.hid (thenBelow B1.out hb2)
  clear hb2 X1 B1 W1
  cases b2 with
  | false =>
    clear hs2
    have AW := Lib.hid (awake14 w2 (HS.out.below B2.out) (HT.out.below B2.out))
    go_wp2_with fail
    refine AW.out.mono ?_
    rintro e w99 ⟨rfl, hb99⟩
    have B99 := Lib.hid (thenBelow B2.out hb99)
    clear hb99 AW
    go_wp2
    go_ret
    exact ⟨rfl, B99.out⟩
  | true =>
  have SM := Lib.hid (hs2 rfl)
  have W2 := Lib.hid X2.out.whole
  have EN := Lib.hid (encode_is m w2 (HE.out.below B2.out) (HW.out.below B2.out) (HS.out.below B2.out) (HT.out.below B2.out))
  clear hs2
  go_wp2_with (refine wpList_gload rfl _ rfl g 0 rfl _ W2.out _ Tryd.underlying29 rfl (sizeMg m) ?_)
  refine EN.out.mono ?_
  intro e w3 hr
  clear EN W2
  rcases hr with ⟨hM, p3, c3, rfl, ho3, hb3⟩ | ⟨_, rfl, hb3⟩
  · obtain ⟨q, hq⟩ : ∃ q, q = sealed (mgB m) := ⟨_, rfl⟩
    rw [← hq] at ho3 ⊢
    have B3 := Lib.hid (thenBelow B2.out hb3)
    have X3 := Lib.hid (X2.out.later hb3)
    obtain ⟨_, p', c', hv, hle', _, lies', _⟩ := own_lies ho3
    simp only [Value.slice.injEq] at hv
    obtain ⟨rfl, -, rfl⟩ := hv
    have DC := Lib.hid (decode_is m _ _ q w3 lies' hle' (HS.out.below B3.out) (HT.out.below B3.out) hM hq)
    clear hb3 B2 X2 ho3 hle' lies' hM hq
    go_wp2_with fail
    refine DC.out.mono ?_
    rintro e w4 ⟨x, rfl, hqx, hE4, hW4, hb4⟩
    have B4 := Lib.hid (thenBelow B3.out hb4); have X4 := Lib.hid (X3.out.later hb4)
    have E4 := Lib.hid hE4; have W4 := Lib.hid hW4; have HQ := Lib.hid hqx
    clear hb4 DC B3 X3 hqx hE4 hW4
    go_wp2_with (refine wpList_galloc _ zeroMg rfl rfl ?_)
    intro g9 w5 l9 h9 hb5
    have H9 := Lib.hid h9; have B5 := Lib.hid (thenBelow B4.out hb5); have X5 := Lib.hid (X4.out.later hb5)
    have l9W : W.heap.size ≤ g9 := Nat.le_trans B4.out.size l9
    have hg9 : g ≠ g9 := by have := X4.out.lt; omega
    have hb45 := Lib.hid hb5
    clear h9 hb5 X4
    go_wp2_with (refine wpList_gstore rfl _ _ rfl g9 rfl x.cells.toArray rfl _ _ H9.out (sizeMgA _) (by rw [mx_size, mx_size]) (Mg.one' _) ?_)
    intro w6 h6 g6
    have B6 := Lib.hid (B5.out.trans (grown_below g6 B5.out.size l9W))
    have bx : Below w4.heap.size w4 w6 := hb45.out.trans (grown_below g6 hb45.out.size l9)
    have Y6 : Hid (Mx w6 g9 x) := Lib.hid h6
    have X6 : Hid (Mx w6 g m) := Lib.hid ((g6.block g X5.out.lt (by simpa using hg9)).trans X5.out)
    have E6 := Lib.hid (E4.out.below bx); have W6 := Lib.hid (W4.out.below bx)
    have WX := Lib.hid X6.out.whole; have WY := Lib.hid Y6.out.whole
    have hlen : m.E.length = x.E.length := by have := congrArg List.length HQ.out.evs; simpa [evs] using this
    have SA := Lib.hid (wireSame_is m x w6 HQ.out (HE.out.below B6.out) E6.out (HW.out.below B6.out) W6.out (by have := SM.out.1; omega) (by have := SM.out.1; omega) (fun y hy => by have := SM.out.2.1 y hy; omega) (evs_mem HQ.out.evs SM.out.2.1) (by have := SM.out.2.2; omega))
    clear h6 g6 bx H9 hb45 X5 B5 E4 W4 B4 X6 Y6 E6 W6 HQ hlen
    go_wp2_with (first | refine wpList_gloadG (by rfl) _ rfl g 0 rfl _ WX.out _ Tryd.underlying29 rfl (sizeMg _) ?_ | refine wpList_gloadG (by rfl) _ rfl g9 0 rfl _ WY.out _ Tryd.underlying29 rfl (sizeMg _) ?_)
    refine SA.out.mono ?_
    rintro e w7 ⟨rfl, hb7⟩
    have B7 := Lib.hid (thenBelow B6.out hb7)
    clear hb7 SA WX WY B6
    have AW := Lib.hid (awake14 w7 (HS.out.below B7.out) (HT.out.below B7.out))
    go_wp2_with fail
    refine AW.out.mono ?_
    rintro e w99 ⟨rfl, hb99⟩
    have B99 := Lib.hid (thenBelow B7.out hb99)
    clear hb99 AW
    go_wp2
    go_ret
    exact ⟨rfl, B99.out⟩
  · have B3 := Lib.hid (thenBelow B2.out hb3)
    clear hb3
    have AW := Lib.hid (awake14 w3 (HS.out.below B3.out) (HT.out.below B3.out))
    go_wp2_with fail
    refine AW.out.mono ?_
    rintro e w99 ⟨rfl, hb99⟩
    have B99 := Lib.hid (thenBelow B3.out hb99)
    clear hb99 AW
    go_wp2
    go_ret
    exact ⟨rfl, B99.out⟩
end Go.Proofs.YtpngmjfnpdjjcaaDoor
