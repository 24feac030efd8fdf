/- The statement WireDecodes, proved for every input that its row reads: part 51 of 54. -/
import Derived.Test.YtapmbankpbiglaaGreatDoorPackWireDecodes48
import Derived.Test.YtapmbankpbiglaaGreatDoorPackWireDecodes50
import Derived.Test.YtapmbankpbiglaaGreatDoorPackWireDecodes13
import Derived.Test.YtapmbankpbiglaaGreatDoorPackWireDecodes47
/- The document's Decode of any bytes. -/
namespace Go.Proofs.YtapmbankpbiglaaGreatDoor
open Go Go.RowKit
set_option linter.unusedVariables false

/-- two results, the first a row of the call's own -/
def RetTwoO (w : World) (r : List UInt8 × Int) (e : Ending) (w' : World) : Prop :=
  ∃ v, e = .returned (.tuple #[v, .int .i64 r.2]) ∧ w'.ownsRow w.heap.size 5 1 v r.1.length (bys r.1) ∧ Below w.heap.size w w'
theorem RetTwoO.none {w w' : World} {n : Int} {e : Ending} (he : e = .returned (.tuple #[.slice none 0 0, .int .i64 n])) (hw : Below w.heap.size w w') : RetTwoO w ([], n) e w' :=
  ⟨_, he, World.ownsRow_nil _ _ _ _, hw⟩
theorem RetTwoO.of_own {w w' : World} {v : Value} {l : List UInt8} {k : Int} {e : Ending} (h : w'.ownsRow w.heap.size 5 1 v l.length (bys l)) (he : e = .returned (.tuple #[v, .int .i64 k])) (hb : Below w.heap.size w w') : RetTwoO w (l, k) e w' := ⟨v, he, h, hb⟩
set_option maxHeartbeats 2000000 in
theorem open2_own (p : Option Addr) (c : Nat) (l : List UInt8) (w : World) (h : Lies w p l) (hlc : l.length ≤ c) (hn : l.length ≤ 140737488355000) :
    Calls Tryz.prog 16 #[.slice p l.length c] w (RetTwoO w (opens l)) := by
  by_cases h4 : l.length < 4
  · have e1 : opens l = ([], 4) := by unfold opens; rw [if_pos h4]
    have E := Lib.hid e1; clear e1
    go_enter Tryz.func16, Tryz.ntmps16
    go_wp2
    go_ret2
    rw [E.out]
    exact RetTwoO.none rfl (Below.refl _ _)
  · obtain ⟨b, o, rfl, hbw, hc⟩ := h.at (by omega)
    have hl := fun pp h => Lies.tail hc (c := c) (k := 4) (by omega) hlc pp h
    have HL := Lib.hid hl; clear hl
    have c0 := hc 0 (by omega); have c1 := hc 1 (by omega); have c2 := hc 2 (by omega); have c3 := hc 3 (by omega)
    rw [Nat.add_zero] at c0
    clear hc h
    have hP := parts_of (l.getD 0 0) (l.getD 1 0) (l.getD 2 0) (l.getD 3 0) (Frm.crc (l.drop 4)) (Frm.crc_lt _)
    rw [← take4 (by omega)] at hP
    obtain ⟨x0, e0⟩ : ∃ x : Nat, x = (l.getD 0 0).toNat := ⟨_, rfl⟩
    obtain ⟨x1, e1⟩ : ∃ x : Nat, x = (l.getD 1 0).toNat := ⟨_, rfl⟩
    obtain ⟨x2, e2⟩ : ∃ x : Nat, x = (l.getD 2 0).toNat := ⟨_, rfl⟩
    obtain ⟨x3, e3⟩ : ∃ x : Nat, x = (l.getD 3 0).toNat := ⟨_, rfl⟩
    rw [← e0] at c0 hP; rw [← e1] at c1 hP; rw [← e2] at c2 hP; rw [← e3] at c3 hP
    clear e0 e1 e2 e3
    obtain ⟨s, hs⟩ : ∃ s, s = Frm.crc (l.drop 4) := ⟨_, rfl⟩
    have hs2 := Frm.crc_lt (l.drop 4)
    have hsum : ∀ (p : Option Addr) (n c : Nat), n = (l.drop 4).length → Lies w p (l.drop 4) → Calls Tryz.prog 28 #[.slice p n c] w fun e w' => e = .returned (.int .u32 (Frm.crc (l.drop 4) : Nat)) ∧ w = w' :=
      fun p n c e h => sum2_of p n c (l.drop 4) w e h (by simp; omega)
    rw [← hs] at hP hs2
    have HS := Lib.hid hs; clear hs
    have E : Hid (opens l = if decide (l.take 4 = be4 s) = true then (l.drop 4, 0) else ([], 6)) := by
      unfold Hid opens; rw [if_neg h4, HS.out]; simp only [decide_eq_true_eq]
    rw [← HS.out] at hsum
    have HSum := Lib.hid hsum; clear hsum
    generalize decide (l.take 4 = be4 s) = good at hP E
    rcases hP with ⟨rfl, q0⟩ | ⟨rfl, q0, q1⟩ | ⟨rfl, q0, q1, q2⟩ | ⟨rfl, q0, q1, q2, q3⟩ | ⟨rfl, q0, q1, q2, q3⟩
    all_goals
      go_enter Tryz.func16, Tryz.ntmps16
      go_wp2_with (first
        | (go_at_call 28; refine (HSum.out _ _ _ (by simp) (HL.out _ (by intro h; first | rfl | exact absurd ‹_› h))).mono ?_; rintro e w' ⟨rfl, rfl⟩)
        | (at_builtin; refine wpList_bytes isU8 _ rfl _ _ rfl w.heap.size 0 [] _ rfl (World.ownsRow_nil _ _ _ _) _ _ _ (l.drop 4) rfl (HL.out _ (by intro h; first | rfl | exact absurd ‹_› h)) (by simp) (by intro h; cases h) (by simp; omega) (Nat.le_refl _) ?_))
    all_goals first
      | (go_ret2; rw [E.out]; exact RetTwoO.none rfl (Below.refl _ _))
      | (intro v' w' hown hb'; go_wp2; go_ret2; rw [E.out]; exact RetTwoO.of_own (by simpa using hown) rfl hb')

set_option maxRecDepth 1000000
theorem Px.nostr {w : World} {g : Nat} {v : Value} {f : Nat → Int} (h : Px w g v f) (hv : ∀ st, v ≠ .string st) : ∀ i st, w.cell? ⟨g, i, none⟩ ≠ some (.string st) := fun i st e => by
  rw [cell_of_row w g i _ _ _ h] at e
  cases i with
  | zero => rw [pcs_zero] at e; exact hv st (Option.some.inj e)
  | succ i =>
    rw [pcs_succ] at e
    by_cases hi : i < 64
    · rw [vf_get f i hi] at e; cases e
    · rw [vf_none f i (by omega)] at e; cases e
theorem rrd_box {w w1 : World} {lo g : Nat} {v : Value} {l : List UInt8} (h : w.ownsRow lo 5 1 v l.length (bys l)) (hg : w1.heap[g]? = some (rObj v 0)) (hl : w.heap.size ≤ g) (hb : Below w.heap.size w w1) : RRd w1 g lo (l, 0) := by
  have h' := h
  rcases h.2 with ⟨rfl, hn⟩ | ⟨b, cap, cur, rfl, hbl, hcur, hnc, _⟩
  · have : l = [] := List.eq_nil_of_length_eq_zero hn
    subst this
    exact ⟨none, 0, hg, Nat.le_refl _, fun _ => rfl, .inl ⟨rfl, rfl⟩⟩
  · have hlt := (Array.getElem?_eq_some_iff.1 hcur).1
    refine ⟨some ⟨b, 0, none⟩, cap, hg, hnc, fun e => absurd rfl e, .inr ⟨b, 0, rfl, fun i hi => ?_, hbl, by omega⟩⟩
    have := (own_cell h' i hi).1
    rw [Nat.zero_add, World.cell?_of_block (hb.block b hlt)]
    simpa using this
theorem RRd.nostr {w : World} {A lo : Nat} {s : Cod.S} (h : RRd w A lo s) : ∀ i st, w.cell? ⟨A, i, none⟩ ≠ some (.string st) := fun i st e => by
  obtain ⟨p, c, h1, _⟩ := h
  unfold rObj at h1
  rw [cell_of_row w A i _ _ _ h1] at e
  match i with
  | 0 => cases e
  | 1 => cases e
  | n + 2 => simp at e
theorem refEnd_is (A lo : Nat) (s : Cod.S) (w : World) (h : RRd w A lo s) : Calls Tryz.prog 22 #[.pointer (some ⟨A, 0, none⟩)] w (EndA s w) := by
  obtain ⟨l, c⟩ := s
  obtain ⟨p, cc, h1, _⟩ := h
  simp only at h1
  obtain ⟨c0, c1⟩ := r_cells h1
  clear h1
  by_cases hc : c = 0
  · subst hc
    by_cases hl : 0 < l.length
    · have hl' : (l.length : Int) > 0 := by omega
      have FO : Hid (∀ w : World, EndA (l, 0) w (.returned (.int .i64 3)) w) := Lib.hid fun w => ⟨⟨3, rfl, ⟨fun h => by omega, fun h => by injection h with h1 _; subst h1; simp at hl⟩⟩, rfl⟩
      obtain ⟨n, hn⟩ : ∃ n, l.length = n := ⟨_, rfl⟩
      rw [hn] at hl' c0
      clear hl hn
      go_enter Tryz.func22, Tryz.ntmps22
      go_wp2
      go_ret
      exact FO.out _
    · have hl2 : l = [] := List.eq_nil_of_length_eq_zero (by omega)
      subst hl2
      have FO : Hid (∀ w : World, EndA ([], 0) w (.returned (.int .i64 0)) w) := Lib.hid fun w => ⟨⟨0, rfl, ⟨fun _ => rfl, fun _ => rfl⟩⟩, rfl⟩
      clear hl
      go_enter Tryz.func22, Tryz.ntmps22
      go_wp2
      go_ret
      exact FO.out _
  · have hn : ((c : Int) == 0) = false := by simpa using hc
    have FO : Hid (∀ w : World, EndA (l, c) w (.returned (.int .i64 (c : Int))) w) := Lib.hid fun w => ⟨⟨c, rfl, ⟨fun h => absurd (by omega) hc, fun h => by injection h with _ h1; exact absurd h1 hc⟩⟩, rfl⟩
    obtain ⟨ee, hee⟩ : ∃ ee, (c : Int) = ee := ⟨_, rfl⟩
    rw [hee] at hn c1 FO
    clear hc hee
    go_enter Tryz.func22, Tryz.ntmps22
    go_wp2
    go_ret
    exact FO.out _
theorem Mg.cells_ack (m : Mg) (f : Nat → Int) : setL m.cells.toArray 3 (vf f).toList = ({ m with ack := f } : Mg).cells.toArray := by
  have := setL_mid [.int .i64 m.kind, .int .i64 m.src, .int .i64 m.dst] (vf m.ack).toList (vf f).toList ((vf m.base).toList ++ ([.slice m.ep m.E.length m.ec] ++ (m.st.toList ++ (vf m.floor).toList))) (by rw [vfl_len, vfl_len])
  exact this
theorem Mg.cells_src (m : Mg) (v : Int) : setL m.cells.toArray 1 [.int .i64 v] = ({ m with src := v } : Mg).cells.toArray := by
  have := setL_mid [.int .i64 m.kind] [.int .i64 m.src] [.int .i64 v] ([.int .i64 m.dst] ++ ((vf m.ack).toList ++ ((vf m.base).toList ++ ([.slice m.ep m.E.length m.ec] ++ (m.st.toList ++ (vf m.floor).toList))))) rfl
  exact this
theorem Mg.cells_dst (m : Mg) (v : Int) : setL m.cells.toArray 2 [.int .i64 v] = ({ m with dst := v } : Mg).cells.toArray := by
  have := setL_mid [.int .i64 m.kind, .int .i64 m.src] [.int .i64 m.dst] [.int .i64 v] ((vf m.ack).toList ++ ((vf m.base).toList ++ ([.slice m.ep m.E.length m.ec] ++ (m.st.toList ++ (vf m.floor).toList)))) rfl
  exact this
theorem Mx.setAck {w : World} {g : Nat} {m : Mg} (h : Mx w g m) (f : Nat → Int) : Mx (w.setCells g 3 (vf f).toList) g { m with ack := f } := by
  unfold Mx; rw [← Mg.cells_ack]; exact heap_setCells _ _ _ _ h
theorem Mx.setSrc {w : World} {g : Nat} {m : Mg} (h : Mx w g m) (v : Int) : Mx (w.setCell ⟨g, 1, none⟩ (.int .i64 v)) g { m with src := v } := by
  unfold Mx; rw [← Mg.cells_src]; exact block_setCell h _
theorem Mx.setDst {w : World} {g : Nat} {m : Mg} (h : Mx w g m) (v : Int) : Mx (w.setCell ⟨g, 2, none⟩ (.int .i64 v)) g { m with dst := v } := by
  unfold Mx; rw [← Mg.cells_dst]; exact block_setCell h _
theorem builtMgK (k : Int) (w : World) : (Instr.build 31 #[(0, .int .i64 k)]).run Tryz.prog w = .ok (.agg (Mg.bare k 0 0).cells.toArray) w := run_build w _ _ _ (by kernel_rfl)
theorem builtIn (p : Option Addr) (n c : Nat) (w : World) : (Instr.build 49 #[(0, .slice p n c)]).run Tryz.prog w = .ok (.agg #[.slice p n c, .int .i64 0]) w := run_build w _ _ _ (by kernel_rfl)
set_option maxHeartbeats 8000000 in
theorem refDecodeA_is (p : Option Addr) (c : Nat) (l : List UInt8) (w : World) (h : Lies w p l) (hlc : l.length ≤ c) (hn : l.length ≤ 1000000) :
    Calls Tryz.prog 6 #[.slice p l.length c] w (DecA w l (GoodM 2 4096 ((opens l).1, 0))) := by
  have OP : Hid (∀ V : World, Below w.heap.size w V → Calls Tryz.prog 16 #[.slice p l.length c] V (RetTwoO V ((opens l).1, (opens l).2))) := Lib.hid fun V hV => open2_own p c l V (h.below hV) hlc (by omega)
  have nl := Nat.le_trans (opens_len l) hn
  have FIN : Hid (∀ (x : Mg) (k : Int) (W : World), EvsAt W x.ep x.E → WrsAt W x.sp x.L → x.E.length ≤ 1024 → Below w.heap.size w W → AnsM (opens l).2 (GoodM 2 4096 ((opens l).1, 0)) x k → DecA w l (GoodM 2 4096 ((opens l).1, 0)) (.returned (.tuple #[.agg x.cells.toArray, .int .i64 k])) W) := Lib.hid fun x k W h1 h2 h3 h4 h5 => ⟨x, k, rfl, h1, h2, h3, h4, h5⟩
  obtain ⟨D, hD⟩ : ∃ D, DecA w l (GoodM 2 4096 ((opens l).1, 0)) = D := ⟨_, rfl⟩
  rw [hD] at FIN ⊢
  clear hD h hn
  have GM : Hid (∀ x, GoodM 2 4096 ((opens l).1, 0) x ↔ msgO 2 4096 ((opens l).1, 0) = some (x.v, ([], 0)) ∧ mayM x = true) := Lib.hid fun x => Iff.rfl
  generalize GoodM 2 4096 ((opens l).1, 0) = GG at FIN GM
  generalize (opens l).1 = LB at OP nl GM
  generalize (opens l).2 = K0 at OP FIN
  obtain ⟨s, hs⟩ : ∃ s : Cod.S, s = (LB, 0) := ⟨_, rfl⟩
  have hl : s.1.length ≤ 1000000 := by rw [hs]; exact nl
  rw [← hs] at GM
  have HS := Lib.hid hs
  clear hs
  have n1 := Cod.mkS_len s; have n2 := Cod.mfS_len s; have n3 := Cod.mtS_len s; have n4 := maS_len s
  have n5 := outS_len (maS s); have n6 := stS_len (maS s)
  have C1 : Hid (∀ (A lo : Nat) (V : World), RRd V A lo s → Calls Tryz.prog 17 #[.pointer (some ⟨A, 0, none⟩), .int .i64 3] V (GotR V A lo (.int .i64 (Cod.mkS s).1) (Cod.mkS s).2)) := Lib.hid fun A lo V hV => by unfold Cod.mkS; exact refNum_all A lo _ _ V hV (by omega) (by omega)
  have C2 : Hid (∀ (A lo : Nat) (V : World), RRd V A lo (Cod.mkS s).2 → Calls Tryz.prog 17 #[.pointer (some ⟨A, 0, none⟩), .int .i64 63] V (GotR V A lo (.int .i64 (Cod.mfS s).1) (Cod.mfS s).2)) := Lib.hid fun A lo V hV => by unfold Cod.mfS; exact refNum_all A lo _ _ V hV (by omega) (by omega)
  have C3 : Hid (∀ (A lo : Nat) (V : World), RRd V A lo (Cod.mfS s).2 → Calls Tryz.prog 17 #[.pointer (some ⟨A, 0, none⟩), .int .i64 63] V (GotR V A lo (.int .i64 (Cod.mtS s).1) (Cod.mtS s).2)) := Lib.hid fun A lo V hV => by unfold Cod.mtS; exact refNum_all A lo _ _ V hV (by omega) (by omega)
  have C4 : Hid (∀ (A lo : Nat) (V : World), RRd V A lo (Cod.mtS s).2 → Calls Tryz.prog 18 #[.pointer (some ⟨A, 0, none⟩)] V fun e w' => e = .returned (.agg (vf (outV (Cod.mtS s).2))) ∧ RRd w' A lo (maS s) ∧ V.grownBy w' (some A)) := Lib.hid fun A lo V hV => refVread_is A lo _ V hV (by omega)
  have C5 : Hid (∀ (A lo : Nat) (V : World), RRd V A lo (maS s) → Calls Tryz.prog 18 #[.pointer (some ⟨A, 0, none⟩)] V fun e w' => e = .returned (.agg (vf (outV (maS s)))) ∧ RRd w' A lo (outS (maS s)) ∧ V.grownBy w' (some A)) := Lib.hid fun A lo V hV => refVread_is A lo _ V hV (by omega)
  have C6 : Hid (∀ (A lo : Nat) (V : World), RRd V A lo (outS (maS s)) → Calls Tryz.prog 19 #[.pointer (some ⟨A, 0, none⟩), .int .i64 1024] V (GotEvsR V A lo 1024 (lstO 2 1024 (outS (maS s))))) := Lib.hid fun A lo V hV => refReadEvents_any A lo 1024 _ V hV (by omega) (by omega)
  have C7 : Hid (∀ (A lo : Nat) (V : World), RRd V A lo (maS s) → Calls Tryz.prog 20 #[.pointer (some ⟨A, 0, none⟩)] V (GotStR V A lo (stV (maS s)) (stL (maS s)) (stS (maS s)))) := Lib.hid fun A lo V hV => refReadState_any A lo _ V hV (by omega)
  have C8 : Hid (∀ (A lo : Nat) (V : World), RRd V A lo (stS (maS s)) → Calls Tryz.prog 21 #[.pointer (some ⟨A, 0, none⟩)] V (GotPsR V A lo (stS (maS s)))) := Lib.hid fun A lo V hV => refReadPast_any A lo _ V hV (by omega)
  obtain ⟨O, hO⟩ : ∃ O, msgO 2 4096 s = O := ⟨_, rfl⟩
  have F1 : Hid ((Cod.mkS s).1 ≠ 2 → (Cod.mkS s).1 ≠ 3 → Outc O (⟨(Cod.mkS s).1, (Cod.mfS s).1, (Cod.mtS s).1, outV (Cod.mtS s).2, fun _ => 0, [], fun _ => 0, [], fun _ => 0⟩ : MgV) (maS s)) := Lib.hid fun h2 h3 => by
    rw [← hO]; exact msgO_else h2 h3
  have F2 : Hid ((Cod.mkS s).1 = 2 → ∀ (es : List Ev) (st : Cod.S), Outc (lstO 2 1024 (outS (maS s))) es st → Outc O (⟨(Cod.mkS s).1, (Cod.mfS s).1, (Cod.mtS s).1, outV (Cod.mtS s).2, outV (maS s), es, fun _ => 0, [], fun _ => 0⟩ : MgV) st) := Lib.hid fun h2 es st h => by
    rw [← hO]; exact msgO_two h2 es st h
  have F3 : Hid ((Cod.mkS s).1 = 3 → ∀ (F : Nat → Int) (es : List Ev) (st : Cod.S), (st.2 = 0 → F = outV (stS (maS s))) → Outc (lstO 2 4096 (outS (stS (maS s)))) es st → Outc O (⟨(Cod.mkS s).1, (Cod.mfS s).1, (Cod.mtS s).1, outV (Cod.mtS s).2, fun _ => 0, es, stV (maS s), stL (maS s), F⟩ : MgV) st) := Lib.hid fun h3 F es st hF h => by
    rw [← hO]
    have h4 := msgO_three h3 es st h
    by_cases e : st.2 = 0
    · rw [hF e]; exact h4
    · exact .inr ⟨lies_evs_len h4 e, e⟩
  rw [hO] at GM
  have C8' : Hid (∀ (A lo : Nat) (V : World), RRd V A lo (stS (maS s)) → Calls Tryz.prog 21 #[.pointer (some ⟨A, 0, none⟩)] V fun e w' => ∃ (F : Nat → Int) (p : Option Addr) (c : Nat) (ys : List EvP) (st : Cod.S), e = .returned (.agg (pcs (.slice p ys.length c) F)) ∧ OwnE w' V.heap.size (.slice p ys.length c) ys ∧ ys.length ≤ 4096 ∧ RRd w' A lo st ∧ V.grownBy w' (some A) ∧ (st.2 = 0 → F = outV (stS (maS s))) ∧ Outc (lstO 2 4096 (outS (stS (maS s)))) (evs ys) st) := C8
  clear n1 n2 n3 n4 n5 n6 hO C8
  generalize lstO 2 1024 (outS (maS s)) = O2 at *
  generalize lstO 2 4096 (outS (stS (maS s))) = O3 at *
  generalize outV (stS (maS s)) = FF at *
  generalize stS (maS s) = S4 at *
  generalize stV (maS s) = FS at *
  generalize stL (maS s) = LS at *
  generalize outV (maS s) = FB at *
  generalize outS (maS s) = S3 at *
  generalize maS s = S2 at *
  generalize outV (Cod.mtS s).2 = FA at *
  generalize Cod.mtS s = D3 at *
  generalize Cod.mfS s = D2 at *
  generalize Cod.mkS s = D1 at *
  obtain ⟨d, t3⟩ := D3
  obtain ⟨r, t2⟩ := D2
  obtain ⟨k, t1⟩ := D1
  simp only at C1 C2 C3 C4 F1 F2 F3
  have SI : ∀ V : World, (sizeOf 3).run Tryz.prog V = .ok 1 V := fun V => by kernel_rfl
  have SL : ∀ V : World, (sizeOf 26).run Tryz.prog V = .ok 1 V := fun V => by kernel_rfl
  have HSI := Lib.hid SI; have HSL := Lib.hid SL
  have EN0 : Hid (∀ W : World, EvsAt W (Mg.bare 0 0 0).ep (Mg.bare 0 0 0).E ∧ WrsAt W (Mg.bare 0 0 0).sp (Mg.bare 0 0 0).L ∧ (Mg.bare 0 0 0).E.length ≤ 1024) := Lib.hid fun W => ⟨evs_nil _ _, wrs_nil _ _, by decide⟩
  obtain ⟨n, hnl⟩ : ∃ n, l.length = n := ⟨_, rfl⟩
  rw [hnl] at OP ⊢
  clear hnl hlc SI SL
  go_enter Tryz.func6, Tryz.ntmps6
  go_wp2_with (refine wpList_galloc _ zeroMg rfl rfl ?_)
  intro g2 w1 l2 h1 hb1
  have K1 : Hid (Mx w1 g2 (Mg.bare 0 0 0)) := Lib.hid h1
  have B1 := Lib.hid hb1
  clear h1 hb1
  go_wp2_with fail
  refine (OP.out w1 B1.out).mono ?_
  rintro e w2 ⟨v2, rfl, ho2, hb2⟩
  simp only at ho2
  have K2 := Lib.hid (K1.out.later hb2); have B2 := Lib.hid (thenBelow B1.out hb2)
  have OW2 := Lib.hid ho2
  have Z2 : Hid (g2 < w1.heap.size) := Lib.hid K1.out.lt
  clear hb2 K1 OP ho2
  by_cases hk0 : K0 = 0
  case neg =>
    have hk1 : (K0 != 0) = true := by simpa using hk0
    have FB := Lib.hid (fun W (hb : Below w.heap.size w W) => FIN.out (Mg.bare 0 0 0) K0 W (EN0.out W).1 (EN0.out W).2.1 (EN0.out W).2.2 hb (.inl ⟨hk0, rfl, rfl⟩))
    clear hk0 FIN GM C1 C2 C3 C4 C5 C6 C7 C8' F1 F2 F3 OW2
    go_wp2_with (first | refine wpList_pbuild (by rfl) _ rfl (Mg.bare 0 0 0).cells.toArray (by simp only [List.map_toArray, List.map_nil]; exact builtMg _) ?_ | refine wpList_gstore rfl _ _ rfl g2 rfl (Mg.bare 0 0 0).cells.toArray rfl _ _ K2.out (sizeMgA _) rfl (Mg.one' _) ?_)
    intro w3 h3 g3
    have b3 := grown_below g3 B2.out.size l2
    have B3 := Lib.hid (B2.out.trans b3)
    have H3 := Lib.hid h3
    clear h3 g3 b3 K2
    go_wp2
    exact bodyPost_ret (v := .tuple #[.agg (Mg.bare 0 0 0).cells.toArray, .int .i64 K0]) (results_cell_two (p := 2) (q := 3) rfl _ w3 g2 _ _ (0, 0) _ rfl H3.out Tryz.underlying31 rfl (sizeMgA _) (.int .i64 K0) rfl) rfl (FB.out w3 B3.out)
  subst hk0
  obtain ⟨p2, c2, hv2⟩ := own_slice OW2.out
  subst hv2
  go_wp2_with (first | refine wpList_pbuild (by rfl) _ rfl #[.slice p2 LB.length c2, .int .i64 0] (by simp only [List.map_toArray, List.map_cons, List.map_nil]; exact builtIn _ _ _ _) ?_ | refine wpList_gbox rfl _ rfl #[.slice p2 LB.length c2, .int .i64 0] rfl ?_)
  intro A w3 lA hA hb3
  have hAW : w.heap.size ≤ A := Nat.le_trans B2.out.size lA
  have h2A : g2 < A := Nat.lt_of_lt_of_le K2.out.lt lA
  have R3 : Hid (RRd w3 A w1.heap.size s) := Lib.hid (by rw [HS.out]; exact rrd_box OW2.out hA lA hb3)
  have K3 := Lib.hid (K2.out.later hb3); have B3 := Lib.hid (thenBelow B2.out hb3)
  obtain ⟨lo, hlo⟩ : ∃ lo, w1.heap.size = lo := ⟨_, rfl⟩
  rw [hlo] at R3
  clear hA hb3 K2 OW2 lA hlo Z2
  have GB : Hid (∀ {V V' : World}, Below w.heap.size w V → V.grownBy V' (some A) → Below w.heap.size w V') := Lib.hid fun hb hg => hb.grown hg hb.size (fun k hk => by have e2 : k = A := (Option.some.inj hk).symm; omega)
  have GK : Hid (∀ {V V' : World}, Mx V g2 (Mg.bare 0 0 0) → V.grownBy V' (some A) → Mx V' g2 (Mg.bare 0 0 0)) := Lib.hid fun hk hg => (hg.block g2 hk.lt (fun e => by have e2 : g2 = A := Option.some.inj e; omega)).trans hk
  go_wp2_with fail
  refine (C1.out A lo w3 R3.out).mono ?_
  rintro e w4 ⟨rfl, hr, hg⟩
  have B4 := Lib.hid (GB.out B3.out hg); have K4 := Lib.hid (GK.out K3.out hg); have R4 := Lib.hid hr
  clear hr hg C1 B3 K3 R3
  go_wp2_with (first | refine wpList_pbuild (by rfl) _ rfl (Mg.bare (k : Int) 0 0).cells.toArray (by simp only [List.map_toArray, List.map_cons, List.map_nil]; exact builtMgK _ _) ?_ | refine wpList_galloc _ zeroMg rfl rfl ?_)
  intro g7 w5 l7 h5 hb5
  have H5 := Lib.hid h5
  have l7W : w.heap.size ≤ g7 := Nat.le_trans B4.out.size l7
  have h27 : g2 ≠ g7 := by have := K4.out.lt; omega
  have hA7 : A < g7 := Nat.lt_of_lt_of_le R4.out.lt l7
  have R5 := Lib.hid (R4.out.below hb5); have B5 := Lib.hid (thenBelow B4.out hb5); have K5 := Lib.hid (K4.out.later hb5)
  clear h5 hb5 R4 B4 K4 l7
  have G7 : Hid (∀ {V V' : World}, Below w.heap.size w V → V.grownBy V' (some g7) → Below w.heap.size w V') := Lib.hid fun hb hg => hb.grown hg hb.size (fun k hk => by have e2 : k = g7 := (Option.some.inj hk).symm; omega)
  have K7 : Hid (∀ {V V' : World}, Mx V g2 (Mg.bare 0 0 0) → V.grownBy V' (some g7) → Mx V' g2 (Mg.bare 0 0 0)) := Lib.hid fun hk hg => (hg.block g2 hk.lt (by simpa using h27)).trans hk
  have XA : Hid (∀ {V V' : World} {m : Mg}, Mx V g7 m → V.grownBy V' (some A) → Mx V' g7 m) := Lib.hid fun hk hg => (hg.block g7 hk.lt (by simp; omega)).trans hk
  go_wp2_with (refine wpList_gstore rfl _ _ rfl g7 rfl (Mg.bare (k : Int) 0 0).cells.toArray rfl _ _ H5.out (sizeMgA _) (by rw [mx_size, mx_size]) (Mg.one' _) ?_)
  intro w6 h6 g6
  have X6 : Hid (Mx w6 g7 (Mg.bare (k : Int) 0 0)) := Lib.hid h6
  have R6 := Lib.hid (R5.out.beside g6 hA7); have B6 := Lib.hid (G7.out B5.out g6); have K6 := Lib.hid (K7.out K5.out g6)
  clear h6 g6 H5 R5 B5 K5
  obtain ⟨AG, hAG⟩ : ∃ v, Value.agg (Mg.bare (k : Int) 0 0).cells.toArray = v := ⟨_, rfl⟩
  rw [hAG]
  clear hAG
  go_wp2_with fail
  refine (C2.out A lo w6 R6.out).mono ?_
  rintro e w7 ⟨rfl, hr, hg⟩
  have B7 := Lib.hid (GB.out B6.out hg); have K7a := Lib.hid (GK.out K6.out hg); have X7 := Lib.hid (XA.out X6.out hg); have R7 := Lib.hid hr
  clear hr hg C2 B6 K6 R6 X6
  go_wp2_with (refine wpList_storeI rfl _ _ _ rfl ⟨g7, 1, none⟩ rfl .i64 (r : Int) rfl HSI.out _ X7.out.parts.src (frozen_of_row _ g7 1 _ _ X7.out) ?_)
  intro w8 hv
  have gs := grown_cell w7 g7 1 (.int .i64 (r : Int))
  have xs := X7.out.setSrc (r : Int)
  rw [← hv.out] at gs xs
  have X8 := Lib.hid xs
  have R8 := Lib.hid (R7.out.beside gs hA7); have B8 := Lib.hid (G7.out B7.out gs); have K8 := Lib.hid (K7.out K7a.out gs)
  clear gs xs hv R7 B7 K7a X7
  go_wp2_with fail
  refine (C3.out A lo w8 R8.out).mono ?_
  rintro e w9 ⟨rfl, hr, hg⟩
  have B9 := Lib.hid (GB.out B8.out hg); have K9 := Lib.hid (GK.out K8.out hg); have X9 := Lib.hid (XA.out X8.out hg); have R9 := Lib.hid hr
  clear hr hg C3 B8 K8 R8 X8
  go_wp2_with (refine wpList_storeI rfl _ _ _ rfl ⟨g7, 2, none⟩ rfl .i64 (d : Int) rfl HSI.out _ X9.out.parts.dst (frozen_of_row _ g7 2 _ _ X9.out) ?_)
  intro w10 hv
  have gs := grown_cell w9 g7 2 (.int .i64 (d : Int))
  have xs := X9.out.setDst (d : Int)
  rw [← hv.out] at gs xs
  have X10 := Lib.hid xs
  have R10 := Lib.hid (R9.out.beside gs hA7); have B10 := Lib.hid (G7.out B9.out gs); have K10 := Lib.hid (K7.out K9.out gs)
  clear gs xs hv R9 B9 K9 X9
  go_wp2_with fail
  refine (C4.out A lo w10 R10.out).mono ?_
  rintro e w11 ⟨rfl, hr, hg⟩
  have B11 := Lib.hid (GB.out B10.out hg); have K11 := Lib.hid (GK.out K10.out hg); have X11 := Lib.hid (XA.out X10.out hg); have R11 := Lib.hid hr
  clear hr hg C4 B10 K10 R10 X10
  go_wp2_with (refine wpList_pset rfl _ _ _ rfl g7 3 rfl (vf FA) rfl (by rw [vf_size]; kernel_rfl) (vf_oneC _) X11.out (by rw [vf_size, mx_size]; omega) ?_)
  intro w12 hv
  have gs := grown_setCells g7 (vf FA).toList w11 3
  have xs := X11.out.setAck FA
  rw [← hv.out] at gs xs
  obtain ⟨m1, hm1⟩ : ∃ x : Mg, x = { Mg.bare (k : Int) (r : Int) (d : Int) with ack := FA } := ⟨_, rfl⟩
  have xs : Mx w12 g7 { Mg.bare (k : Int) (r : Int) (d : Int) with ack := FA } := xs
  rw [← hm1] at xs
  have X12 := Lib.hid xs
  have R12 := Lib.hid (R11.out.beside gs hA7); have B12 := Lib.hid (G7.out B11.out gs); have K12 := Lib.hid (K7.out K11.out gs)
  have k1k : m1.kind = k := by rw [hm1]; rfl
  have HM1 := Lib.hid hm1
  clear gs xs hv R11 B11 K11 X11 hm1
  have kk := X12.out.parts.kind
  rw [k1k] at kk
  -- the message is read: what Decode answers
  have LAST : ∀ (x : Mg) (st : Cod.S) (W : World) (PO : Prop), True := fun _ _ _ _ => trivial
  clear LAST
  by_cases q2 : k = 2
  · have e2 : ((k : Int) == 2) = true := by rw [q2]; rfl
    have e3 : ((k : Int) == 3) = false := by rw [q2]; rfl
    have F2' := Lib.hid (F2.out q2)
    clear q2 C7 C8'
    go_wp2_with fail
    refine (C5.out A lo w12 R12.out).mono ?_
    rintro e w13 ⟨rfl, hr, hg⟩
    have B13 := Lib.hid (GB.out B12.out hg); have K13 := Lib.hid (GK.out K12.out hg); have X13 := Lib.hid (XA.out X12.out hg); have R13 := Lib.hid hr
    clear hr hg C5 B12 K12 R12 X12 kk
    go_wp2_with (refine wpList_pset rfl _ _ _ rfl g7 67 rfl (vf FB) rfl (by rw [vf_size]; kernel_rfl) (vf_oneC _) X13.out (by rw [vf_size, mx_size]; omega) ?_)
    intro w14 hv
    have gs := grown_setCells g7 (vf FB).toList w13 67
    have xs := X13.out.setBase FB
    rw [← hv.out] at gs xs
    have X14 := Lib.hid xs
    have R14 := Lib.hid (R13.out.beside gs hA7); have B14 := Lib.hid (G7.out B13.out gs); have K14 := Lib.hid (K7.out K13.out gs)
    clear gs xs hv R13 B13 K13 X13
    go_wp2_with fail
    refine (C6.out A lo w14 R14.out).mono ?_
    rintro e w15 ⟨v15, ys, st, rfl, ho, hny, hr, hg, _, hoc⟩
    obtain ⟨p15, c15, rfl, _, _, _⟩ := ho.at
    have ho := OwnE.mk (own_base ho.row B14.out.size) (fun x hx => own_base (ho.gone x hx) B14.out.size)
    have B15 := Lib.hid (GB.out B14.out hg); have K15 := Lib.hid (GK.out K14.out hg); have X15 := Lib.hid (XA.out X14.out hg); have R15 := Lib.hid hr
    have O15 := Lib.hid ho; have OC0 := Lib.hid hoc
    clear hr hg ho hoc hny C6 B14 K14 R14 X14
    go_wp2_with (refine wpList_storeSl rfl _ _ _ rfl ⟨g7, 131, none⟩ rfl p15 ys.length c15 rfl HSL.out _ X15.out.parts.evs (frozen_of_row _ g7 131 _ _ X15.out) ?_)
    intro w16 hv
    have gs := grown_cell w15 g7 131 (.slice p15 ys.length c15)
    have xs := X15.out.setEvs p15 c15 ys
    rw [← hv.out] at gs xs
    obtain ⟨x, hx⟩ : ∃ x : Mg, x = { m1 with base := FB, ep := p15, ec := c15, E := ys } := ⟨_, rfl⟩
    have xs : Mx w16 g7 { m1 with base := FB, ep := p15, ec := c15, E := ys } := xs
    rw [← hx] at xs
    have X16 := Lib.hid xs
    have R16 := Lib.hid (R15.out.beside gs hA7); have B16 := Lib.hid (G7.out B15.out gs); have K16 := Lib.hid (K7.out K15.out gs)
    have O16 : Hid (OwnE w16 w.heap.size (.slice x.ep x.E.length x.ec) x.E) := Lib.hid (by rw [hx]; exact O15.out.off X15.out gs)
    have W16 : Hid (WrsAt w16 x.sp x.L) := Lib.hid (by rw [hx, HM1.out]; exact wrs_nil _ _)
    have EA : Hid (EvsAt w16 x.ep x.E) := Lib.hid (by obtain ⟨_, _, e9, _, h9, _⟩ := O16.out.at; injection e9 with e9 _ _; rw [e9]; exact h9)
    have OC : Hid (Outc O x.v st) := Lib.hid (by
      have e : x.v = ⟨k, r, d, FA, FB, evs ys, fun _ => 0, [], fun _ => 0⟩ := by rw [hx, HM1.out]; rfl
      rw [e]; exact F2'.out _ _ OC0.out)
    have kk := X16.out.parts.kind
    have k2k : x.kind = k := by rw [hx]; exact k1k
    rw [k2k] at kk
    clear gs xs hv R15 B15 K15 X15 O15 OC0 hx k2k
    have EN := Lib.hid (refEnd_is A lo st w16 R16.out)
    clear F1 F2 F3
    go_wp2_with fail
    refine EN.out.mono ?_
    rintro e w41 ⟨⟨kE, rfl, hkE⟩, rfl⟩
    have WH := Lib.hid X16.out.whole
    have HKE := Lib.hid hkE
    clear hkE EN kk
    have BAD : Hid ((∀ y : Mg, ¬ GG y) → ∀ V : World, Below w.heap.size w V → D (.returned (.tuple #[.agg (Mg.bare 0 0 0).cells.toArray, .int .i64 3])) V) := Lib.hid fun hno V hb => FIN.out (Mg.bare 0 0 0) 3 V (EN0.out V).1 (EN0.out V).2.1 (EN0.out V).2.2 hb (.inr ⟨rfl, .inr ⟨rfl, rfl, hno⟩⟩)
    by_cases hk0 : kE = 0
    case neg =>
      have hnn : (kE != 0) = true := by simpa using hk0
      have FB := Lib.hid (BAD.out (fun y hy => by
        obtain ⟨h1, _⟩ := (GM.out y).1 hy
        rcases OC.out with ⟨h2, _⟩ | ⟨h2, _⟩
        · rw [h2] at h1
          injection h1 with h1
          injection h1 with _ h1
          exact hk0 (HKE.out.2 h1)
        · rw [h2] at h1; cases h1))
      clear hk0 FIN GM BAD OC HKE
      go_wp2_with (first | refine wpList_pbuild (by rfl) _ rfl (Mg.bare 0 0 0).cells.toArray (by simp only [List.map_toArray, List.map_nil]; exact builtMg _) ?_ | refine wpList_gstore rfl _ _ rfl g2 rfl (Mg.bare 0 0 0).cells.toArray rfl _ _ K16.out (sizeMgA _) rfl (Mg.one' _) ?_)
      intro w49 h9 g9
      have B49 := Lib.hid (B16.out.trans (grown_below g9 B16.out.size l2))
      have H49 := Lib.hid h9
      clear h9 g9
      go_wp2
      exact bodyPost_ret (v := .tuple #[.agg (Mg.bare 0 0 0).cells.toArray, .int .i64 3]) (results_cell_two (p := 2) (q := 3) rfl _ w49 g2 _ _ (0, 0) _ rfl H49.out Tryz.underlying31 rfl (sizeMgA _) (.int .i64 3) rfl) rfl (FB.out w49 B49.out)
    have HSt : Hid (st = ([], 0)) := Lib.hid (HKE.out.1 hk0)
    have OX : Hid (O = some (x.v, ([], 0))) := Lib.hid (by
      rcases OC.out with ⟨h2, _⟩ | ⟨_, h2⟩
      · rw [h2, HSt.out]
      · rw [HSt.out] at h2; exact absurd rfl h2)
    subst hk0
    clear OC HKE HSt
    have CK := Lib.hid (refCheck14_is x w16 EA.out W16.out)
    cases hM : mayM x with
    | false =>
      have hmE : mayE2 x = 1 := by unfold mayE2; rw [if_neg (by rw [hM]; decide)]
      rw [hmE] at CK
      have FB := Lib.hid (BAD.out (fun y hy => by
        obtain ⟨h1, h2⟩ := (GM.out y).1 hy
        rw [OX.out] at h1
        injection h1 with h1
        injection h1 with h1 _
        rw [← mg_v_may h1, hM] at h2
        cases h2))
      clear hM hmE FIN GM BAD OX
      go_wp2_with (refine wpList_gloadG (by rfl) _ rfl g7 0 rfl _ WH.out _ Tryz.underlying31 rfl (sizeMg _) ?_)
      refine CK.out.mono ?_
      rintro e w48 ⟨rfl, hb8⟩
      have K48 := Lib.hid (K16.out.later hb8); have B48 := Lib.hid (thenBelow B16.out hb8)
      clear hb8 CK
      go_wp2_with (first | refine wpList_pbuild (by rfl) _ rfl (Mg.bare 0 0 0).cells.toArray (by simp only [List.map_toArray, List.map_nil]; exact builtMg _) ?_ | refine wpList_gstore rfl _ _ rfl g2 rfl (Mg.bare 0 0 0).cells.toArray rfl _ _ K48.out (sizeMgA _) rfl (Mg.one' _) ?_)
      intro w49 h9 g9
      have B49 := Lib.hid (B48.out.trans (grown_below g9 B48.out.size l2))
      have H49 := Lib.hid h9
      clear h9 g9
      go_wp2
      exact bodyPost_ret (v := .tuple #[.agg (Mg.bare 0 0 0).cells.toArray, .int .i64 3]) (results_cell_two (p := 2) (q := 3) rfl _ w49 g2 _ _ (0, 0) _ rfl H49.out Tryz.underlying31 rfl (sizeMgA _) (.int .i64 3) rfl) rfl (FB.out w49 B49.out)
    | true =>
      have hmE : mayE2 x = 0 := by unfold mayE2; rw [if_pos hM]
      rw [hmE] at CK
      have GX : Hid (GG x) := Lib.hid ((GM.out x).2 ⟨OX.out, hM⟩)
      have NY : Hid (x.E.length ≤ 1024) := Lib.hid ((may_iff x).1 hM).few
      clear hM hmE GM BAD OX
      go_wp2_with (refine wpList_gloadG (by rfl) _ rfl g7 0 rfl _ WH.out _ Tryz.underlying31 rfl (sizeMg _) ?_)
      refine CK.out.mono ?_
      rintro e w48 ⟨rfl, hb8⟩
      have X48 := Lib.hid (X16.out.later hb8); have K48 := Lib.hid (K16.out.later hb8); have O48 := Lib.hid (O16.out.later hb8); have W48 := Lib.hid (W16.out.below hb8); have B48 := Lib.hid (thenBelow B16.out hb8)
      have WH := Lib.hid X48.out.whole
      clear hb8 CK
      go_wp2_with (first | refine wpList_gload rfl _ rfl g7 0 rfl _ WH.out _ Tryz.underlying31 rfl (sizeMg _) ?_ | refine wpList_gstore rfl _ _ rfl g2 rfl x.cells.toArray rfl _ _ K48.out (sizeMgA _) (by rw [mx_size, mx_size]) (Mg.one' _) ?_)
      intro w49 h9 g9
      have H49 := Lib.hid h9
      have O49 := Lib.hid (O48.out.off K48.out g9); have W49 := Lib.hid (wrs_off W48.out g9 K48.out.nostr)
      have B49 := Lib.hid (B48.out.trans (grown_below g9 B48.out.size l2))
      have FO := Lib.hid (FIN.out x 0 w49 (by obtain ⟨_, _, e9, _, h9, _⟩ := O49.out.at; injection e9 with e9 _ _; rw [e9]; exact h9) W49.out NY.out B49.out (.inr ⟨rfl, .inl ⟨rfl, GX.out⟩⟩))
      clear h9 g9 O49 W49 O48 W48 K48 X48 FIN
      go_wp2
      exact bodyPost_ret (v := .tuple #[.agg x.cells.toArray, .int .i64 0]) (results_cell_two (p := 2) (q := 3) rfl _ w49 g2 _ _ (0, 0) _ rfl H49.out Tryz.underlying31 rfl (sizeMgA _) (.int .i64 0) rfl) rfl FO.out
  have e2 : ((k : Int) == 2) = false := beq_eq_false_iff_ne.2 (by omega)
  by_cases q3 : k = 3
  · have e3 : ((k : Int) == 3) = true := by rw [q3]; rfl
    have F3' := Lib.hid (F3.out q3)
    clear q2 q3 C5 C6
    go_wp2_with fail
    refine (C7.out A lo w12 R12.out).mono ?_
    rintro e w13 ⟨p13, c13, rfl, hw13, hr, hg⟩
    have B13 := Lib.hid (GB.out B12.out hg); have K13 := Lib.hid (GK.out K12.out hg); have X13 := Lib.hid (XA.out X12.out hg); have R13 := Lib.hid hr; have W13 := Lib.hid hw13
    clear hr hg hw13 C7 B12 K12 R12 X12 kk
    go_wp2_with (refine wpList_pset rfl _ _ _ rfl g7 132 rfl (scs FS (.slice p13 LS.length c13)) rfl (sizeSt _ _) (scs_one FS rfl) X13.out (by rw [scs_size, mx_size]; omega) ?_)
    intro w14 hv
    have gs := grown_setCells g7 (scs FS (.slice p13 LS.length c13)).toList w13 132
    have xs := X13.out.setSt FS p13 c13 LS
    rw [← hv.out] at gs xs
    have X14 := Lib.hid xs
    have R14 := Lib.hid (R13.out.beside gs hA7); have B14 := Lib.hid (G7.out B13.out gs); have K14 := Lib.hid (K7.out K13.out gs); have W14 := Lib.hid (wrs_off W13.out gs X13.out.nostr)
    clear gs xs hv R13 B13 K13 X13 W13
    go_wp2_with fail
    refine (C8'.out A lo w14 R14.out).mono ?_
    rintro e w15 ⟨F, p15, c15, ys, st, rfl, ho, hny, hr, hg, hF, hoc⟩
    have ho := OwnE.mk (own_base ho.row B14.out.size) (fun x hx => own_base (ho.gone x hx) B14.out.size)
    have B15 := Lib.hid (GB.out B14.out hg); have K15 := Lib.hid (GK.out K14.out hg); have X15 := Lib.hid (XA.out X14.out hg); have R15 := Lib.hid hr; have W15 := Lib.hid (wrs_off W14.out hg R14.out.nostr)
    have O15 := Lib.hid ho; have OC0 := Lib.hid (F3'.out F _ _ hF hoc)
    clear hr hg ho hoc hny hF C8' F3' B14 K14 R14 X14 W14
    go_wp2_with (refine wpList_galloc _ zeroP rfl rfl ?_)
    intro g8 w16 l8 h16 hb16
    have H16 := Lib.hid h16
    have l8W : w.heap.size ≤ g8 := Nat.le_trans B15.out.size l8
    have h28 : g2 ≠ g8 := by have := K15.out.lt; omega
    have h78 : g7 ≠ g8 := by have := X15.out.lt; omega
    have hA8 : A < g8 := Nat.lt_of_lt_of_le R15.out.lt l8
    have B16 := Lib.hid (thenBelow B15.out hb16); have K16 := Lib.hid (K15.out.later hb16); have X16 := Lib.hid (X15.out.later hb16); have R16 := Lib.hid (R15.out.below hb16); have O16 := Lib.hid (O15.out.later hb16); have W16 := Lib.hid (W15.out.below hb16)
    clear h16 hb16 B15 K15 X15 R15 O15 W15 l8
    go_wp2_with (refine wpList_gstore rfl _ _ rfl g8 rfl (pcs (.slice p15 ys.length c15) F) rfl _ _ H16.out (sizeP _ _) (by rw [pcs_size, pcs_size]) (pcs_oneV F ⟨_, _, _, rfl⟩) ?_)
    intro w17 h17 gs
    have P17 : Hid (Px w17 g8 (.slice p15 ys.length c15) F) := Lib.hid h17
    have hp16 : Px w16 g8 (.slice none 0 0) (fun _ => 0) := H16.out
    have B17 := Lib.hid (B16.out.trans (grown_below gs B16.out.size l8W)); have K17 : Hid (Mx w17 g2 (Mg.bare 0 0 0)) := Lib.hid ((gs.block _ K16.out.lt (by simpa using h28)).trans K16.out)
    have X17 := Lib.hid ((gs.block _ X16.out.lt (by simpa using h78)).trans X16.out); have R17 := Lib.hid (R16.out.beside gs hA8)
    have O17 : Hid (OwnE w17 w.heap.size (.slice p15 ys.length c15) ys) := Lib.hid ⟨own_keep O16.out.row gs (.inr fun e => own_not O16.out.row H16.out (by decide) e.symm), fun x hx => own_keep (O16.out.gone x hx) gs (.inr fun e => own_not (O16.out.gone x hx) H16.out (by decide) e.symm)⟩
    have W17 := Lib.hid (wrs_off W16.out gs (hp16.nostr fun st e => by cases e))
    have X17 : Hid (Mx w17 g7 { m1 with seen := FS, sp := p13, sc := c13, L := LS }) := X17
    have es := P17.out.slot
    clear h17 gs hp16 H16 B16 K16 X16 R16 O16 W16
    go_wp2_with (refine wpList_storeSl rfl _ _ _ rfl ⟨g7, 131, none⟩ rfl p15 ys.length c15 rfl HSL.out _ X17.out.parts.evs (frozen_of_row _ g7 131 _ _ X17.out) ?_)
    intro w18 hv
    have gs := grown_cell w17 g7 131 (.slice p15 ys.length c15)
    have xs := X17.out.setEvs p15 c15 ys
    rw [← hv.out] at gs xs
    have X18 := Lib.hid xs
    have P18 : Hid (Px w18 g8 (.slice p15 ys.length c15) F) := Lib.hid ((gs.block _ P17.out.lt (by simp; omega)).trans P17.out)
    have R18 := Lib.hid (R17.out.beside gs hA7); have B18 := Lib.hid (G7.out B17.out gs); have K18 := Lib.hid (K7.out K17.out gs); have W18 := Lib.hid (wrs_off W17.out gs X17.out.nostr); have O18 := Lib.hid (O17.out.off X17.out gs)
    clear gs xs hv R17 B17 K17 X17 W17 O17 P17 es
    have FL := Lib.hid P18.out.floor
    go_wp2_with (first | refine wpList_gload rfl _ rfl g8 1 rfl _ FL.out _ Tryz.underlying25 rfl (sizeVcl F) ?_ | refine wpList_pset rfl _ _ _ rfl g7 197 rfl (vf F) rfl (by rw [vf_size]; kernel_rfl) (vf_oneC _) X18.out (by rw [vf_size, mx_size]; omega) ?_)
    intro w19 hv
    have gs := grown_setCells g7 (vf F).toList w18 197
    have xs := X18.out.setFloor F
    rw [← hv.out] at gs xs
    obtain ⟨x, hx⟩ : ∃ x : Mg, x = { m1 with seen := FS, sp := p13, sc := c13, L := LS, ep := p15, ec := c15, E := ys, floor := F } := ⟨_, rfl⟩
    have xs : Mx w19 g7 { m1 with seen := FS, sp := p13, sc := c13, L := LS, ep := p15, ec := c15, E := ys, floor := F } := xs
    rw [← hx] at xs
    have X19 := Lib.hid xs
    have R19 := Lib.hid (R18.out.beside gs hA7); have B19 := Lib.hid (G7.out B18.out gs); have K19 := Lib.hid (K7.out K18.out gs)
    have O19 : Hid (OwnE w19 w.heap.size (.slice x.ep x.E.length x.ec) x.E) := Lib.hid (by rw [hx]; exact O18.out.off X18.out gs)
    have W19 : Hid (WrsAt w19 x.sp x.L) := Lib.hid (by rw [hx]; exact wrs_off W18.out gs X18.out.nostr)
    have EA : Hid (EvsAt w19 x.ep x.E) := Lib.hid (by obtain ⟨_, _, e9, _, h9, _⟩ := O19.out.at; injection e9 with e9 _ _; rw [e9]; exact h9)
    have OC : Hid (Outc O x.v st) := Lib.hid (by
      have e : x.v = ⟨k, r, d, FA, fun _ => 0, evs ys, FS, LS, F⟩ := by rw [hx, HM1.out]; rfl
      rw [e]; exact OC0.out)
    clear gs xs hv R18 B18 K18 X18 O18 W18 OC0 hx P18 FL
    have EN := Lib.hid (refEnd_is A lo st w19 R19.out)
    clear F1 F2 F3
    go_wp2_with fail
    refine EN.out.mono ?_
    rintro e w41 ⟨⟨kE, rfl, hkE⟩, rfl⟩
    have WH := Lib.hid X19.out.whole
    have HKE := Lib.hid hkE
    clear hkE EN
    have BAD : Hid ((∀ y : Mg, ¬ GG y) → ∀ V : World, Below w.heap.size w V → D (.returned (.tuple #[.agg (Mg.bare 0 0 0).cells.toArray, .int .i64 3])) V) := Lib.hid fun hno V hb => FIN.out (Mg.bare 0 0 0) 3 V (EN0.out V).1 (EN0.out V).2.1 (EN0.out V).2.2 hb (.inr ⟨rfl, .inr ⟨rfl, rfl, hno⟩⟩)
    by_cases hk0 : kE = 0
    case neg =>
      have hnn : (kE != 0) = true := by simpa using hk0
      have FB := Lib.hid (BAD.out (fun y hy => by
        obtain ⟨h1, _⟩ := (GM.out y).1 hy
        rcases OC.out with ⟨h2, _⟩ | ⟨h2, _⟩
        · rw [h2] at h1
          injection h1 with h1
          injection h1 with _ h1
          exact hk0 (HKE.out.2 h1)
        · rw [h2] at h1; cases h1))
      clear hk0 FIN GM BAD OC HKE
      go_wp2_with (first | refine wpList_pbuild (by rfl) _ rfl (Mg.bare 0 0 0).cells.toArray (by simp only [List.map_toArray, List.map_nil]; exact builtMg _) ?_ | refine wpList_gstore rfl _ _ rfl g2 rfl (Mg.bare 0 0 0).cells.toArray rfl _ _ K19.out (sizeMgA _) rfl (Mg.one' _) ?_)
      intro w49 h9 g9
      have B49 := Lib.hid (B19.out.trans (grown_below g9 B19.out.size l2))
      have H49 := Lib.hid h9
      clear h9 g9
      go_wp2
      exact bodyPost_ret (v := .tuple #[.agg (Mg.bare 0 0 0).cells.toArray, .int .i64 3]) (results_cell_two (p := 2) (q := 3) rfl _ w49 g2 _ _ (0, 0) _ rfl H49.out Tryz.underlying31 rfl (sizeMgA _) (.int .i64 3) rfl) rfl (FB.out w49 B49.out)
    have HSt : Hid (st = ([], 0)) := Lib.hid (HKE.out.1 hk0)
    have OX : Hid (O = some (x.v, ([], 0))) := Lib.hid (by
      rcases OC.out with ⟨h2, _⟩ | ⟨_, h2⟩
      · rw [h2, HSt.out]
      · rw [HSt.out] at h2; exact absurd rfl h2)
    subst hk0
    clear OC HKE HSt
    have CK := Lib.hid (refCheck14_is x w19 EA.out W19.out)
    cases hM : mayM x with
    | false =>
      have hmE : mayE2 x = 1 := by unfold mayE2; rw [if_neg (by rw [hM]; decide)]
      rw [hmE] at CK
      have FB := Lib.hid (BAD.out (fun y hy => by
        obtain ⟨h1, h2⟩ := (GM.out y).1 hy
        rw [OX.out] at h1
        injection h1 with h1
        injection h1 with h1 _
        rw [← mg_v_may h1, hM] at h2
        cases h2))
      clear hM hmE FIN GM BAD OX
      go_wp2_with (refine wpList_gloadG (by rfl) _ rfl g7 0 rfl _ WH.out _ Tryz.underlying31 rfl (sizeMg _) ?_)
      refine CK.out.mono ?_
      rintro e w48 ⟨rfl, hb8⟩
      have K48 := Lib.hid (K19.out.later hb8); have B48 := Lib.hid (thenBelow B19.out hb8)
      clear hb8 CK
      go_wp2_with (first | refine wpList_pbuild (by rfl) _ rfl (Mg.bare 0 0 0).cells.toArray (by simp only [List.map_toArray, List.map_nil]; exact builtMg _) ?_ | refine wpList_gstore rfl _ _ rfl g2 rfl (Mg.bare 0 0 0).cells.toArray rfl _ _ K48.out (sizeMgA _) rfl (Mg.one' _) ?_)
      intro w49 h9 g9
      have B49 := Lib.hid (B48.out.trans (grown_below g9 B48.out.size l2))
      have H49 := Lib.hid h9
      clear h9 g9
      go_wp2
      exact bodyPost_ret (v := .tuple #[.agg (Mg.bare 0 0 0).cells.toArray, .int .i64 3]) (results_cell_two (p := 2) (q := 3) rfl _ w49 g2 _ _ (0, 0) _ rfl H49.out Tryz.underlying31 rfl (sizeMgA _) (.int .i64 3) rfl) rfl (FB.out w49 B49.out)
    | true =>
      have hmE : mayE2 x = 0 := by unfold mayE2; rw [if_pos hM]
      rw [hmE] at CK
      have GX : Hid (GG x) := Lib.hid ((GM.out x).2 ⟨OX.out, hM⟩)
      have NY : Hid (x.E.length ≤ 1024) := Lib.hid ((may_iff x).1 hM).few
      clear hM hmE GM BAD OX
      go_wp2_with (refine wpList_gloadG (by rfl) _ rfl g7 0 rfl _ WH.out _ Tryz.underlying31 rfl (sizeMg _) ?_)
      refine CK.out.mono ?_
      rintro e w48 ⟨rfl, hb8⟩
      have X48 := Lib.hid (X19.out.later hb8); have K48 := Lib.hid (K19.out.later hb8); have O48 := Lib.hid (O19.out.later hb8); have W48 := Lib.hid (W19.out.below hb8); have B48 := Lib.hid (thenBelow B19.out hb8)
      have WH := Lib.hid X48.out.whole
      clear hb8 CK
      go_wp2_with (first | refine wpList_gload rfl _ rfl g7 0 rfl _ WH.out _ Tryz.underlying31 rfl (sizeMg _) ?_ | refine wpList_gstore rfl _ _ rfl g2 rfl x.cells.toArray rfl _ _ K48.out (sizeMgA _) (by rw [mx_size, mx_size]) (Mg.one' _) ?_)
      intro w49 h9 g9
      have H49 := Lib.hid h9
      have O49 := Lib.hid (O48.out.off K48.out g9); have W49 := Lib.hid (wrs_off W48.out g9 K48.out.nostr)
      have B49 := Lib.hid (B48.out.trans (grown_below g9 B48.out.size l2))
      have FO := Lib.hid (FIN.out x 0 w49 (by obtain ⟨_, _, e9, _, h9, _⟩ := O49.out.at; injection e9 with e9 _ _; rw [e9]; exact h9) W49.out NY.out B49.out (.inr ⟨rfl, .inl ⟨rfl, GX.out⟩⟩))
      clear h9 g9 O49 W49 O48 W48 K48 X48 FIN
      go_wp2
      exact bodyPost_ret (v := .tuple #[.agg x.cells.toArray, .int .i64 0]) (results_cell_two (p := 2) (q := 3) rfl _ w49 g2 _ _ (0, 0) _ rfl H49.out Tryz.underlying31 rfl (sizeMgA _) (.int .i64 0) rfl) rfl FO.out
  have e3 : ((k : Int) == 3) = false := beq_eq_false_iff_ne.2 (by omega)
  obtain ⟨x, hx⟩ : ∃ x, x = m1 := ⟨_, rfl⟩
  obtain ⟨st, hst⟩ : ∃ st, st = S2 := ⟨_, rfl⟩
  rw [← hx] at X12
  rw [← hst] at R12
  have O12 : Hid (OwnE w12 w.heap.size (.slice x.ep x.E.length x.ec) x.E) := Lib.hid (by rw [hx, HM1.out]; exact ⟨World.ownsRow_nil _ _ _ _, fun x h => absurd h List.not_mem_nil⟩)
  have W12 : Hid (WrsAt w12 x.sp x.L) := Lib.hid (by rw [hx, HM1.out]; exact wrs_nil _ _)
  have EA : Hid (EvsAt w12 x.ep x.E) := Lib.hid (by rw [hx, HM1.out]; exact evs_nil _ _)
  have OC : Hid (Outc O x.v st) := Lib.hid (by
    have e : x.v = ⟨k, r, d, FA, fun _ => 0, [], fun _ => 0, [], fun _ => 0⟩ := by rw [hx, HM1.out]; rfl
    rw [e, hst]; exact F1.out q2 q3)
  clear q2 q3 C5 C6 C7 C8' hx hst HM1
  have EN := Lib.hid (refEnd_is A lo st w12 R12.out)
  clear F1 F2 F3
  go_wp2_with fail
  refine EN.out.mono ?_
  rintro e w41 ⟨⟨kE, rfl, hkE⟩, rfl⟩
  have WH := Lib.hid X12.out.whole
  have HKE := Lib.hid hkE
  clear hkE EN kk
  have BAD : Hid ((∀ y : Mg, ¬ GG y) → ∀ V : World, Below w.heap.size w V → D (.returned (.tuple #[.agg (Mg.bare 0 0 0).cells.toArray, .int .i64 3])) V) := Lib.hid fun hno V hb => FIN.out (Mg.bare 0 0 0) 3 V (EN0.out V).1 (EN0.out V).2.1 (EN0.out V).2.2 hb (.inr ⟨rfl, .inr ⟨rfl, rfl, hno⟩⟩)
  by_cases hk0 : kE = 0
  case neg =>
    have hnn : (kE != 0) = true := by simpa using hk0
    have FB := Lib.hid (BAD.out (fun y hy => by
      obtain ⟨h1, _⟩ := (GM.out y).1 hy
      rcases OC.out with ⟨h2, _⟩ | ⟨h2, _⟩
      · rw [h2] at h1
        injection h1 with h1
        injection h1 with _ h1
        exact hk0 (HKE.out.2 h1)
      · rw [h2] at h1; cases h1))
    clear hk0 FIN GM BAD OC HKE
    go_wp2_with (first | refine wpList_pbuild (by rfl) _ rfl (Mg.bare 0 0 0).cells.toArray (by simp only [List.map_toArray, List.map_nil]; exact builtMg _) ?_ | refine wpList_gstore rfl _ _ rfl g2 rfl (Mg.bare 0 0 0).cells.toArray rfl _ _ K12.out (sizeMgA _) rfl (Mg.one' _) ?_)
    intro w49 h9 g9
    have B49 := Lib.hid (B12.out.trans (grown_below g9 B12.out.size l2))
    have H49 := Lib.hid h9
    clear h9 g9
    go_wp2
    exact bodyPost_ret (v := .tuple #[.agg (Mg.bare 0 0 0).cells.toArray, .int .i64 3]) (results_cell_two (p := 2) (q := 3) rfl _ w49 g2 _ _ (0, 0) _ rfl H49.out Tryz.underlying31 rfl (sizeMgA _) (.int .i64 3) rfl) rfl (FB.out w49 B49.out)
  have HSt : Hid (st = ([], 0)) := Lib.hid (HKE.out.1 hk0)
  have OX : Hid (O = some (x.v, ([], 0))) := Lib.hid (by
    rcases OC.out with ⟨h2, _⟩ | ⟨_, h2⟩
    · rw [h2, HSt.out]
    · rw [HSt.out] at h2; exact absurd rfl h2)
  subst hk0
  clear OC HKE HSt
  have CK := Lib.hid (refCheck14_is x w12 EA.out W12.out)
  cases hM : mayM x with
  | false =>
    have hmE : mayE2 x = 1 := by unfold mayE2; rw [if_neg (by rw [hM]; decide)]
    rw [hmE] at CK
    have FB := Lib.hid (BAD.out (fun y hy => by
      obtain ⟨h1, h2⟩ := (GM.out y).1 hy
      rw [OX.out] at h1
      injection h1 with h1
      injection h1 with h1 _
      rw [← mg_v_may h1, hM] at h2
      cases h2))
    clear hM hmE FIN GM BAD OX
    go_wp2_with (refine wpList_gloadG (by rfl) _ rfl g7 0 rfl _ WH.out _ Tryz.underlying31 rfl (sizeMg _) ?_)
    refine CK.out.mono ?_
    rintro e w48 ⟨rfl, hb8⟩
    have K48 := Lib.hid (K12.out.later hb8); have B48 := Lib.hid (thenBelow B12.out hb8)
    clear hb8 CK
    go_wp2_with (first | refine wpList_pbuild (by rfl) _ rfl (Mg.bare 0 0 0).cells.toArray (by simp only [List.map_toArray, List.map_nil]; exact builtMg _) ?_ | refine wpList_gstore rfl _ _ rfl g2 rfl (Mg.bare 0 0 0).cells.toArray rfl _ _ K48.out (sizeMgA _) rfl (Mg.one' _) ?_)
    intro w49 h9 g9
    have B49 := Lib.hid (B48.out.trans (grown_below g9 B48.out.size l2))
    have H49 := Lib.hid h9
    clear h9 g9
    go_wp2
    exact bodyPost_ret (v := .tuple #[.agg (Mg.bare 0 0 0).cells.toArray, .int .i64 3]) (results_cell_two (p := 2) (q := 3) rfl _ w49 g2 _ _ (0, 0) _ rfl H49.out Tryz.underlying31 rfl (sizeMgA _) (.int .i64 3) rfl) rfl (FB.out w49 B49.out)
  | true =>
    have hmE : mayE2 x = 0 := by unfold mayE2; rw [if_pos hM]
    rw [hmE] at CK
    have GX : Hid (GG x) := Lib.hid ((GM.out x).2 ⟨OX.out, hM⟩)
    have NY : Hid (x.E.length ≤ 1024) := Lib.hid ((may_iff x).1 hM).few
    clear hM hmE GM BAD OX
    go_wp2_with (refine wpList_gloadG (by rfl) _ rfl g7 0 rfl _ WH.out _ Tryz.underlying31 rfl (sizeMg _) ?_)
    refine CK.out.mono ?_
    rintro e w48 ⟨rfl, hb8⟩
    have X48 := Lib.hid (X12.out.later hb8); have K48 := Lib.hid (K12.out.later hb8); have O48 := Lib.hid (O12.out.later hb8); have W48 := Lib.hid (W12.out.below hb8); have B48 := Lib.hid (thenBelow B12.out hb8)
    have WH := Lib.hid X48.out.whole
    clear hb8 CK
    go_wp2_with (first | refine wpList_gload rfl _ rfl g7 0 rfl _ WH.out _ Tryz.underlying31 rfl (sizeMg _) ?_ | refine wpList_gstore rfl _ _ rfl g2 rfl x.cells.toArray rfl _ _ K48.out (sizeMgA _) (by rw [mx_size, mx_size]) (Mg.one' _) ?_)
    intro w49 h9 g9
    have H49 := Lib.hid h9
    have O49 := Lib.hid (O48.out.off K48.out g9); have W49 := Lib.hid (wrs_off W48.out g9 K48.out.nostr)
    have B49 := Lib.hid (B48.out.trans (grown_below g9 B48.out.size l2))
    have FO := Lib.hid (FIN.out x 0 w49 (by obtain ⟨_, _, e9, _, h9, _⟩ := O49.out.at; injection e9 with e9 _ _; rw [e9]; exact h9) W49.out NY.out B49.out (.inr ⟨rfl, .inl ⟨rfl, GX.out⟩⟩))
    clear h9 g9 O49 W49 O48 W48 K48 X48 FIN
    go_wp2
    exact bodyPost_ret (v := .tuple #[.agg x.cells.toArray, .int .i64 0]) (results_cell_two (p := 2) (q := 3) rfl _ w49 g2 _ _ (0, 0) _ rfl H49.out Tryz.underlying31 rfl (sizeMgA _) (.int .i64 0) rfl) rfl FO.out
end Go.Proofs.YtapmbankpbiglaaGreatDoor
/- The walk of WireDecodes. -/
namespace Go.Proofs.YtapmbankpbiglaaGreatDoor
open Go Go.RowKit
set_option linter.unusedVariables false
set_option maxRecDepth 1000000

theorem numS_more {a b : Int} (hab : a ≤ b) (s : Cod.S) : Cod.numS a s = Cod.numS b s ∨ ((Cod.numS a s).2.2 ≠ 0 ∧ a < ((Cod.numS b s).1 : Int)) := by
  have hr := failS_ne (c := 5) (by decide) (Cod.anyS s).2
  unfold Cod.numS
  generalize Cod.anyS s = n at hr
  by_cases h1 : 9223372036854775808 ≤ n.1
  · rw [if_pos (.inl h1), if_pos (.inl h1)]
    exact .inl rfl
  · by_cases h2 : a < (n.1 : Int)
    · rw [if_pos (.inr h2)]
      by_cases h3 : b < (n.1 : Int)
      · rw [if_pos (.inr h3)]; exact .inl rfl
      · rw [if_neg (by omega)]; exact .inr ⟨hr, h2⟩
    · rw [if_neg (by omega), if_neg (by omega)]; exact .inl rfl
theorem lstO_congr {K J : Int} (h : ∀ n s, evsO K n s = evsO J n s) (most : Int) (s : Cod.S) : lstO K most s = lstO J most s := by
  unfold lstO; exact h _ _
theorem lstO_more {K a b : Int} (hK : 0 ≤ K) (hab : a ≤ b) (s : Cod.S) : lstO K a s = lstO K b s ∨ (lstO K a s = none ∧ ∀ es t, lstO K b s = some (es, t) → a < (es.length : Int)) := by
  unfold lstO
  rcases numS_more hab s with h | ⟨h1, h2⟩
  · rw [h]; exact .inl rfl
  · refine .inr ⟨evsO_err hK h1, fun es t h => ?_⟩
    rw [(evsO_len h).1]; exact h2
theorem msgO_congr {K J : Int} (h : ∀ most s, lstO K most s = lstO J most s) (most : Int) (s : Cod.S) : msgO K most s = msgO J most s := by
  unfold msgO
  rw [h, h]
theorem msgO_more {K a b : Int} (hK : 0 ≤ K) (hab : a ≤ b) (s : Cod.S) : msgO K a s = msgO K b s ∨ (msgO K a s = none ∧ ∀ v t, msgO K b s = some (v, t) → a < (v.es.length : Int)) := by
  unfold msgO
  by_cases h2 : (Cod.mkS s).1 = 2
  · rw [if_pos h2, if_pos h2]; exact .inl rfl
  · rw [if_neg h2, if_neg h2]
    by_cases h3 : (Cod.mkS s).1 = 3
    · rw [if_pos h3, if_pos h3]
      have h := lstO_more hK hab (outS (stS (maS s)))
      generalize lstO K a (outS (stS (maS s))) = A at h ⊢
      generalize lstO K b (outS (stS (maS s))) = B at h ⊢
      rcases h with h | ⟨h1, h4⟩
      · rw [h]; exact .inl rfl
      · refine .inr ⟨by rw [h1]; rfl, fun v t h => ?_⟩
        cases B with
        | none => cases h
        | some q =>
          obtain ⟨es, u⟩ := q
          simp only [Option.map_some, Option.some.injEq, Prod.mk.injEq] at h
          have := h4 es u rfl
          rw [← h.1]
          exact this
    · rw [if_neg h3, if_neg h3]; exact .inl rfl
theorem goodM_iff (s : Cod.S) (x : Mg) : GoodM 9223372036854775807 1024 s x ↔ GoodM 2 4096 s x := by
  have e1 : msgO 9223372036854775807 1024 s = msgO 2 1024 s := msgO_congr (fun most s => lstO_congr evsO_kind most s) 1024 s
  have e2 := msgO_more (K := 2) (a := 1024) (b := 4096) (by decide) (by decide) s
  unfold GoodM
  rw [e1]
  generalize msgO 2 1024 s = A at e2 ⊢
  generalize msgO 2 4096 s = B at e2 ⊢
  rcases e2 with h | ⟨h1, h2⟩
  · rw [h]
  · constructor
    · rintro ⟨h, _⟩
      rw [h1] at h; cases h
    · rintro ⟨h, hm⟩
      exfalso
      have h3 := h2 _ _ h
      have h4 := ((may_iff x).1 hm).few
      have h5 : x.v.es.length = x.E.length := by simp [Mg.v, evs]
      omega
theorem good_one {K most : Int} {s : Cod.S} {x y : Mg} (h : GoodM K most s x) (h2 : GoodM K most s y) : x.v = y.v := by
  have := h.1.symm.trans h2.1
  simp only [Option.some.injEq, Prod.mk.injEq, and_true] at this
  exact this
theorem may_L {m : Mg} (h : mayM m = true) : m.L.length ≤ 4096 := by
  have hk := ((may_iff m).1 h).kind
  unfold kindM noFullM noState at hk
  split at hk
  · simp only [Bool.and_eq_true, decide_eq_true_eq] at hk
    omega
  · split at hk
    · simp only [Bool.and_eq_true, decide_eq_true_eq] at hk
      omega
    · split at hk
      · simp only [Bool.and_eq_true] at hk
        exact (can_iff.1 hk.1).len
      · cases hk
theorem v_same {x y : Mg} (h : x.v = y.v) : x.Same y := by
  unfold Mg.v at h
  simp only [MgV.mk.injEq] at h
  obtain ⟨h1, h2, h3, h4, h5, h6, h7, h8, h9⟩ := h
  refine ⟨h1, h2, h3, by rw [h4]; exact veq_self _, by rw [h5]; exact veq_self _, by rw [h9]; exact veq_self _, h6, ?_⟩
  unfold sameB
  rw [h7, h8, veq_self, eqL_yes _]
  rfl
/-- both answers, held against one another -/
theorem ans_two {K0 k k2 : Int} {G G2 : Mg → Prop} {x y : Mg} (h : AnsM K0 G x k) (h2 : AnsM K0 G2 y k2) (hG : ∀ z, G z ↔ G2 z) (h1 : ∀ a b, G a → G b → a.v = b.v) (hm : ∀ z, G z → mayM z = true) :
    k = k2 ∧ x.Same y ∧ (∀ z ∈ x.E, z.e.gone.length ≤ 1000) ∧ (∀ z ∈ y.E, z.e.gone.length ≤ 1000) ∧ x.L.length ≤ 10000 := by
  have g0 : ∀ z ∈ (Mg.bare 0 0 0).E, z.e.gone.length ≤ 1000 := fun z hz => absurd hz List.not_mem_nil
  have gm : ∀ a : Mg, mayM a = true → ∀ z ∈ a.E, z.e.gone.length ≤ 1000 := fun a ha z hz => by
    have := (fine_of (((may_iff a).1 ha).evs z hz)).many
    omega
  rcases h with ⟨hk, rfl, rfl⟩ | ⟨hk, h⟩
  · rcases h2 with ⟨_, rfl, rfl⟩ | ⟨hk2, _⟩
    · exact ⟨rfl, v_same rfl, g0, g0, by decide⟩
    · exact absurd hk2 hk
  · rcases h2 with ⟨hk2, _⟩ | ⟨_, h2⟩
    · exact absurd hk hk2
    · rcases h with ⟨rfl, gx⟩ | ⟨rfl, rfl, gx⟩
      · rcases h2 with ⟨rfl, gy⟩ | ⟨rfl, rfl, gy⟩
        · have hx := hm x gx
          have gy' := (hG y).2 gy
          exact ⟨rfl, v_same (h1 x y gx gy'), gm x hx, gm y (hm y gy'), by have := may_L hx; omega⟩
        · exact absurd ((hG x).1 gx) (gy x)
      · rcases h2 with ⟨rfl, gy⟩ | ⟨rfl, rfl, gy⟩
        · exact absurd ((hG y).2 gy) (gx y)
        · exact ⟨rfl, v_same rfl, g0, g0, by decide⟩
set_option maxHeartbeats 4000000 in
theorem wireDecodes_walk (p : Option Addr) (c : Nat) (l : List UInt8) (W : World) (h : Came W p c l) (hS : Shapes W) (hT : Table W) :
    Calls Tryz.prog 3 #[.slice p l.length c] W (Yes W) := by
  have HS := Lib.hid hS; have HT := Lib.hid hT
  have AW := Lib.hid (fun V (hV : Below W.heap.size W V) => awake14 V (HS.out.below hV) (HT.out.below hV))
  by_cases hl : 8192 < l.length
  · have hl' : (l.length : Int) > 8192 := by omega
    obtain ⟨n, hn⟩ : ∃ n, l.length = n := ⟨_, rfl⟩
    rw [hn] at hl' ⊢
    clear hn hl h hS hT
    go_enter Tryz.func3, Tryz.ntmps3
    go_wp2_with fail
    refine (AW.out W (Below.refl _ _)).mono ?_
    rintro e w99 ⟨rfl, hb99⟩
    have B99 := Lib.hid hb99
    clear hb99 AW
    go_wp2
    go_ret
    exact ⟨rfl, B99.out⟩
  have hlc := h.le
  have D1 : Hid (∀ V : World, Below W.heap.size W V → Calls Tryz.prog 5 #[.slice p l.length c] V (DecA V l (GoodM 9223372036854775807 1024 ((opens l).1, 0)))) := Lib.hid fun V hV => decodeA_is p c l V (h.lies.below hV) hlc (HS.out.below hV) (HT.out.below hV) (by omega)
  have D2 : Hid (∀ V : World, Below W.heap.size W V → Calls Tryz.prog 6 #[.slice p l.length c] V (DecA V l (GoodM 2 4096 ((opens l).1, 0)))) := Lib.hid fun V hV => refDecodeA_is p c l V (h.lies.below hV) hlc (by omega)
  have GI := Lib.hid (goodM_iff ((opens l).1, 0))
  have G1 : Hid (∀ a b, GoodM 9223372036854775807 1024 ((opens l).1, 0) a → GoodM 9223372036854775807 1024 ((opens l).1, 0) b → a.v = b.v) := Lib.hid fun a b => good_one
  have GMY : Hid (∀ z, GoodM 9223372036854775807 1024 ((opens l).1, 0) z → mayM z = true) := Lib.hid fun z h => h.2
  generalize GoodM 9223372036854775807 1024 ((opens l).1, 0) = GG at D1 GI G1 GMY
  generalize GoodM 2 4096 ((opens l).1, 0) = GR at D2 GI
  have hl' : ¬ (l.length : Int) > 8192 := by omega
  have DD : Hid (∀ V e w' (G : Mg → Prop), DecA V l G e w' → ∃ (x : Mg) (k : Int), e = .returned (.tuple #[.agg x.cells.toArray, .int .i64 k]) ∧ EvsAt w' x.ep x.E ∧ WrsAt w' x.sp x.L ∧ x.E.length ≤ 1024 ∧ Below V.heap.size V w' ∧ AnsM (opens l).2 G x k) := Lib.hid fun V e w' G h => h
  obtain ⟨n, hn⟩ : ∃ n, l.length = n := ⟨_, rfl⟩
  rw [hn] at D1 D2 hl' ⊢
  clear hn hl h hS hT hlc
  go_enter Tryz.func3, Tryz.ntmps3
  go_wp2_with fail
  refine (D1.out W (Below.refl _ _)).mono ?_
  intro e w2 hd
  obtain ⟨x, k, rfl, he2, hw2, hn2, hb2, ha2⟩ := DD.out _ _ _ _ hd
  have E2 := Lib.hid he2; have S2 := Lib.hid hw2; have B2 := Lib.hid hb2; have N2 := Lib.hid hn2; have A2 := Lib.hid ha2
  clear hd he2 hw2 hn2 hb2 ha2 D1
  go_wp2_with (refine wpList_galloc _ zeroMg rfl rfl ?_)
  intro g3 w3 l3 h3 hb3
  have H3 := Lib.hid h3; have B3 := Lib.hid (thenBelow B2.out hb3); have hb23 := Lib.hid hb3
  have l3W : W.heap.size ≤ g3 := Nat.le_trans B2.out.size l3
  clear h3 hb3
  go_wp2_with (refine wpList_gstore rfl _ _ rfl g3 rfl x.cells.toArray rfl _ _ H3.out (sizeMgA _) (by rw [mx_size, mx_size]) (Mg.one' _) ?_)
  intro w4 h4 g4
  have B4 := Lib.hid (B3.out.trans (grown_below g4 B3.out.size l3W))
  have bx : Below w2.heap.size w2 w4 := hb23.out.trans (grown_below g4 hb23.out.size l3)
  have X4 : Hid (Mx w4 g3 x) := Lib.hid h4
  have E4 := Lib.hid (E2.out.below bx); have S4 := Lib.hid (S2.out.below bx)
  clear h4 g4 bx H3 hb23 B3 E2 S2 B2
  obtain ⟨AG, hAG⟩ : ∃ v, Value.tuple #[.agg x.cells.toArray, .int .i64 k] = v := ⟨_, rfl⟩
  rw [hAG]
  clear hAG
  go_wp2_with fail
  refine (D2.out w4 B4.out).mono ?_
  intro e w5 hd
  obtain ⟨y, k2, rfl, he2, hw2, hn2, hb2, ha2⟩ := DD.out _ _ _ _ hd
  have E5 := Lib.hid (E4.out.below hb2); have S5 := Lib.hid (S4.out.below hb2); have X5 := Lib.hid (X4.out.later hb2)
  have F5 := Lib.hid he2; have T5 := Lib.hid hw2; have B5 := Lib.hid (thenBelow B4.out hb2); have M2 := Lib.hid hn2
  obtain ⟨rfl, sm, gx, gy, lx⟩ := ans_two A2.out ha2 GI.out G1.out GMY.out
  have SM := Lib.hid sm; have GX := Lib.hid gx; have GY := Lib.hid gy; have LX := Lib.hid lx
  clear hd he2 hw2 hn2 hb2 ha2 D2 E4 S4 X4 B4 A2 GI G1 GMY DD sm gx gy lx
  go_wp2_with (refine wpList_galloc _ zeroMg rfl rfl ?_)
  intro g6 w6 l6 h6 hb6
  have H6 := Lib.hid h6; have B6 := Lib.hid (thenBelow B5.out hb6); have hb56 := Lib.hid hb6
  have l6W : W.heap.size ≤ g6 := Nat.le_trans B5.out.size l6
  have X6 := Lib.hid (X5.out.later hb6)
  have h36 : g3 ≠ g6 := by have := X5.out.lt; omega
  clear h6 hb6 X5
  go_wp2_with (refine wpList_gstore rfl _ _ rfl g6 rfl y.cells.toArray rfl _ _ H6.out (sizeMgA _) (by rw [mx_size, mx_size]) (Mg.one' _) ?_)
  intro w7 h7 g7
  have B7 := Lib.hid (B6.out.trans (grown_below g7 B6.out.size l6W))
  have bx : Below w5.heap.size w5 w7 := hb56.out.trans (grown_below g7 hb56.out.size l6)
  have Y7 : Hid (Mx w7 g6 y) := Lib.hid h7
  have X7 : Hid (Mx w7 g3 x) := Lib.hid ((g7.block g3 X6.out.lt (by simpa using h36)).trans X6.out)
  have E7 := Lib.hid (E5.out.below bx); have S7 := Lib.hid (S5.out.below bx); have F7 := Lib.hid (F5.out.below bx); have T7 := Lib.hid (T5.out.below bx)
  have WX := Lib.hid X7.out.whole; have WY := Lib.hid Y7.out.whole
  have SA : Hid (Calls Tryz.prog 7 #[.agg x.cells.toArray, .agg y.cells.toArray] w7 (RetBool w7 true)) := Lib.hid ((refSame14_is x y w7 E7.out F7.out S7.out T7.out (by have := N2.out; omega) (by have := M2.out; omega) GX.out GY.out LX.out).mono fun e w' ⟨b, h1, h2, h3⟩ => ⟨by rw [h1, h2.2 SM.out], h3⟩)
  clear h7 g7 bx H6 hb56 B6 E5 S5 F5 T5 B5 X6 E7 S7 F7 T7 SM GX GY LX N2 M2
  obtain ⟨AG2, hAG⟩ : ∃ v, Value.tuple #[.agg y.cells.toArray, .int .i64 k] = v := ⟨_, rfl⟩
  rw [hAG]
  clear hAG
  go_wp2_with (first | refine wpList_gload rfl _ rfl g3 0 rfl _ WX.out _ Tryz.underlying31 rfl (sizeMg x) ?_ | refine wpList_gload rfl _ rfl g6 0 rfl _ WY.out _ Tryz.underlying31 rfl (sizeMg y) ?_)
  refine SA.out.mono ?_
  rintro e w8 ⟨rfl, hb8⟩
  have B8 := Lib.hid (thenBelow B7.out hb8)
  clear hb8 SA WX WY B7 X7 Y7
  go_wp2_with fail
  refine (AW.out w8 B8.out).mono ?_
  rintro e w99 ⟨rfl, hb99⟩
  have B99 := Lib.hid (thenBelow B8.out hb99)
  clear hb99 AW
  go_wp2
  go_ret
  exact ⟨rfl, B99.out⟩
end Go.Proofs.YtapmbankpbiglaaGreatDoor
