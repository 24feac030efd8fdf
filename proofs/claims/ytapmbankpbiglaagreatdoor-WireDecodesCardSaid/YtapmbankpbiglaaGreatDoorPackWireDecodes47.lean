/- The statement WireDecodes, proved for every input that its row reads: part 47 of 54. -/
import Derived.Test.YtapmbankpbiglaaGreatDoorPackWireDecodes46
import Derived.Test.YtapmbankpbiglaaGreatDoorPackWireDecodes10
import Derived.Test.YtapmbankpbiglaaGreatDoorPackWireDecodes13
import Derived.Test.YtapmbankpbiglaaGreatDoorPackWireDecodes22
import Derived.Test.YtapmbankpbiglaaGreatDoorPackWireDecodes33
import Derived.Test.YtapmbankpbiglaaGreatDoorPackWireDecodes43
/- past.ReadEvents of any bytes. -/
namespace Go.Proofs.YtapmbankpbiglaaGreatDoor
open Go Go.RowKit
set_option linter.unusedVariables false
set_option maxRecDepth 1000000

theorem lies_evs_len {α : Type} {O : Option (α × Cod.S)} {a : α} {st : Cod.S} (h : Outc O a st) : st.2 ≠ 0 → O = none := fun h0 => by
  rcases h with ⟨_, h1⟩ | ⟨h1, _⟩
  · exact absurd h1 h0
  · exact h1
/-- what reading events comes to -/
def GotEvsA (w : World) (B : Nat) (most : Int) (O : Option (List Ev × Cod.S)) (e : Ending) (w' : World) : Prop :=
  ∃ v ys st, e = .returned v ∧ OwnE w' w.heap.size v ys ∧ (ys.length : Int) ≤ most ∧ RdA w' B st ∧ w.grownBy w' (some B) ∧ (st.2 = 0 → st.1.length ≤ 1000000) ∧ Outc O (evs ys) st
theorem ecl_snocA (ys : List EvP) (x : EvP) : ecl (ys ++ [x]) = ecl ys ++ x.cells := by unfold ecl; rw [List.flatMap_append]; simp
theorem evs_snocA (ys : List EvP) (x : EvP) : evs (ys ++ [x]) = evs ys ++ [x.e] := by unfold evs; rw [List.map_append]; rfl
set_option maxHeartbeats 8000000 in
theorem readEvents_any (B : Nat) (most : Int) (s : Cod.S) (w : World) (h : RdA w B s) (hm : 0 ≤ most ∧ most ≤ 5000) (hT : ∀ w', w.grownBy w' (some B) → Shapes w') (hl : s.1.length ≤ 1000000) :
    Calls Tryz.prog 32 #[.pointer (some ⟨B, 0, none⟩), .int .i64 most] w (GotEvsA w B most (lstO 9223372036854775807 most s)) := by
  have HB := Lib.hid h.lt
  have HT := Lib.hid hT
  have N9 := Lib.hid (num_all B most s w h (by omega) (by omega))
  have n1 := Cod.numS_len most s
  have n2 : ((Cod.numS most s).1 : Int) ≤ most := numS_small hm.1
  have n3 : (Cod.numS most s).1 = 0 ∨ (Cod.numS most s).2.2 = 0 := by
    by_cases e : (Cod.numS most s).2.2 = 0
    · exact .inr e
    · exact .inl (Cod.numS_zero e)
  have hO : ∀ O, O = lstO 9223372036854775807 most s → O = evsO 9223372036854775807 (Cod.numS most s).1 (Cod.numS most s).2 := fun O e => e
  obtain ⟨O, hOO⟩ : ∃ O, O = lstO 9223372036854775807 most s := ⟨_, rfl⟩
  rw [← hOO]
  have hO2 := hO O hOO
  clear hO hOO h hT
  have NL : (Cod.numS most s).2.1.length ≤ 1000000 := Nat.le_trans n1 hl
  generalize Cod.numS most s = C at *
  obtain ⟨N, S1⟩ := C
  simp only at N9 n2 n3 hO2 NL
  have N4 : Hid ((N : Int) ≤ most ∧ most ≤ 5000) := Lib.hid ⟨n2, hm.2⟩
  have NN := Lib.hid n3; have NNL := Lib.hid NL; have OO := Lib.hid hO2
  clear n1 n2 n3 hl hm hO2 NL
  go_enter Tryz.func32, Tryz.ntmps32
  go_wp2_with fail
  refine N9.out.mono ?_
  rintro e w1 ⟨rfl, hr, hg⟩
  have G1 := Lib.hid hg; have R1 := Lib.hid hr
  clear hr hg N9
  go_wp2
  go_loopw [5, 10] (fun u i wr => ∃ (j : Nat) (ys : List EvP) (st : Cod.S), j ≤ N ∧ i = .int .i64 j ∧ ys.length = j ∧ Hid (O = (evsO 9223372036854775807 (N - j) st).map (fun q => (evs ys ++ q.1, q.2))) ∧ Hid (N = 0 ∨ st.2 = 0) ∧ Hid (st.1.length ≤ 1000000) ∧ OwnE wr w.heap.size u ys ∧ RdA wr B st ∧ w.grownBy wr (some B)) (fun _ i _ => N - (RowKit.intOf i).toNat)
  case atStart => exact ⟨0, [], S1, Nat.zero_le _, rfl, rfl, Lib.hid (by rw [OO.out, Nat.sub_zero]; cases evsO 9223372036854775807 N S1 <;> rfl), NN, NNL, ⟨World.ownsRow_nil _ _ _ _, fun _ h => absurd h (List.not_mem_nil)⟩, R1.out, G1.out⟩
  case round =>
    clear NN NNL OO R1 G1
    obtain ⟨j, ys, st, hj, rfl, hys, HO, HN, HL, hown, hrd, hgr⟩ := hrel
    have OW := Lib.hid hown; have RD := Lib.hid hrd; have GR := Lib.hid hgr
    have LY := Lib.hid hys
    clear hown hrd hgr hys
    have hN5 : N ≤ 5000 := by have := N4.out; omega
    by_cases hjk : j < N
    · have hjk' : (j : Int) < N := by omega
      have RDT : Hid (Calls Tryz.prog 55 #[.pointer (some ⟨B, 0, none⟩)] wr (GotEvA wr B (evO 9223372036854775807 st))) := Lib.hid (readEvent_any B st wr RD.out (fun w' hg => HT.out w' (grown_trans GR.out hg)) HL.out)
      have HN1 : Hid (N - j = (N - (j + 1)) + 1) := Lib.hid (by omega)
      go_wp2_with fail
      refine RDT.out.mono ?_
      rintro e w2 ⟨x, s2, rfl, hgo, hr2, hg2, hl2, hoc⟩
      have GS := Lib.hid (grown_trans GR.out hg2)
      have R2 := Lib.hid hr2
      have LO := GR.out.size
      have O2 : Hid (OwnE w2 w.heap.size u5 ys) := Lib.hid ⟨own_keep OW.out.row hg2 (own_above OW.out.row HB.out), fun y hy => own_keep (OW.out.gone y hy) hg2 (own_above (OW.out.gone y hy) HB.out)⟩
      have X2 : Hid (w2.ownsRow w.heap.size 76 2 (.slice x.p x.e.gone.length x.c) x.e.gone.length (dcl x.e.gone)) := Lib.hid (own_base hgo LO)
      have HOC := Lib.hid hoc; have HL2 := Lib.hid hl2
      clear hgo hr2 hg2 OW RD GR RDT hoc hl2
      obtain ⟨⟨r, n, t, kd, d, fl, tx, gn⟩, gp, gc⟩ := x
      have ba := below_alloc w2 (.cells #[.int .i64 r, .int .i64 n, .int .i64 t, .int .i64 kd, .string d, .int .i64 fl, .string tx, .slice gp gn.length gc] 79)
      have na := heap_alloc_new w2 (.cells #[.int .i64 r, .int .i64 n, .int .i64 t, .int .i64 kd, .string d, .int .i64 fl, .string tx, .slice gp gn.length gc] 79)
      have O3 := Lib.hid (O2.out.later ba); have X3 := Lib.hid (own_later X2.out ba)
      have R3 := Lib.hid (R2.out.below ba)
      have G3 := Lib.hid (grown_on GS.out (ba.mono GS.out.size))
      have hz3 : w.heap.size ≤ w2.heap.size := GS.out.size
      have D3 : Hid ((w2.alloc (.cells #[.int .i64 r, .int .i64 n, .int .i64 t, .int .i64 kd, .string d, .int .i64 fl, .string tx, .slice gp gn.length gc] 79)).rangeAt w2.heap.size 0 (EvP.cells ⟨⟨r, n, t, kd, d, fl, tx, gn⟩, gp, gc⟩)) := Lib.hid (range_of_block na)
      have ER := Lib.hid (err_any B s2 _ R3.out)
      have hz4 := Nat.le_trans hz3 ba.size
      clear ba na O2 X2 R2 GS
      rw [show (EvP.cells ⟨⟨r, n, t, kd, d, fl, tx, gn⟩, gp, gc⟩).toArray = #[.int .i64 r, .int .i64 n, .int .i64 t, .int .i64 kd, .string d, .int .i64 fl, .string tx, .slice gp gn.length gc] from rfl]
      go_wp2_with fail
      refine ER.out.mono ?_
      rintro e w4 ⟨rfl, rfl⟩
      obtain ⟨g6, hg6⟩ : ∃ g, g = w2.heap.size := ⟨_, rfl⟩
      rw [← hg6] at D3 ⊢
      generalize (w2.alloc (.cells #[.int .i64 r, .int .i64 n, .int .i64 t, .int .i64 kd, .string d, .int .i64 fl, .string tx, .slice gp gn.length gc] 79)) = w3 at O3 X3 R3 G3 D3 ER hz4 ⊢
      by_cases he : s2.2 = 0
      · have HO2 : Hid (O = (evsO 9223372036854775807 (N - (j + 1)) s2).map (fun q => (evs (ys ++ [⟨⟨r, n, t, kd, d, fl, tx, gn⟩, gp, gc⟩]) ++ q.1, q.2))) := Lib.hid (by
          rcases HOC.out with ⟨h1, _⟩ | ⟨_, h1⟩
          · rw [HO.out, HN1.out, evsO_some h1, evs_snocA]
            cases evsO 9223372036854775807 (N - (j + 1)) s2 with
            | none => rfl
            | some q => simp only [Option.map_some, List.append_assoc, List.singleton_append]
          · exact absurd he h1)
        have HNX : Hid (N = 0 ∨ s2.2 = 0) := Lib.hid (.inr he)
        have HLX : Hid (s2.1.length ≤ 1000000) := Lib.hid (HL2.out he)
        rw [he]
        clear he HO HOC HL2
        obtain ⟨c0, c1, c2, c3, c4, c5, c6, c7⟩ := ev_cells D3.out
        simp only [Nat.zero_add] at c0 c1 c2 c3 c4 c5 c6 c7
        clear D3 ER hg6
        go_wp2_with (at_builtin; refine wpList_ev w3 rfl _ _ rfl w.heap.size ys.length (ecl ys) u5 rfl O3.out.row ⟨⟨r, n, t, kd, d, fl, tx, gn⟩, gp, gc⟩ rfl (by have := LY.out; have := N4.out; omega) hz4 ?_)
        intro v8 w8 o8 g8
        have b8 : Below w.heap.size w3 w8 := (Below.refl _ _).grown g8 hz4 (fun k hk => (O3.out.row.lt k hk).1)
        have R8 := Lib.hid (R3.out.under HB.out b8)
        have G8 := Lib.hid (grown_on G3.out b8)
        have O8 : Hid (OwnE w8 w.heap.size v8 (ys ++ [⟨⟨r, n, t, kd, d, fl, tx, gn⟩, gp, gc⟩])) := Lib.hid ⟨by rw [ecl_snocA, List.length_append]; exact o8, fun y hy => by
          rcases List.mem_append.1 hy with h | h
          · exact own_keep (O3.out.gone y h) g8 (own_apart (O3.out.gone y h) O3.out.row (by decide))
          · obtain rfl := List.mem_singleton.1 h
            exact own_keep X3.out g8 (own_apart X3.out O3.out.row (by decide))⟩
        have L8 : Hid ((ys ++ [(⟨⟨r, n, t, kd, d, fl, tx, gn⟩, gp, gc⟩ : EvP)]).length = j + 1) := Lib.hid (by rw [List.length_append, LY.out]; rfl)
        clear o8 g8 b8 O3 X3 R3 G3 c0 c1 c2 c3 c4 c5 c6 c7
        go_wp2
        go_roundw
        case rel => exact ⟨j + 1, _, s2, by omega, by go_num, L8.out, HO2, HNX, HLX, O8.out, R8.out, G8.out⟩
        case measure => simp [RowKit.intOf]; omega
      · have FO : Hid (GotEvsA w B most O (.returned (.slice none 0 0)) w3) := Lib.hid ⟨_, [], s2, rfl, ⟨World.ownsRow_nil _ _ _ _, fun _ h => absurd h (List.not_mem_nil)⟩, by have := N4.out; simp; omega, R3.out, G3.out, fun h => absurd h he, .inr ⟨by
          rcases HOC.out with ⟨_, h1⟩ | ⟨h1, _⟩
          · exact absurd h1 he
          · rw [HO.out, HN1.out, evsO_none h1]; rfl, he⟩⟩
        have hnn : (((s2.2 : Nat) : Int) != 0) = true := by simpa using he
        clear he HO HOC HL2 D3 ER hg6 O3 X3 R3 G3
        go_wp2
        go_ret
        exact FO.out
    · obtain rfl : j = N := by omega
      have hjk' : ¬ ((j : Nat) : Int) < j := by omega
      have FO : Hid (GotEvsA w B most O (.returned u5) wr) := Lib.hid ⟨u5, ys, st, rfl, OW.out, by rw [LY.out]; exact N4.out.1, RD.out, GR.out, fun _ => HL.out, by
        have h1 := HO.out
        rw [Nat.sub_self] at h1
        rw [evsO_zero] at h1
        by_cases e : st.2 = 0
        · rw [if_pos e] at h1
          exact .inl ⟨by rw [h1]; simp, e⟩
        · rw [if_neg e] at h1
          exact .inr ⟨h1, e⟩⟩
      clear HO HN HL OW RD GR LY
      go_wp2
      go_ret
      exact FO.out
end Go.Proofs.YtapmbankpbiglaaGreatDoor
/- wire.Decode of what is not read; wire.Same of two empty messages; the example. -/
namespace Go.Proofs.YtapmbankpbiglaaGreatDoor
open Go Go.RowKit
set_option linter.unusedVariables false
set_option maxRecDepth 1000000

/-- a message with nothing but its kind and where it goes -/
def Mg.bare (k a b : Int) : Mg := ⟨k, a, b, fun _ => 0, fun _ => 0, none, 0, [], fun _ => 0, none, 0, [], fun _ => 0⟩
theorem zeroMg (w : World) : (zeroValue 31).run Tryz.prog w = .ok (.agg (Mg.bare 0 0 0).cells.toArray) w := by kernel_rfl
theorem builtMg (w : World) : (Instr.build 31 #[]).run Tryz.prog w = .ok (.agg (Mg.bare 0 0 0).cells.toArray) w := run_build w _ _ _ (by kernel_rfl)
theorem builtMg1 (w : World) : (Instr.build 31 #[(0, .int .i64 1), (1, .int .i64 0), (2, .int .i64 1)]).run Tryz.prog w = .ok (.agg (Mg.bare 1 0 1).cells.toArray) w := run_build w _ _ _ (by kernel_rfl)
theorem sizeMgA (m : Mg) : (Tryz.prog.info? 31).map (·.size) = some m.cells.toArray.size := by rw [List.size_toArray]; exact sizeMg m
theorem Mg.one' (m : Mg) : ∀ u ∈ m.cells.toArray.toList, u.oneCell' = true := by simpa using m.cells_one

set_option maxHeartbeats 8000000 in
theorem decodeBad_is (p : Option Addr) (c : Nat) (l : List UInt8) (w : World) (h : Lies w p l) (hlc : l.length ≤ c) (hT : Table w) (hn : l.length ≤ 140737488355000) (k : Int) (ho : opens l = ([], k)) (hk : k ≠ 0) :
    Calls Tryz.prog 5 #[.slice p l.length c] w fun e w' => e = .returned (.tuple #[.agg (Mg.bare 0 0 0).cells.toArray, .int .i64 k]) ∧ Below w.heap.size w w' := by
  have OP : Hid (∀ V : World, Below w.heap.size w V → Calls Tryz.prog 11 #[.slice p l.length c] V (RetTwo V ([], k))) := Lib.hid fun V hV => by rw [← ho]; exact open_any p c l V (h.below hV) hlc (hT.below hV) hn
  have hk' : (k != 0) = true := by simpa using hk
  clear h hT ho hk
  go_enter Tryz.func5, Tryz.ntmps5
  go_wp2_with (refine wpList_galloc _ zeroMg rfl rfl ?_)
  intro g1 w1 l1 h1 hb1
  have H1 := Lib.hid h1; have B1 := Lib.hid hb1
  clear h1 hb1
  go_wp2_with fail
  refine (OP.out w1 B1.out).mono ?_
  rintro e w2 ⟨p2, c2, rfl, _, _, _, hb2⟩
  have H2 := Lib.hid ((hb2.block _ (Array.getElem?_eq_some_iff.1 H1.out).1).trans H1.out); have B2 := Lib.hid (thenBelow B1.out hb2)
  clear hb2 H1 OP
  go_wp2_with (first | refine wpList_pbuild (by rfl) _ rfl (Mg.bare 0 0 0).cells.toArray (by simp only [List.map_toArray, List.map_nil]; exact builtMg _) ?_ | refine wpList_gstore rfl _ _ rfl g1 rfl (Mg.bare 0 0 0).cells.toArray rfl _ _ H2.out (sizeMgA _) rfl (Mg.one' _) ?_)
  intro w3 h3 g3
  have b3 := grown_below g3 B2.out.size l1
  have B3 := Lib.hid (B2.out.trans b3)
  have H3 := Lib.hid h3
  clear h3 g3 b3 H2
  go_wp2
  exact bodyPost_ret (v := .tuple #[.agg (Mg.bare 0 0 0).cells.toArray, .int .i64 k]) (results_cell_two (p := 2) (q := 3) rfl _ w3 g1 _ _ (0, 0) _ rfl H3.out Tryz.underlying31 rfl (sizeMgA _) (.int .i64 k) rfl) rfl ⟨rfl, B3.out⟩
end Go.Proofs.YtapmbankpbiglaaGreatDoor
/- wire.Same of two messages that are the same. -/
namespace Go.Proofs.YtapmbankpbiglaaGreatDoor
open Go Go.RowKit
set_option linter.unusedVariables false
set_option maxRecDepth 1000000

theorem evs_nil (w : World) (p : Option Addr) : EvsAt w p [] := ⟨fun h => absurd rfl h, fun x h => absurd h (List.not_mem_nil), fun _ => rfl⟩
theorem good0 : goodB (fun _ => 0) = true := by decide +kernel
/-- two messages that are the same -/
structure Mg.Eq (m x : Mg) : Prop where
  kind : x.kind = m.kind
  src : x.src = m.src
  dst : x.dst = m.dst
  ack : veq m.ack x.ack = true
  base : veq m.base x.base = true
  floor : veq m.floor x.floor = true
  evs : evs m.E = evs x.E
  seen : veq m.seen x.seen = true
  live : x.L = m.L
end Go.Proofs.YtapmbankpbiglaaGreatDoor
/- wire.read of what was written of a message. -/
namespace Go.Proofs.YtapmbankpbiglaaGreatDoor
open Go Go.RowKit
set_option linter.unusedVariables false
set_option maxRecDepth 1000000

/-- what reading a message comes to -/
def GotMg (w : World) (B : Nat) (m : Mg) (e : Ending) (w' : World) : Prop := ∃ x : Mg, e = .returned (.agg x.cells.toArray) ∧ m.Eq x ∧ mayM x = true ∧ OwnE w' w.heap.size (.slice x.ep x.E.length x.ec) x.E ∧ WrsAt w' x.sp x.L ∧ RdA w' B ([], 0) ∧ w.grownBy w' (some B)
theorem haveM_evs (m : Mg) : haveM m = (decide ((evs m.E).length ≤ 1024) && (evs m.E).all fun e => decide (chk e = 0)) := by
  unfold haveM evs
  rw [List.length_map, List.all_map]; rfl
theorem may_mk {m x : Mg} (hM : mayM m = true) (hq : m.Eq x) (ga : goodB x.ack = true) (gb : goodB x.base = true) (gf : goodB x.floor = true) (hk : kindM x = true) : mayM x = true := by
  unfold mayM at hM ⊢
  simp only [Bool.and_eq_true] at hM ⊢
  obtain ⟨h1, h2, _⟩ := hM
  refine ⟨?_, ?_, hk⟩
  · unfold goM at h1 ⊢
    rw [hq.src, hq.dst]
    simp only [Bool.and_eq_true] at h1 ⊢
    exact ⟨h1.1, h1.2.1, h1.2.2.1, ga, gb, gf⟩
  · rw [haveM_evs] at h2 ⊢
    rw [← hq.evs]; exact h2
/-- a row of writes stays where what turns has no text in it -/
theorem wrs_off {w w' : World} {p : Option Addr} {L : List Wr} {A : Nat} (h : WrsAt w p L) (hg : w.grownBy w' (some A)) (hno : ∀ i st, w.cell? ⟨A, i, none⟩ ≠ some (.string st)) : WrsAt w' p L := by
  refine ⟨fun hn => ?_, h.none⟩
  have h0 : 0 < L.length := List.length_pos_iff.2 hn
  obtain ⟨b0, o0, rfl, hlt, hr0⟩ := h.at h0
  obtain ⟨b, o, e, hr⟩ := h.row hn
  obtain ⟨rfl, rfl, _⟩ := Addr.mk.inj (Option.some.inj e)
  have hne : b0 ≠ A := by
    rintro rfl
    exact hno _ _ (hr0 3 _ rfl)
  refine ⟨b0, o0, rfl, fun j u hu => ?_⟩
  exact (World.cell?_of_block (w := w) (hg.block b0 hlt (fun e => hne (Option.some.inj e)))).trans (hr j u hu)
theorem mg_nostr (m : Mg) : ∀ u ∈ m.cells, ∀ st, u ≠ .string st := by
  intro u hu st
  have hv : ∀ f : Nat → Int, u ∈ (vf f).toList → u ≠ .string st := fun f h e => by
    subst e
    obtain ⟨i, hi, h2⟩ := List.getElem_of_mem h
    have h3 := vf_get f i (by rwa [vfl_len] at hi)
    rw [← Array.getElem?_toList, List.getElem?_eq_getElem hi, h2] at h3
    cases h3
  simp only [Mg.cells, Mg.st, scs, Array.toList_push, List.mem_append, List.mem_cons, List.not_mem_nil, or_false] at hu
  rcases hu with (rfl | rfl | rfl) | hu | hu | rfl | (hu | rfl) | hu
  · intro e; cases e
  · intro e; cases e
  · intro e; cases e
  · exact hv _ hu
  · exact hv _ hu
  · intro e; cases e
  · exact hv _ hu
  · intro e; cases e
  · exact hv _ hu
theorem Mx.nostr {w : World} {g : Nat} {m : Mg} (h : Mx w g m) : ∀ i st, w.cell? ⟨g, i, none⟩ ≠ some (.string st) := fun i st e => by
  rw [cell_of_row w g i _ _ _ h, List.getElem?_toArray] at e
  exact mg_nostr m _ (List.mem_of_getElem? e) st rfl
theorem RdA.nostr {w : World} {B : Nat} {s : Cod.S} (h : RdA w B s) : ∀ i st, w.cell? ⟨B, i, none⟩ ≠ some (.string st) := fun i st e => by
  rcases h with ⟨_, b, o, c, h1, _⟩ | ⟨_, h1⟩
  · rw [cell_of_row w B i _ _ _ h1] at e
    match i with
    | 0 => cases e
    | 1 => cases e
    | 2 => cases e
    | n + 3 => simp at e
  · rw [cell_of_row w B i _ _ _ h1] at e
    match i with
    | 0 => cases e
    | 1 => cases e
    | 2 => cases e
    | n + 3 => simp at e
theorem OwnE.off {w w' : World} {B0 g : Nat} {v : Value} {L : List EvP} {cs : Array Value} (h : OwnE w B0 v L) (hx : w.heap[g]? = some (.cells cs 31 (0, 0))) (hg : w.grownBy w' (some g)) : OwnE w' B0 v L :=
  ⟨own_keep h.row hg (.inr fun e => own_not h.row hx (by decide) e.symm), fun x hx' => own_keep (h.gone x hx') hg (.inr fun e => own_not (h.gone x hx') hx (by decide) e.symm)⟩
theorem builtMg4 (k s d : Int) (f : Nat → Int) (w : World) : (Instr.build 31 #[(0, .int .i64 k), (1, .int .i64 s), (2, .int .i64 d), (3, .agg (vf f))]).run Tryz.prog w = .ok (.agg ({ Mg.bare k s d with ack := f } : Mg).cells.toArray) w := run_build w _ _ _ (by kernel_rfl)
set_option maxHeartbeats 16000000 in
theorem wireRead_live (B : Nat) (m : Mg) (w : World) (h : Rd w B (mgB m)) (hM : mayM m = true) (hT : ∀ w', w.grownBy w' (some B) → Shapes w') :
    Calls Tryz.prog 13 #[.pointer (some ⟨B, 0, none⟩)] w (GotMg w B m) := by
  have ML := mgB_len hM
  obtain ⟨⟨s1, s2⟩, ⟨d1, d2⟩, KD0⟩ := may_parts hM
  have HM := Lib.hid hM
  have NE0 : m.E.length ≤ 1024 ∧ ∀ x ∈ m.E, chk x.e = 0 := by
    unfold mayM haveM at hM
    simp only [Bool.and_eq_true, decide_eq_true_eq, List.all_eq_true] at hM
    exact hM.2.1
  have GO : goodB m.ack = true ∧ goodB m.base = true ∧ goodB m.floor = true := by
    unfold mayM goM at hM
    simp only [Bool.and_eq_true] at hM
    exact hM.1.2.2.2
  have KM : kindM m = true := by
    unfold mayM at hM
    simp only [Bool.and_eq_true] at hM
    exact hM.2.2
  have HB := Lib.hid h.lt'
  have NE := Lib.hid NE0; have HT := Lib.hid hT; have KD := Lib.hid KD0; have GD := Lib.hid GO; have KK := Lib.hid KM
  obtain ⟨k, hk⟩ : ∃ k : Nat, m.kind = k := ⟨m.kind.toNat, by rcases KD0 with h | h | ⟨h, _⟩ <;> omega⟩
  obtain ⟨s, hs⟩ : ∃ k : Nat, m.src = k := ⟨m.src.toNat, by omega⟩
  obtain ⟨d, hd⟩ : ∃ k : Nat, m.dst = k := ⟨m.dst.toNat, by omega⟩
  obtain ⟨T, hTl⟩ : ∃ X, (if m.kind = 2 then vbytes m.base ++ evsB m.E else if m.kind = 3 then stB m.seen m.L ++ vbytes m.floor ++ evsB m.E else []) = X := ⟨_, rfl⟩
  have hall : mgB m = Cod.enc k ++ (Cod.enc s ++ (Cod.enc d ++ (vbytes m.ack ++ T))) := by
    unfold mgB
    rw [hTl, hk, hs, hd]
    simp only [Int.toNat_natCast, List.append_assoc]
  have k3 : (k : Int) ≤ 3 := by rcases KD0 with h | h | ⟨h, _⟩ <;> omega
  have s63 : (s : Int) ≤ 63 := by omega
  have d63 : (d : Int) ≤ 63 := by omega
  rw [hall] at h ML
  have HTL := Lib.hid hTl
  have HK := Lib.hid hk; have HSr := Lib.hid hs; have HDs := Lib.hid hd
  clear hM hT NE0 GO KM KD0 hTl hall hk hs hd s1 s2 d1 d2
  obtain ⟨T3, h3⟩ : ∃ X, vbytes m.ack ++ T = X := ⟨_, rfl⟩
  obtain ⟨T2, h2⟩ : ∃ X, Cod.enc d ++ T3 = X := ⟨_, rfl⟩
  obtain ⟨T1, h1⟩ : ∃ X, Cod.enc s ++ T2 = X := ⟨_, rfl⟩
  have n1 : T1.length ≤ 20000000 := by rw [← h1, ← h2, ← h3]; simp only [List.length_append] at ML ⊢; omega
  have n2 : T2.length ≤ 20000000 := by rw [← h2, ← h3]; simp only [List.length_append] at ML ⊢; omega
  have n3 : T3.length ≤ 20000000 := by rw [← h3]; simp only [List.length_append] at ML ⊢; omega
  have n4 : T.length ≤ 20000000 := by simp only [List.length_append] at ML; omega
  have ek := enc_len k; have es := enc_len s; have ed := enc_len d
  rw [h3, h2, h1] at h
  have H0 := Lib.hid h; have E3 := Lib.hid h3; have E2 := Lib.hid h2; have E1 := Lib.hid h1
  have VB := Lib.hid (vec_back m.ack GD.out.1 T)
  clear h ML h3 h2 h1
  go_enter Tryz.func13, Tryz.ntmps13
  go_wp2_with (refine wpList_galloc _ zeroMg rfl rfl ?_)
  intro g2 w1 l2 hx1 hb1
  have K1 : Hid (Mx w1 g2 (Mg.bare 0 0 0)) := Lib.hid hx1
  have G1 := Lib.hid (grown_less (R := some B) hb1)
  have N1 := Lib.hid (numIn_live B k 3 T1 w1 (H0.out.on hb1) k3 (by omega) (by rw [List.length_append]; omega))
  clear hb1 hx1
  go_wp2_with fail
  refine N1.out.mono ?_
  rintro e w2 ⟨rfl, hr, hg⟩
  have G2 := Lib.hid (grown_trans G1.out hg)
  have K2 : Hid (Mx w2 g2 (Mg.bare 0 0 0)) := Lib.hid (grown_step G1.out hg HB.out l2 K1.out)
  rw [← E1.out] at hr
  have N2 := Lib.hid (numIn_live B s 63 T2 w2 hr s63 (by omega) (by rw [List.length_append]; omega))
  clear hr hg N1 K1 G1
  go_wp2_with fail
  refine N2.out.mono ?_
  rintro e w3 ⟨rfl, hr, hg⟩
  have G3 := Lib.hid (grown_trans G2.out hg)
  have K3 : Hid (Mx w3 g2 (Mg.bare 0 0 0)) := Lib.hid (grown_step G2.out hg HB.out l2 K2.out)
  rw [← E2.out] at hr
  have N3 := Lib.hid (numIn_live B d 63 T3 w3 hr d63 (by omega) (by rw [List.length_append]; omega))
  clear hr hg N2 K2 G2
  go_wp2_with fail
  refine N3.out.mono ?_
  rintro e w4 ⟨rfl, hr, hg⟩
  have G4 := Lib.hid (grown_trans G3.out hg)
  have K4 : Hid (Mx w4 g2 (Mg.bare 0 0 0)) := Lib.hid (grown_step G3.out hg HB.out l2 K3.out)
  rw [← E3.out] at hr
  have VL := vbytes_len m.ack
  have V4 : Hid (Calls Tryz.prog 31 #[.pointer (some ⟨B, 0, none⟩)] w4 fun e w' => e = .returned (.agg (vf m.ack)) ∧ RdA w' B (T, 0) ∧ w4.grownBy w' (some B)) := Lib.hid ((vread_is B (vbytes m.ack ++ T, 0) w4 (.inl ⟨rfl, hr⟩) (by simp only [List.length_append]; omega)).mono fun e w' ⟨h1, h2, h3⟩ => ⟨by rw [h1, vf_congr VB.out.2], by rw [VB.out.1] at h2; exact h2, h3⟩)
  clear hr hg N3 K3 G3 VB
  go_wp2_with fail
  refine V4.out.mono ?_
  rintro e w5 ⟨rfl, hr, hg⟩
  have G5 := Lib.hid (grown_trans G4.out hg)
  have K5 : Hid (Mx w5 g2 (Mg.bare 0 0 0)) := Lib.hid (grown_step G4.out hg HB.out l2 K4.out)
  have R5 := Lib.hid hr
  clear hr hg V4 K4 G4
  go_wp2_with (first | refine wpList_pbuild (by rfl) _ rfl ({ Mg.bare (k : Int) (s : Int) (d : Int) with ack := m.ack } : Mg).cells.toArray (by simp only [List.map_toArray, List.map_cons, List.map_nil]; exact builtMg4 _ _ _ _ _) ?_ | refine wpList_galloc _ zeroMg rfl rfl ?_)
  intro g3 w6 l3 hx6 hb6
  have hl3 : w.heap.size ≤ g3 := Nat.le_trans G5.out.size l3
  have G6 := Lib.hid (grown_on G5.out (hb6.mono G5.out.size))
  have K6 : Hid (Mx w6 g2 (Mg.bare 0 0 0)) := Lib.hid (K5.out.later hb6)
  --REST
  have R6 := Lib.hid (R5.out.below hb6)
  have H6 := Lib.hid hx6
  have h23 : g2 ≠ g3 := by have := K5.out.lt; omega
  have hBg : B < g3 := Nat.lt_of_lt_of_le HB.out hl3
  have hB2 : B < g2 := Nat.lt_of_lt_of_le HB.out l2
  clear hx6 hb6 K5 R5 G5
  go_wp2_with (refine wpList_gstore rfl _ _ rfl g3 rfl ({ Mg.bare (k : Int) (s : Int) (d : Int) with ack := m.ack } : Mg).cells.toArray rfl _ _ H6.out (sizeMgA _) (by rw [mx_size, mx_size]) (Mg.one' _) ?_)
  intro w7 h7 g7
  have G7 := Lib.hid (grown_onE G6.out g7 hl3)
  have K7 : Hid (Mx w7 g2 (Mg.bare 0 0 0)) := Lib.hid ((g7.block _ K6.out.lt (by simpa using h23)).trans K6.out)
  have R7 := Lib.hid (R6.out.beside g7 hBg)
  obtain ⟨m1, hm1⟩ : ∃ x : Mg, x = { Mg.bare (k : Int) (s : Int) (d : Int) with ack := m.ack } := ⟨_, rfl⟩
  rw [← hm1] at h7 ⊢
  have X7 : Hid (Mx w7 g3 m1) := Lib.hid h7
  have HM1 := Lib.hid hm1
  have k1k : m1.kind = k := by rw [hm1]; rfl
  clear h7 g7 H6 K6 R6 G6 hm1
  have kk := X7.out.parts.kind
  rw [k1k] at kk
  rcases KD.out with q1 | q2 | ⟨q3, hcan⟩
  · have e2 : ((k : Int) == 2) = false := by rw [← HK.out, q1]; rfl
    have e3 : ((k : Int) == 3) = false := by rw [← HK.out, q1]; rfl
    have hT0 : T = [] := by rw [← HTL.out, if_neg (by omega), if_neg (by omega)]
    have hk := KK.out
    unfold kindM noBaseM noFullM noState at hk
    rw [if_pos q1] at hk
    simp only [Bool.and_eq_true, decide_eq_true_eq] at hk
    obtain ⟨hE0, hb0, ⟨hs0, hL0⟩, hf0⟩ := hk
    have EQ : Hid (m.Eq m1) := Lib.hid (by
      rw [HM1.out]
      exact ⟨HK.out.symm, HSr.out.symm, HDs.out.symm, veq_self _, hb0, hf0, by show evs m.E = _; rw [List.eq_nil_of_length_eq_zero hE0]; rfl, hs0, (List.eq_nil_of_length_eq_zero hL0).symm⟩)
    have EN : Hid (m1.E = [] ∧ m1.L = [] ∧ m1.ep = none ∧ m1.ec = 0) := Lib.hid (by rw [HM1.out]; exact ⟨rfl, rfl, rfl, rfl⟩)
    have MY : Hid (mayM m1 = true) := Lib.hid (may_mk HM.out EQ.out (by rw [HM1.out]; exact GD.out.1) (by rw [HM1.out]; exact good0) (by rw [HM1.out]; exact good0) (by
      rw [HM1.out]
      unfold kindM noBaseM noFullM noState Mg.bare
      simp only
      rw [if_pos (by rw [← HK.out]; exact q1)]
      simp [veq_self]))
    have RE : Hid (RdA w7 B ([], 0)) := Lib.hid (by have := R7.out; rw [hT0] at this; exact this)
    have WH := Lib.hid X7.out.whole
    have KE := K7; have GE := G7
    clear q1 hT0 hE0 hb0 hs0 hL0 hf0 R7 X7 K7 G7
    obtain ⟨XX, hXX⟩ : ∃ x, x = m1 := ⟨_, rfl⟩
    rw [← hXX] at EQ EN WH MY
    clear hXX
    go_wp2_with (first | refine wpList_gload rfl _ rfl g3 0 rfl _ WH.out _ Tryz.underlying31 rfl (sizeMg _) ?_ | refine wpList_gstore rfl _ _ rfl g2 rfl XX.cells.toArray rfl _ _ KE.out (sizeMgA _) (by rw [mx_size, mx_size]) (Mg.one' _) ?_)
    intro w99 h99 g99
    have G99 := Lib.hid (grown_onE GE.out g99 l2)
    have R99 := Lib.hid (RE.out.beside g99 hB2)
    have H99 := Lib.hid h99
    have FO : Hid (GotMg w B m (.returned (.agg XX.cells.toArray)) w99) := Lib.hid ⟨XX, rfl, EQ.out, MY.out, (by rw [EN.out.1, EN.out.2.2.1, EN.out.2.2.2]; exact ⟨World.ownsRow_nil _ _ _ _, fun x h => absurd h List.not_mem_nil⟩), (by rw [EN.out.2.1]; exact wrs_nil _ _), R99.out, G99.out⟩
    clear h99 g99 RE GE
    go_wp2
    exact bodyPost_ret (v := .agg XX.cells.toArray) (results_cell_row rfl _ w99 g2 _ _ (0, 0) _ rfl H99.out Tryz.underlying31 rfl (sizeMgA _)) rfl FO.out
  · have e2 : ((k : Int) == 2) = true := by rw [← HK.out, q2]; rfl
    have hT0 : T = vbytes m.base ++ (evsB m.E ++ []) := by rw [← HTL.out, if_pos q2, List.append_nil]
    have hk := KK.out
    unfold kindM noFullM noState at hk
    rw [if_neg (by omega), if_pos q2] at hk
    simp only [Bool.and_eq_true, decide_eq_true_eq] at hk
    obtain ⟨hE1, ⟨hs0, hL0⟩, hf0⟩ := hk
    have q2' := q2
    have VB := vec_back m.base GD.out.2.1 (evsB m.E ++ [])
    have pE : 0 < (evsB m.E ++ ([] : List UInt8)).length := by
      unfold evsB
      simp only [List.length_append]
      have : 0 < (Cod.enc m.E.length).length := by rw [Cod.enc_length]; omega
      omega
    have V8 : Hid (Calls Tryz.prog 31 #[.pointer (some ⟨B, 0, none⟩)] w7 fun e w' => e = .returned (.agg (vf m.base)) ∧ Rd w' B (evsB m.E ++ []) ∧ w7.grownBy w' (some B)) := Lib.hid ((vread_is B (T, 0) w7 R7.out (by show T.length ≤ _; omega)).mono fun e w' ⟨h1, h2, h3⟩ => ⟨by rw [h1, hT0, vf_congr VB.2], by rw [hT0, VB.1] at h2; exact h2.live pE, h3⟩)
    clear q2 hT0 VB pE R7
    go_wp2_with fail
    refine V8.out.mono ?_
    rintro e w8 ⟨rfl, hr, hg⟩
    have G8 := Lib.hid (grown_trans G7.out hg)
    have K8 : Hid (Mx w8 g2 (Mg.bare 0 0 0)) := Lib.hid (grown_step G7.out hg HB.out l2 K7.out)
    have X8 : Hid (Mx w8 g3 m1) := Lib.hid (grown_step G7.out hg HB.out hl3 X7.out)
    have R8 := Lib.hid hr
    clear hr hg V8 K7 X7 G7 kk
    go_wp2_with (refine wpList_pset rfl _ _ _ rfl g3 67 rfl (vf m.base) rfl (by rw [vf_size]; kernel_rfl) (vf_oneC _) X8.out (by rw [vf_size, mx_size]; omega) ?_)
    intro w9 hw9
    have gq := grown_setCells g3 (vf m.base).toList w8 67
    have xq := X8.out.setBase m.base
    rw [← hw9.out] at gq xq
    have G9 := Lib.hid (grown_onE G8.out gq hl3)
    have K9 : Hid (Mx w9 g2 (Mg.bare 0 0 0)) := Lib.hid ((gq.block _ K8.out.lt (by simpa using h23)).trans K8.out)
    have R9 := Lib.hid (R8.out.under' hBg (grown_below gq (Nat.le_of_lt X8.out.lt) (Nat.le_refl _)))
    obtain ⟨m2, hm2⟩ : ∃ x : Mg, x = { m1 with base := m.base } := ⟨_, rfl⟩
    rw [← hm2] at xq
    have X9 := Lib.hid xq
    have HM2 := Lib.hid hm2
    clear gq xq hm2 hw9 X8 K8 G8 R8
    have EV := Lib.hid (readEvents_live B m.E [] w9 R9.out NE.out.2 NE.out.1 (fun w' hg => HT.out w' (grown_trans G9.out hg)) (by simp))
    go_wp2_with fail
    refine EV.out.mono ?_
    rintro e w10 ⟨v10, ys, rfl, ho, hys, hr, hg⟩
    obtain ⟨p10, c10, rfl, _, _, _⟩ := ho.at
    have ho := OwnE.mk (own_base ho.row G9.out.size) (fun x hx => own_base (ho.gone x hx) G9.out.size)
    have G10 := Lib.hid (grown_trans G9.out hg)
    have K10 : Hid (Mx w10 g2 (Mg.bare 0 0 0)) := Lib.hid (grown_step G9.out hg HB.out l2 K9.out)
    have X10 : Hid (Mx w10 g3 m2) := Lib.hid (grown_step G9.out hg HB.out hl3 X9.out)
    have R10 : Hid (RdA w10 B ([], 0)) := Lib.hid (.inl ⟨rfl, hr⟩)
    have O10 := Lib.hid ho
    clear hr hg ho EV K9 X9 G9 R9
    go_wp2_with (refine wpList_storeSl rfl _ _ _ rfl ⟨g3, 131, none⟩ rfl p10 ys.length c10 rfl (fun w => by kernel_rfl) _ X10.out.parts.evs (frozen_of_row _ g3 131 _ _ X10.out) ?_)
    intro w11 hw11
    have gq := grown_cell w10 g3 131 (.slice p10 ys.length c10)
    have xq := X10.out.setEvs p10 c10 ys
    rw [← hw11.out] at gq xq
    have GE := Lib.hid (grown_onE G10.out gq hl3)
    have KE : Hid (Mx w11 g2 (Mg.bare 0 0 0)) := Lib.hid ((gq.block _ K10.out.lt (by simpa using h23)).trans K10.out)
    have RE := Lib.hid (R10.out.beside gq hBg)
    have OE := Lib.hid (O10.out.off X10.out gq)
    obtain ⟨XX, hXX⟩ : ∃ x : Mg, x = { m2 with ep := p10, ec := c10, E := ys } := ⟨_, rfl⟩
    rw [← hXX] at xq
    have XE : Hid (Mx w11 g3 XX) := Lib.hid xq
    have HXX := Lib.hid hXX
    have EE : Hid (XX.E = ys ∧ XX.ep = p10 ∧ XX.ec = c10) := Lib.hid (by rw [hXX]; exact ⟨rfl, rfl, rfl⟩)
    clear gq xq hw11 hXX X10 K10 G10 R10 O10
    have EQ : Hid (m.Eq XX) := Lib.hid (by
      rw [HXX.out, HM2.out, HM1.out]
      exact ⟨HK.out.symm, HSr.out.symm, HDs.out.symm, veq_self _, veq_self _, hf0, hys.symm, hs0, (List.eq_nil_of_length_eq_zero hL0).symm⟩)
    have EN : Hid (XX.L = []) := Lib.hid (by rw [HXX.out, HM2.out, HM1.out]; rfl)
    have hlen : ys.length = m.E.length := by have := congrArg List.length hys; simpa [evs] using this
    have MY : Hid (mayM XX = true) := Lib.hid (may_mk HM.out EQ.out (by rw [HXX.out, HM2.out, HM1.out]; exact GD.out.1) (by rw [HXX.out, HM2.out]; exact GD.out.2.1) (by rw [HXX.out, HM2.out, HM1.out]; exact good0) (by
      rw [HXX.out, HM2.out, HM1.out]
      unfold kindM noFullM noState Mg.bare
      simp only
      rw [if_neg (by rw [← HK.out]; omega), if_pos (by rw [← HK.out]; exact q2')]
      simp [veq_self]
      omega))
    have WH := Lib.hid XE.out.whole
    clear hs0 hL0 hf0 hys XE HXX hE1 q2' hlen
    go_wp2_with (first | refine wpList_gload rfl _ rfl g3 0 rfl _ WH.out _ Tryz.underlying31 rfl (sizeMg _) ?_ | refine wpList_gstore rfl _ _ rfl g2 rfl XX.cells.toArray rfl _ _ KE.out (sizeMgA _) (by rw [mx_size, mx_size]) (Mg.one' _) ?_)
    intro w99 h99 g99
    have G99 := Lib.hid (grown_onE GE.out g99 l2)
    have R99 := Lib.hid (RE.out.beside g99 hB2)
    have H99 := Lib.hid h99
    have FO : Hid (GotMg w B m (.returned (.agg XX.cells.toArray)) w99) := Lib.hid ⟨XX, rfl, EQ.out, MY.out, (by rw [EE.out.1, EE.out.2.1, EE.out.2.2]; exact OE.out.off KE.out g99), (by rw [EN.out]; exact wrs_nil _ _), R99.out, G99.out⟩
    clear h99 g99 RE GE
    go_wp2
    exact bodyPost_ret (v := .agg XX.cells.toArray) (results_cell_row rfl _ w99 g2 _ _ (0, 0) _ rfl H99.out Tryz.underlying31 rfl (sizeMgA _)) rfl FO.out
  · have e2 : ((k : Int) == 2) = false := by rw [← HK.out, q3]; rfl
    have e3 : ((k : Int) == 3) = true := by rw [← HK.out, q3]; rfl
    have hT0 : T = stB m.seen m.L ++ (vbytes m.floor ++ (evsB m.E ++ [])) := by rw [← HTL.out, if_neg (by omega), if_pos q3, List.append_nil, List.append_assoc]
    have hk := KK.out
    unfold kindM noBaseM at hk
    rw [if_neg (by omega), if_neg (by omega), if_pos q3] at hk
    simp only [Bool.and_eq_true] at hk
    obtain ⟨_, hb0⟩ := hk
    have q3' := q3
    have hcan' := hcan
    have VB := vec_back m.floor GD.out.2.2 (evsB m.E ++ [])
    have pE : 0 < (evsB m.E ++ ([] : List UInt8)).length := by
      unfold evsB
      simp only [List.length_append]
      have : 0 < (Cod.enc m.E.length).length := by rw [Cod.enc_length]; omega
      omega
    have pS : 0 < T.length := by rw [hT0]; simp only [List.length_append] at pE ⊢; omega
    have nF : (vbytes m.floor ++ (evsB m.E ++ [])).length ≤ 20000000 := by rw [hT0, List.length_append] at n4; omega
    have R7' : Rd w7 B (stB m.seen m.L ++ (vbytes m.floor ++ (evsB m.E ++ []))) := by
      have := R7.out.live pS
      rwa [hT0] at this
    have V8 := Lib.hid (readState_live B m.seen m.L (vbytes m.floor ++ (evsB m.E ++ [])) w7 R7' hcan (fun w' hg => HT.out w' (grown_trans G7.out hg)) (by omega))
    have VB := Lib.hid VB; have PE := Lib.hid pE
    clear q3 hT0 pE pS R7 R7' hcan
    go_wp2_with fail
    refine V8.out.mono ?_
    rintro e w8 ⟨p8, c8, rfl, hW8, _, hr, hg⟩
    have G8 := Lib.hid (grown_trans G7.out hg)
    have K8 : Hid (Mx w8 g2 (Mg.bare 0 0 0)) := Lib.hid (grown_step G7.out hg HB.out l2 K7.out)
    have X8 : Hid (Mx w8 g3 m1) := Lib.hid (grown_step G7.out hg HB.out hl3 X7.out)
    have R8 := Lib.hid hr; have W8 := Lib.hid hW8
    clear hr hg hW8 V8 K7 X7 G7 kk
    go_wp2_with (refine wpList_pset rfl _ _ _ rfl g3 132 rfl (scs m.seen (.slice p8 m.L.length c8)) rfl (sizeSt _ _) (scs_one m.seen rfl) X8.out (by rw [scs_size, mx_size]; omega) ?_)
    intro w9 hw9
    have gq := grown_setCells g3 (scs m.seen (.slice p8 m.L.length c8)).toList w8 132
    have xq := X8.out.setSt m.seen p8 c8 m.L
    rw [← hw9.out] at gq xq
    have G9 := Lib.hid (grown_onE G8.out gq hl3)
    have K9 : Hid (Mx w9 g2 (Mg.bare 0 0 0)) := Lib.hid ((gq.block _ K8.out.lt (by simpa using h23)).trans K8.out)
    have R9 := Lib.hid (R8.out.under' hBg (grown_below gq (Nat.le_of_lt X8.out.lt) (Nat.le_refl _)))
    have W9 := Lib.hid (wrs_off W8.out gq X8.out.nostr)
    obtain ⟨m3, hm3⟩ : ∃ x : Mg, x = { m1 with seen := m.seen, sp := p8, sc := c8, L := m.L } := ⟨_, rfl⟩
    rw [← hm3] at xq
    have X9 := Lib.hid xq
    have HM3 := Lib.hid hm3
    clear gq xq hm3 hw9 X8 K8 G8 R8 W8
    have VF : Hid (Calls Tryz.prog 31 #[.pointer (some ⟨B, 0, none⟩)] w9 fun e w' => e = .returned (.agg (vf m.floor)) ∧ Rd w' B (evsB m.E ++ []) ∧ w9.grownBy w' (some B)) := Lib.hid ((vread_is B (vbytes m.floor ++ (evsB m.E ++ []), 0) w9 (.inl ⟨rfl, R9.out⟩) (by show (vbytes m.floor ++ (evsB m.E ++ [])).length ≤ _; omega)).mono fun e w' ⟨h1, h2, h3⟩ => ⟨by rw [h1, vf_congr VB.out.2], by rw [VB.out.1] at h2; exact h2.live PE.out, h3⟩)
    go_wp2_with fail
    refine VF.out.mono ?_
    rintro e w12 ⟨rfl, hr, hg⟩
    have G12 := Lib.hid (grown_trans G9.out hg)
    have K12 : Hid (Mx w12 g2 (Mg.bare 0 0 0)) := Lib.hid (grown_step G9.out hg HB.out l2 K9.out)
    have X12 : Hid (Mx w12 g3 m3) := Lib.hid (grown_step G9.out hg HB.out hl3 X9.out)
    have RA9 : RdA w9 B (vbytes m.floor ++ (evsB m.E ++ []), 0) := .inl ⟨rfl, R9.out⟩
    have W12 := Lib.hid (wrs_off W9.out hg RA9.nostr)
    have R12 := Lib.hid hr
    clear hr hg VF K9 X9 G9 R9 W9 RA9
    go_wp2_with (refine wpList_pset rfl _ _ _ rfl g3 197 rfl (vf m.floor) rfl (by rw [vf_size]; kernel_rfl) (vf_oneC _) X12.out (by rw [vf_size, mx_size]; omega) ?_)
    intro w9 hw9
    have gq := grown_setCells g3 (vf m.floor).toList w12 197
    have xq := X12.out.setFloor m.floor
    rw [← hw9.out] at gq xq
    have G9 := Lib.hid (grown_onE G12.out gq hl3)
    have K9 : Hid (Mx w9 g2 (Mg.bare 0 0 0)) := Lib.hid ((gq.block _ K12.out.lt (by simpa using h23)).trans K12.out)
    have R9 := Lib.hid (R12.out.under' hBg (grown_below gq (Nat.le_of_lt X12.out.lt) (Nat.le_refl _)))
    have W9 := Lib.hid (wrs_off W12.out gq X12.out.nostr)
    obtain ⟨m2, hm2⟩ : ∃ x : Mg, x = { m3 with floor := m.floor } := ⟨_, rfl⟩
    rw [← hm2] at xq
    have X9 := Lib.hid xq
    have HM2 := Lib.hid hm2
    clear gq xq hm2 hw9 X12 K12 G12 R12 W12
    have EV := Lib.hid (readEvents_live B m.E [] w9 R9.out NE.out.2 NE.out.1 (fun w' hg => HT.out w' (grown_trans G9.out hg)) (by simp))
    go_wp2_with fail
    refine EV.out.mono ?_
    rintro e w10 ⟨v10, ys, rfl, ho, hys, hr, hg⟩
    obtain ⟨p10, c10, rfl, _, _, _⟩ := ho.at
    have ho := OwnE.mk (own_base ho.row G9.out.size) (fun x hx => own_base (ho.gone x hx) G9.out.size)
    have G10 := Lib.hid (grown_trans G9.out hg)
    have K10 : Hid (Mx w10 g2 (Mg.bare 0 0 0)) := Lib.hid (grown_step G9.out hg HB.out l2 K9.out)
    have X10 : Hid (Mx w10 g3 m2) := Lib.hid (grown_step G9.out hg HB.out hl3 X9.out)
    have R10 : Hid (RdA w10 B ([], 0)) := Lib.hid (.inl ⟨rfl, hr⟩)
    have O10 := Lib.hid ho
    have RA9 : RdA w9 B (evsB m.E ++ [], 0) := .inl ⟨rfl, R9.out⟩
    have W10 := Lib.hid (wrs_off W9.out hg RA9.nostr)
    clear hr hg ho EV K9 X9 G9 R9
    go_wp2_with (refine wpList_storeSl rfl _ _ _ rfl ⟨g3, 131, none⟩ rfl p10 ys.length c10 rfl (fun w => by kernel_rfl) _ X10.out.parts.evs (frozen_of_row _ g3 131 _ _ X10.out) ?_)
    intro w11 hw11
    have gq := grown_cell w10 g3 131 (.slice p10 ys.length c10)
    have xq := X10.out.setEvs p10 c10 ys
    rw [← hw11.out] at gq xq
    have GE := Lib.hid (grown_onE G10.out gq hl3)
    have KE : Hid (Mx w11 g2 (Mg.bare 0 0 0)) := Lib.hid ((gq.block _ K10.out.lt (by simpa using h23)).trans K10.out)
    have RE := Lib.hid (R10.out.beside gq hBg)
    have OE := Lib.hid (O10.out.off X10.out gq)
    have W11 := Lib.hid (wrs_off W10.out gq X10.out.nostr)
    obtain ⟨XX, hXX⟩ : ∃ x : Mg, x = { m2 with ep := p10, ec := c10, E := ys } := ⟨_, rfl⟩
    rw [← hXX] at xq
    have XE : Hid (Mx w11 g3 XX) := Lib.hid xq
    have HXX := Lib.hid hXX
    have EE : Hid (XX.E = ys ∧ XX.ep = p10 ∧ XX.ec = c10) := Lib.hid (by rw [hXX]; exact ⟨rfl, rfl, rfl⟩)
    clear gq xq hw11 hXX X10 K10 G10 R10 O10
    have EQ : Hid (m.Eq XX) := Lib.hid (by
      rw [HXX.out, HM2.out, HM3.out, HM1.out]
      exact ⟨HK.out.symm, HSr.out.symm, HDs.out.symm, veq_self _, hb0, veq_self _, hys.symm, veq_self _, rfl⟩)
    have EN : Hid (XX.L = m.L ∧ XX.sp = p8) := Lib.hid (by rw [HXX.out, HM2.out, HM3.out]; exact ⟨rfl, rfl⟩)
    have MY : Hid (mayM XX = true) := Lib.hid (may_mk HM.out EQ.out (by rw [HXX.out, HM2.out, HM3.out, HM1.out]; exact GD.out.1) (by rw [HXX.out, HM2.out, HM3.out, HM1.out]; exact good0) (by rw [HXX.out, HM2.out]; exact GD.out.2.2) (by
      rw [HXX.out, HM2.out, HM3.out, HM1.out]
      unfold kindM noBaseM Mg.bare
      simp only
      rw [if_neg (by rw [← HK.out]; omega), if_neg (by rw [← HK.out]; omega), if_pos (by rw [← HK.out]; exact q3')]
      simp [veq_self, hcan']))
    have WH := Lib.hid XE.out.whole
    clear hb0 hys XE HXX q3' hcan'
    go_wp2_with (first | refine wpList_gload rfl _ rfl g3 0 rfl _ WH.out _ Tryz.underlying31 rfl (sizeMg _) ?_ | refine wpList_gstore rfl _ _ rfl g2 rfl XX.cells.toArray rfl _ _ KE.out (sizeMgA _) (by rw [mx_size, mx_size]) (Mg.one' _) ?_)
    intro w99 h99 g99
    have G99 := Lib.hid (grown_onE GE.out g99 l2)
    have R99 := Lib.hid (RE.out.beside g99 hB2)
    have H99 := Lib.hid h99
    have FO : Hid (GotMg w B m (.returned (.agg XX.cells.toArray)) w99) := Lib.hid ⟨XX, rfl, EQ.out, MY.out, (by rw [EE.out.1, EE.out.2.1, EE.out.2.2]; exact OE.out.off KE.out g99), (by rw [EN.out.1, EN.out.2]; exact wrs_off W11.out g99 KE.out.nostr), R99.out, G99.out⟩
    clear h99 g99 RE GE
    go_wp2
    exact bodyPost_ret (v := .agg XX.cells.toArray) (results_cell_row rfl _ w99 g2 _ _ (0, 0) _ rfl H99.out Tryz.underlying31 rfl (sizeMgA _)) rfl FO.out
end Go.Proofs.YtapmbankpbiglaaGreatDoor
/- The example that each law of layer 14 ends with. -/
namespace Go.Proofs.YtapmbankpbiglaaGreatDoor
open Go Go.RowKit
set_option linter.unusedVariables false
set_option maxRecDepth 1000000

theorem veq0 : veq (fun _ => 0) (fun _ => 0) = true := veq_self _
theorem may_bare : mayM (Mg.bare 1 0 1) = true := by
  have h1 : goM (Mg.bare 1 0 1) = true := by
    unfold goM Mg.bare
    simp only [good0]
    decide
  have h2 : haveM (Mg.bare 1 0 1) = true := by unfold haveM Mg.bare; rfl
  have h3 : kindM (Mg.bare 1 0 1) = true := by
    unfold kindM noBaseM noFullM noState Mg.bare
    simp only [veq0]
    rfl
  unfold mayM
  rw [h1, h2, h3]; rfl
theorem vbytes0 : vbytes (fun _ => 0) = [0] := by decide +kernel
theorem bytes_bare : mgB (Mg.bare 1 0 1) = [1, 0, 1, 0] := by
  unfold mgB Mg.bare
  simp only [vbytes0]
  rfl
set_option maxHeartbeats 8000000 in
theorem awake14 (w : World) (hS : Shapes w) (hT : Table w) : Calls Tryz.prog 4 #[] w (Yes w) := by
  have HS := Lib.hid hS; have HT := Lib.hid hT
  clear hS hT
  have EN := Lib.hid (encode_is (Mg.bare 1 0 1) w (evs_nil _ _) (wrs_nil _ _) HS.out HT.out)
  go_enter Tryz.func4, Tryz.ntmps4
  go_wp2_with (refine wpList_pbuild (by rfl) _ rfl (Mg.bare 1 0 1).cells.toArray (by simp only [List.map_toArray, List.map_cons, List.map_nil]; exact builtMg1 _) ?_)
  refine EN.out.mono ?_
  intro e w2 hr
  rcases hr with ⟨_, p2, c2, rfl, ho2, hb2⟩ | ⟨hf, _⟩
  · rw [bytes_bare] at ho2 ⊢
    have B2 := Lib.hid hb2
    obtain ⟨_, p', c', hv, _, _, lies2, _⟩ := own_lies ho2
    simp only [Value.slice.injEq] at hv
    obtain ⟨rfl, -, rfl⟩ := hv
    have L2 := Lib.hid lies2
    clear ho2 hb2 EN lies2
    obtain ⟨LS, hLS⟩ : ∃ X, sealed [1, 0, 1, 0] = X := ⟨_, rfl⟩
    have NS : LS.length = 8 := by rw [← hLS]; rfl
    rw [hLS] at L2 ⊢
    have HLS := Lib.hid hLS
    clear hLS
    go_wp2_with fail
    refine (seal2_any _ _ [1, 0, 1, 0] _ (lies_lit _ _ _ [1, 0, 1, 0] _ rfl) (fun e => by cases e) (by decide)).mono ?_
    rw [HLS.out]
    rintro e w3 hr3
    obtain ⟨p3, c3, rfl, le3, _, n3, lies3, b3⟩ := hr3
    have al : Below w2.heap.size w2 (w2.alloc (.cells (bys [1, 0, 1, 0]).toArray 5)) := (Below.refl _ _).alloc (Nat.le_refl _) _
    have B3 := Lib.hid (thenBelow (thenBelow B2.out al) b3)
    have L3 := Lib.hid (L2.out.below (thenBelow al b3))
    have M3 := Lib.hid lies3
    clear al b3 lies3
    go_wp2_with fail
    refine (equal_any p2 p3 8 8 c2 c3 LS LS w3 L3.out M3.out NS.symm NS.symm).mono ?_
    rintro e w' ⟨rfl, rfl⟩
    have hbe : (LS == LS) = true := beq_self_eq_true _
    rw [hbe]
    go_wp2
    go_ret
    exact ⟨rfl, B3.out⟩
  · rw [may_bare] at hf; cases hf
end Go.Proofs.YtapmbankpbiglaaGreatDoor
/- wire.Same of any two messages. -/
namespace Go.Proofs.YtapmbankpbiglaaGreatDoor
open Go Go.RowKit
set_option linter.unusedVariables false
set_option maxRecDepth 1000000

/-- are two messages the same? -/
structure Mg.Same (m x : Mg) : Prop where
  kind : m.kind = x.kind
  src : m.src = x.src
  dst : m.dst = x.dst
  ack : veq m.ack x.ack = true
  base : veq m.base x.base = true
  floor : veq m.floor x.floor = true
  evs : evs m.E = evs x.E
  st : sameB m.seen x.seen m.L x.L = true
end Go.Proofs.YtapmbankpbiglaaGreatDoor
