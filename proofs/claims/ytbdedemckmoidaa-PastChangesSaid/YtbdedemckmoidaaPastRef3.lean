/- the document's past: puts, Collect, Trim. -/
import Derived.Test.YtbdedemckmoidaaPastRef2
namespace Go.Proofs.Ytbdedemckmoidaa
open Go Go.RowKit
set_option linter.unusedVariables false

theorem rest_take (L : List EvP) (j : Nat) (h : j < L.length) : restOf' (evs (L.take (j + 1))) = restOf' (evs (L.take j)) + (if L[j].e.kind = 2 then 0 else 1) := by
  rw [List.take_add_one, List.getElem?_eq_getElem h, evs, List.map_append]
  rw [rest_append]
  simp only [restOf', evs, Ev.isDrop, Option.toList, List.map_cons, List.map_nil, List.countP_cons, List.countP_nil]
  split <;> simp_all
theorem rest_drop (L : List EvP) (j : Nat) (h : j < L.length) : restOf' (evs (L.drop j)) = restOf' (evs (L.drop (j + 1))) + (if L[j].e.kind = 2 then 0 else 1) := by
  rw [List.drop_eq_getElem_cons h]
  simp only [restOf', evs, Ev.isDrop, List.map_cons, List.countP_cons]
  split <;> simp_all
theorem EvsAt.drop {w : World} {b o : Nat} {L : List EvP} (h : EvsAt w (some ⟨b, o, Option.none⟩) L) (i : Nat) : EvsAt w (some ⟨b, o + i * 8, Option.none⟩) (L.drop i) :=
  ⟨fun hn => by
    have h1 : L ≠ [] := fun e => hn (by simp [e])
    obtain ⟨b', o', e1, hr⟩ := h.row h1
    injection e1 with e1
    injection e1 with e1 e2 _
    subst e1; subst e2
    refine ⟨_, _, rfl, fun j u hu => ?_⟩
    have h2 : i < L.length := by
      rcases Nat.lt_or_ge i L.length with h3 | h3
      · exact h3
      · exact absurd (List.drop_eq_nil_of_le h3) hn
    have hs : ecl L = ecl (L.take i) ++ ecl (L.drop i) := by rw [← ecl_append, List.take_append_drop]
    have hl : (ecl (L.take i)).length = i * 8 := by rw [ecl_length, List.length_take]; rw [Nat.min_eq_left (by omega)]
    have := hr (i * 8 + j) u (by rw [hs, List.getElem?_append_right (by omega), hl, Nat.add_sub_cancel_left]; exact hu)
    rw [Nat.add_assoc]; exact this, fun x hx => h.ok x (List.mem_of_mem_drop hx), fun e => by cases e⟩
set_option maxHeartbeats 4000000 in
set_option maxRecDepth 100000 in
theorem refPuts_is (p : Option Addr) (c : Nat) (L : List EvP) (w : World) (h : EvsAt w p L) (hn : L.length ≤ 1000) :
    Calls Try.prog 32 #[.slice p L.length c] w fun e w' => e = .returned (.int .i64 (restOf' (evs L) : Nat)) ∧ Below w.heap.size w w' := by
  have E1 := Lib.hid h
  clear h
  go_enter Try.func32, Try.ntmps32
  go_wp2
  go_loopw [3, 8] (fun n i wr => ∃ j : Nat, j ≤ L.length ∧ n = .int .i64 (restOf' (evs (L.take j)) : Nat) ∧ i = .int .i64 j ∧ Below w.heap.size w wr) (fun _ i _ => L.length - (intOf i).toNat)
  case atStart => exact ⟨0, Nat.zero_le _, rfl, rfl, Below.refl _ _⟩
  case round =>
    obtain ⟨j, hj, rfl, rfl, hb⟩ := hrel
    have BB := Lib.hid hb
    by_cases hjl : j < L.length
    · have hjl' : (j : Int) < L.length := by omega
      obtain ⟨b, o, rfl, hlt, hr⟩ := E1.out.at hjl
      have hr2 := range_below (w := w) hr hb
      obtain ⟨c0, c1, c2, c3, c4, c5, c6, c7⟩ := ev_cells hr2
      have DT := Lib.hid (rest_take L j hjl)
      have hdl : restOf' (evs (L.take j)) ≤ j := by
        have h1 := drops_rest (evs (L.take j))
        have h2 : (evs (L.take j)).length = j := by rw [evs, List.length_map, List.length_take]; omega
        omega
      clear hb hr hr2 hlt
      obtain ⟨y, hy⟩ : ∃ y, L[j] = y := ⟨_, rfl⟩
      rw [hy] at c0 c1 c2 c3 c4 c5 c6 c7 DT
      clear hy
      generalize restOf' (evs (L.take j)) = m at hdl DT
      obtain ⟨⟨r, n, t, kd, d, fl, tx, gn⟩, gp, gc⟩ := y
      simp only at c0 c1 c2 c3 c4 c5 c6 c7 DT
      have B3 := Lib.hid (BB.out.alloc BB.out.size (.cells #[.int .i64 r, .int .i64 n, .int .i64 t, .int .i64 kd, .string d, .int .i64 fl, .string tx, .slice gp gn.length gc] 31))
      by_cases hk : kd = 2
      · have D2 : Hid (restOf' (evs (L.take (j + 1))) = m) := by rw [DT.out, if_pos hk]; exact Lib.hid rfl
        clear DT
        subst hk
        go_wp2
        go_roundw
        case rel => exact ⟨j + 1, by omega, by rw [D2.out], by go_num, by simpa using B3.out⟩
        case measure => simp [intOf]; omega
      · have D2 : Hid (restOf' (evs (L.take (j + 1))) = m + 1) := by rw [DT.out, if_neg hk]; exact Lib.hid rfl
        clear DT
        go_wp2
        go_roundw
        case rel => exact ⟨j + 1, by omega, by rw [D2.out]; go_num, by go_num, by simpa using B3.out⟩
        case measure => simp [intOf]; omega
    · obtain rfl : j = L.length := by omega
      have hjl' : ¬ ((L.length : Nat) : Int) < L.length := by omega
      rw [List.take_length]
      go_wp2
      go_ret
      exact ⟨rfl, BB.out⟩
set_option maxHeartbeats 20000000 in
set_option maxRecDepth 1000000 in
theorem refColl_is (p : Option Addr) (c : Nat) (L : List EvP) (f v : Nat → Int) (w : World) (h : EvsAt w p L) (hn : L.length ≤ 400) :
    Calls Try.prog 15 #[.agg (pcs (.slice p L.length c) f), .agg (vf v)] w (PastS w L (collOf (evs L) f v).2.1 (collOf (evs L) f v).2.2) := by
  have EV := Lib.hid h
  clear h
  go_enter Try.func15, Try.ntmps15
  go_wp2_with (refine wpList_gbox rfl _ rfl (pcs (.slice p L.length c) f) rfl ?_)
  intro g2 w1 lg2 hg2 hb1
  have B1 := Lib.hid hb1
  have P2 : Hid (Px w1 g2 (.slice p L.length c) f) := Lib.hid hg2
  clear hg2 hb1
  go_wp2_with (refine wpList_vbox vecI rfl _ rfl v rfl ?_)
  intro A wA lA rv hbA
  have BA := Lib.hid (thenBelow B1.out hbA); have RVA := Lib.hid rv
  have PA := Lib.hid (P2.out.later hbA)
  have hwA : w.heap.size ≤ A := Nat.le_trans B1.out.size lA
  clear rv hbA
  go_wp2_with (refine wpList_galloc _ zeroP rfl rfl ?_)
  intro g4 w2 lg4 hg4 hb2
  have B2 := Lib.hid (thenBelow BA.out hb2)
  have P22 := Lib.hid (PA.out.later hb2)
  have P4 : Hid (Px w2 g4 (.slice none 0 0) fun _ => 0) := Lib.hid hg4
  have RV2 := Lib.hid (RVA.out.later hb2)
  clear hg4 hb2 P2 PA
  go_wp2_with (first | refine wpList_gload rfl _ rfl g2 1 rfl (vf f).toList P22.out.floor _ Try.underlying24 rfl (sizeVcl f) ?_ | refine wpList_pbuild (by rfl) _ rfl (pcs (.slice none 0 0) f) (by simp only [List.map_toArray, List.map_cons, List.map_nil]; exact builtP f _) ?_ | refine wpList_galloc _ zeroP rfl rfl ?_)
  intro g5 w3 lg5 hg5 hb3
  have B3 := Lib.hid (thenBelow B2.out hb3)
  have P23 := Lib.hid (P22.out.later hb3); have P43 := Lib.hid (P4.out.later hb3)
  have h25 : g2 < g5 := Nat.lt_of_lt_of_le P22.out.lt lg5
  have h45 : g4 < g5 := Nat.lt_of_lt_of_le P4.out.lt lg5
  have hw4 : w.heap.size ≤ g4 := Nat.le_trans BA.out.size lg4
  have hw5 : w.heap.size ≤ g5 := Nat.le_trans B2.out.size lg5
  have RV3 := Lib.hid (RV2.out.later hb3)
  have hA5 : A < g5 := Nat.lt_of_lt_of_le RV2.out.lt lg5
  clear hb3 P22 P4
  go_wp2_with (refine wpList_gstore rfl _ _ rfl g5 rfl (pcs (.slice none 0 0) f) rfl _ _ hg5 (sizeP _ _) (by rw [pcs_size]; rfl) (pcs_oneV f ⟨_, _, _, rfl⟩) ?_)
  intro w5 hp5 hgr5
  have B5 := Lib.hid (B3.out.trans (grown_below hgr5 B3.out.size hw5))
  have P25 := Lib.hid (P23.out.kept hgr5 (by simp; omega)); have P45 := Lib.hid (P43.out.kept hgr5 (by simp; omega))
  have P55 : Hid (Px w5 g5 (.slice none 0 0) f) := Lib.hid hp5
  have s0 := P25.out.slot
  have h45' := P45.out.lt
  have h55' := P55.out.lt
  have h25' := P25.out.lt
  have RV5 : Hid (Row w5 A 24 v) := Lib.hid (RV3.out.kept hgr5 (by simp; omega))
  have hA5l := RV5.out.lt
  clear hg5 hp5 hgr5 P23 P43
  go_wp2_with fail
  clear s0
  have TK0 := Lib.hid (fun (r n : Int) (U : World) => refHas_is v r n U)
  go_loopw [14] (fun i wr => ∃ (j : Nat) (v' : Value) (K : List EvP), j ≤ L.length ∧ i = .int .i64 j ∧ Px wr g5 v' (wRun (collGoes v) collNext () f (evs (L.take j))).2.2 ∧ evs K = (wRun (collGoes v) collNext () f (evs (L.take j))).2.1 ∧ 
      wr.ownsRow w5.heap.size 31 8 v' K.length (ecl K) ∧ (∀ x ∈ K, x ∈ L) ∧ Two g5 g5 w5 wr) (fun i _ => L.length - (intOf i).toNat)
  case atStart => exact ⟨0, .slice none 0 0, [], Nat.zero_le _, rfl, P55.out, rfl, ⟨rfl, .inl ⟨rfl, rfl⟩⟩, fun x hx => by simp at hx, Two.refl _ _ _⟩
  case round =>
    obtain ⟨j, v', K, hj, rfl, hpx, hevK, hown, hmem, htwo⟩ := hrel
    have hKl : K.length ≤ j := by
      have h1 : (evs K).length = K.length := by simp [evs]
      rw [hevK] at h1
      have h2 := wRun_len (collGoes v) collNext (evs (L.take j)) ((), [], f)
      have h3 : (evs (L.take j)).length = j := by rw [evs, List.length_map, List.length_take]; omega
      change (wRun (collGoes v) collNext () f (evs (L.take j))).2.1.length ≤ 0 + _ at h2
      omega
    have BWr : Hid (Below w.heap.size w wr) := Lib.hid ⟨htwo.os.trans B5.out.os, htwo.tape.trans B5.out.tape, htwo.output.trans B5.out.output, Nat.le_trans B5.out.size htwo.size, fun k hk => (htwo.block k (Nat.lt_of_lt_of_le hk B5.out.size) (by omega) (by omega)).trans (B5.out.block k hk)⟩
    have PX := Lib.hid hpx; have HEK := Lib.hid hevK; have OO := Lib.hid hown; have HMM := Lib.hid hmem; have TW := Lib.hid htwo
    have HA := TK0
    clear hpx hevK hown hmem htwo
    by_cases hjl : j < L.length
    · have hjl' : (j : Int) < L.length := by omega
      have EVr := EV.out.below BWr.out
      obtain ⟨b, o, rfl, hlt, hr⟩ := EVr.at hjl
      obtain ⟨c0, c1, c2, c3, c4, c5, c6, c7⟩ := ev_cells hr
      have TKS := Lib.hid (evs_take_succ L j hjl)
      have hxm := Lib.hid (List.getElem_mem hjl)
      clear hr EVr
      obtain ⟨y, hy⟩ : ∃ y, L[j] = y := ⟨_, rfl⟩
      rw [hy] at c0 c1 c2 c3 c4 c5 c6 c7 TKS hxm
      clear hy
      have SN := Lib.hid (wRun_snoc (collGoes v) collNext () f (evs (L.take j)) y.e)
      rw [← TKS.out] at SN
      clear TKS
      obtain ⟨⟨s1, l1, f1⟩, hst⟩ : ∃ st, wRun (collGoes v) collNext () f (evs (L.take j)) = st := ⟨_, rfl⟩
      rw [hst] at PX HEK SN
      clear hst
      simp only at PX HEK
      obtain ⟨S2, hS2⟩ : ∃ st, wRun (collGoes v) collNext () f (evs (L.take (j + 1))) = st := ⟨_, rfl⟩
      have HS2 := Lib.hid hS2
      rw [hS2] at SN
      clear hS2
      have hvs := own_slice OO.out
      have D6 := Lib.hid (heap_alloc_new wr (.cells y.cells.toArray 31))
      have b6 : Below wr.heap.size wr (wr.alloc (.cells y.cells.toArray 31)) := below_alloc _ _
      have B6 := Lib.hid b6
      have PX6 := Lib.hid (PX.out.later b6); have OO6 := Lib.hid (own_later OO.out b6); have TW6 := Lib.hid (TW.out.below b6)
      have h7 : w5.heap.size ≤ wr.heap.size := TW.out.size
      have RV6 : Hid (Row (wr.alloc (.cells y.cells.toArray 31)) A 24 v) := Lib.hid (((B6.out.block A (by omega)).trans (TW.out.block A hA5l (by omega) (by omega))).trans RV5.out)
      clear b6 PX OO
      obtain ⟨⟨r, n, t, kd, d, fl, tx, gn⟩, gp, gc⟩ := y
      simp only at c0 c1 c2 c3 c4 c5 c6 c7
      simp only [EvP.cells] at D6 PX6 OO6 TW6 B6 RV6
      have d0 := (cell_of_row _ wr.heap.size 0 _ _ _ D6.out).trans (show _ = some (Value.int .i64 r) from rfl)
      have d1 := (cell_of_row _ wr.heap.size 1 _ _ _ D6.out).trans (show _ = some (Value.int .i64 n) from rfl)
      go_wp2_with (refine wpList_gload rfl _ rfl A 0 rfl (vf v).toList RV6.out.range _ Try.underlying24 rfl (sizeVcl v) ?_)
      refine (HA.out r n _).mono ?_
      rintro e w7 ⟨rfl, hb7⟩
      have P7 := Lib.hid (PX6.out.later hb7); have O7 := Lib.hid (own_later OO6.out hb7); have T7 := Lib.hid (TW6.out.below hb7)
      have D7 := Lib.hid ((hb7.block _ (Array.getElem?_eq_some_iff.1 D6.out).1).trans D6.out)
      clear hb7 PX6 OO6 TW6 D6 d0 d1 c0 c1 c2 c3 c4 c5 c6 c7
      have d0 := (cell_of_row w7 wr.heap.size 0 _ _ _ D7.out).trans (show _ = some (Value.int .i64 r) from rfl)
      have d1 := (cell_of_row w7 wr.heap.size 1 _ _ _ D7.out).trans (show _ = some (Value.int .i64 n) from rfl)
      cases hgo : hasB v r n with
      | true =>
        have hgo : collGoes v s1 ⟨r, n, t, kd, d, fl, tx, gn⟩ = true := hgo
        have SE : Hid (S2 = ((), l1, withF f1 r n)) := Lib.hid (by rw [SN.out]; exact if_pos hgo)
        have WI := Lib.hid (refWith_is f1 r n w7)
        clear SN hgo
        go_wp2_with (refine wpList_gload rfl _ rfl g5 1 rfl (vf f1).toList P7.out.floor _ Try.underlying24 rfl (sizeVcl f1) ?_)
        refine WI.out.mono ?_
        rintro e w8 ⟨rfl, hb8⟩
        have P8 := Lib.hid (P7.out.later hb8); have O8 := Lib.hid (own_later O7.out hb8); have T8 := Lib.hid (T7.out.below hb8)
        clear hb8 WI P7 O7 T7 d0 d1 D7
        go_wp2_with (refine wpList_floor rfl _ _ rfl g5 rfl (withF f1 r n) rfl v' f1 P8.out ?_)
        intro w9 p9 g9
        have P9 := Lib.hid p9
        have O9 := Lib.hid (own_grown O8.out g9 (by omega))
        have T9 := Lib.hid (T8.out.step g9 (fun k hk => .inl (Option.some.inj hk).symm))
        clear g9 p9 P8 O8 T8
        go_wp2
        go_roundw
        case rel => exact ⟨j + 1, v', K, by omega, by go_num, by rw [HS2.out, SE.out]; simpa using P9.out, by rw [HS2.out, SE.out]; exact HEK.out, by simpa using O9.out, HMM.out, by simpa using T9.out⟩
        case measure => simp [intOf]; omega
      | false =>
        have hgo : ¬ collGoes v s1 ⟨r, n, t, kd, d, fl, tx, gn⟩ = true := fun e => by rw [show collGoes v s1 ⟨r, n, t, kd, d, fl, tx, gn⟩ = hasB v r n from rfl, hgo] at e; cases e
        have SE : Hid (S2 = ((), l1 ++ [⟨r, n, t, kd, d, fl, tx, gn⟩], f1)) := Lib.hid (by rw [SN.out]; exact if_neg hgo)
        obtain ⟨qk, ck, rfl⟩ := hvs
        have d2 := (cell_of_row w7 wr.heap.size 2 _ _ _ D7.out).trans (show _ = some (Value.int .i64 t) from rfl)
        have d3 := (cell_of_row w7 wr.heap.size 3 _ _ _ D7.out).trans (show _ = some (Value.int .i64 kd) from rfl)
        have d4 := (cell_of_row w7 wr.heap.size 4 _ _ _ D7.out).trans (show _ = some (Value.string d) from rfl)
        have d5 := (cell_of_row w7 wr.heap.size 5 _ _ _ D7.out).trans (show _ = some (Value.int .i64 fl) from rfl)
        have d6 := (cell_of_row w7 wr.heap.size 6 _ _ _ D7.out).trans (show _ = some (Value.string tx) from rfl)
        have d7 := (cell_of_row w7 wr.heap.size 7 _ _ _ D7.out).trans (show _ = some (Value.slice gp gn.length gc) from rfl)
        have s7 := P7.out.slot
        have hz7 := T7.out.size
        clear SN hgo
        go_wp2_with (at_builtin; refine wpList_ev w7 rfl _ _ rfl w5.heap.size K.length (ecl K) (.slice qk K.length ck) rfl O7.out ⟨⟨r, n, t, kd, d, fl, tx, gn⟩, gp, gc⟩ rfl (by omega) hz7 ?_)
        intro v8 w8 o8 g8
        obtain ⟨q8, c8, rfl⟩ := own_slice o8
        have hvb : ∀ k, (Value.slice qk K.length ck).ownBlock = some k → w5.heap.size ≤ k := fun k hk => (O7.out.lt k hk).1
        have P8 := Lib.hid (P7.out.kept g8 (fun e => by have := hvb g5 e.symm; omega))
        have O8 := Lib.hid o8
        have T8 := Lib.hid (T7.out.step g8 (fun k hk => .inr (.inr (hvb k hk))))
        have s8 := P8.out.slot
        have f8 := P8.out.free 0
        have P9 := Lib.hid (P8.out.setSlot (.slice q8 (K.length + 1) c8))
        have g9 := grown_cell w8 g5 0 (.slice q8 (K.length + 1) c8)
        have O9 := Lib.hid (own_grown O8.out g9 (by omega))
        have T9 := Lib.hid (T8.out.step g9 (fun k hk => .inl (Option.some.inj hk).symm))
        clear g8 g9 o8 d0 d1 d2 d3 d4 d5 d6 d7 s7 P7 O7 T7 D7 hvb
        go_wp2_with fail
        generalize w8.setCell ⟨g5, 0, none⟩ (.slice q8 (K.length + 1) c8) = w9 at P9 O9 T9 ⊢
        clear s8 f8 P8 O8 T8
        go_roundw
        case rel =>
          refine ⟨j + 1, _, K ++ [⟨⟨r, n, t, kd, d, fl, tx, gn⟩, gp, gc⟩], by omega, by go_num, by rw [HS2.out, SE.out]; exact P9.out, by rw [HS2.out, SE.out]; simp only [evs, List.map_append, List.map_cons, List.map_nil]; rw [← HEK.out]; rfl, ?_, ?_, by simpa using T9.out⟩
          · rw [List.length_append, ecl_append]
            simpa [ecl] using O9.out
          · intro x hx
            rcases List.mem_append.1 hx with h | h
            · exact HMM.out x h
            · obtain rfl := List.mem_singleton.1 h
              exact hxm.out
        case measure => simp [intOf]; omega

    · obtain rfl : j = L.length := by omega
      have hjl' : ¬ ((L.length : Nat) : Int) < L.length := by omega
      rw [List.take_length] at PX HEK
      have P4r : Hid (Px wr g4 (.slice none 0 0) fun _ => 0) := Lib.hid ((TW.out.block g4 h45' (by omega) (by omega)).trans P45.out)
      obtain ⟨fz, hfz⟩ : ∃ fz, (wRun (collGoes v) collNext () f (evs L)).2.2 = fz := ⟨_, rfl⟩
      rw [hfz] at PX
      have HFZ := Lib.hid hfz
      clear hfz
      have hvs : ∃ p n c, v' = .slice p n c := by
        obtain ⟨p, c, h⟩ := own_slice OO.out
        exact ⟨p, _, c, h⟩
      go_wp2_with (first | refine wpList_gload rfl _ rfl g5 0 rfl (pcs v' fz).toList PX.out.whole _ Try.underlying26 rfl (sizePl v' fz) ?_ | refine wpList_gstore rfl _ _ rfl g4 rfl (pcs v' fz) rfl _ _ P4r.out (sizeP _ _) (by rw [pcs_size, pcs_size]) (pcs_oneV fz hvs) ?_)
      intro w9 p9 g9
      have O9 := own_grown OO.out g9 (by omega)
      go_wp2
      refine past_ret rfl rfl rfl p9 ⟨v', K, by rw [show (collOf (evs L) f v).2.2 = fz from HFZ.out], own_base O9 B5.out.size, HMM.out, HEK.out, BWr.out.trans (grown_below g9 BWr.out.size hw4)⟩
end Go.Proofs.Ytbdedemckmoidaa
