/- the document's past: Trim. -/
import Derived.Test.YtbdedemckmoidaaPastRef3
namespace Go.Proofs.Ytbdedemckmoidaa
open Go Go.RowKit
set_option linter.unusedVariables false

/-- how far the trimming is: so many go yet -/
def TrimI (rest : Nat) (X a : Int) : Prop := a = rest - X ∨ (a ≤ 0 ∧ (rest : Int) ≤ X)
theorem trimI_goes {rest : Nat} {X a : Int} (h : TrimI rest X a) : 0 < a ↔ (rest : Int) > X := by
  unfold TrimI at h; omega
theorem trimI_more {rest : Nat} {X a : Int} (h : TrimI (rest + 1) X a) (h0 : 0 < a) : TrimI rest X (a - 1) := by
  unfold TrimI at h ⊢; omega
theorem trimI_less {rest : Nat} {X a : Int} (h : TrimI (rest + 1) X a) (h0 : ¬ 0 < a) : TrimI rest X a := by
  unfold TrimI at h ⊢; omega
set_option maxHeartbeats 20000000 in
set_option maxRecDepth 1000000 in
theorem refTrim_is (p : Option Addr) (c : Nat) (L : List EvP) (f : Nat → Int) (most : Int) (w : World) (h : EvsAt w p L) (hn : L.length ≤ 400) (hlc : L.length ≤ c) :
    Calls Try.prog 13 #[.agg (pcs (.slice p L.length c) f), .int .i64 most] w (PastS w L (trimOf (evs L) f most).2.1 (trimOf (evs L) f most).2.2) := by
  have EV := Lib.hid h
  clear h
  obtain ⟨X, hX⟩ : ∃ X, max most 0 = X := ⟨_, rfl⟩
  obtain ⟨R, hR⟩ : ∃ R, ((evs L).length : Int) - dropsOf (evs L) - X = R := ⟨_, rfl⟩
  have hT0 : trimOf (evs L) f most = wRun trimGoes trimNext R f (evs L) := by rw [trimOf, hX, hR]
  have HR0 : Hid (TrimI (restOf' (evs L)) X R) := Lib.hid (.inl (by have := drops_rest (evs L); omega))
  have HX := Lib.hid hX
  rw [hT0]
  clear hT0 hX hR
  go_enter Try.func13, Try.ntmps13
  go_wp2_with (refine wpList_gbox rfl _ rfl (pcs (.slice p L.length c) f) rfl ?_)
  intro g2 w1 lg2 hg2 hb1
  have B1 := Lib.hid hb1
  have P2 : Hid (Px w1 g2 (.slice p L.length c) f) := Lib.hid hg2
  clear hg2 hb1
  have BA := B1; have PA := P2
  go_wp2_with (refine wpList_galloc _ zeroP rfl rfl ?_)
  intro g4 w2 lg4 hg4 hb2
  have B2 := Lib.hid (thenBelow BA.out hb2)
  have P22 := Lib.hid (PA.out.later hb2)
  have P4 : Hid (Px w2 g4 (.slice none 0 0) fun _ => 0) := Lib.hid hg4
  clear hg4 hb2 P2 PA
  go_wp2_with (first | refine wpList_gload rfl _ rfl g2 1 rfl (vf f).toList P22.out.floor _ Try.underlying24 rfl (sizeVcl f) ?_ | refine wpList_pbuild (by rfl) _ rfl (pcs (.slice none 0 0) f) (by simp only [List.map_toArray, List.map_cons, List.map_nil]; exact builtP f _) ?_ | refine wpList_galloc _ zeroP rfl rfl ?_)
  intro g5 w3 lg5 hg5 hb3
  have B3 := Lib.hid (thenBelow B2.out hb3)
  have P23 := Lib.hid (P22.out.later hb3); have P43 := Lib.hid (P4.out.later hb3)
  have h25 : g2 < g5 := Nat.lt_of_lt_of_le P22.out.lt lg5
  have h45 : g4 < g5 := Nat.lt_of_lt_of_le P4.out.lt lg5
  have hw4 : w.heap.size ≤ g4 := Nat.le_trans BA.out.size lg4
  have hw5 : w.heap.size ≤ g5 := Nat.le_trans B2.out.size lg5
  clear hb3 P22 P4
  go_wp2_with (refine wpList_gstore rfl _ _ rfl g5 rfl (pcs (.slice none 0 0) f) rfl _ _ hg5 (sizeP _ _) (by rw [pcs_size]; rfl) (pcs_oneV f ⟨_, _, _, rfl⟩) ?_)
  intro w5 hp5 hgr5
  have B5 := Lib.hid (B3.out.trans (grown_below hgr5 B3.out.size hw5))
  have P25 := Lib.hid (P23.out.kept hgr5 (by simp; omega)); have P45 := Lib.hid (P43.out.kept hgr5 (by simp; omega))
  have P55 : Hid (Px w5 g5 (.slice none 0 0) f) := Lib.hid hp5
  have s0 := P25.out.slot
  have h45' := P45.out.lt
  have h55' := P55.out.lt
  have h25' := P25.out.lt
  clear hg5 hp5 hgr5 P23 P43
  go_wp2_with fail
  clear s0
  have TK0 := Lib.hid (fun (U : World) (b o j : Nat) (h : EvsAt U (some ⟨b, o, none⟩) L) => refPuts_is (some ⟨b, o + j * 8, none⟩) (c - j) (L.drop j) U (h.drop j) (by rw [List.length_drop]; omega))
  go_loopw [14] (fun i wr => ∃ (j : Nat) (v' : Value) (K : List EvP), j ≤ L.length ∧ i = .int .i64 j ∧ Px wr g5 v' (wRun trimGoes trimNext R f (evs (L.take j))).2.2 ∧ evs K = (wRun trimGoes trimNext R f (evs (L.take j))).2.1 ∧ TrimI (restOf' (evs (L.drop j))) X (wRun trimGoes trimNext R f (evs (L.take j))).1 ∧
      wr.ownsRow w5.heap.size 31 8 v' K.length (ecl K) ∧ (∀ x ∈ K, x ∈ L) ∧ Two g5 g5 w5 wr) (fun i _ => L.length - (intOf i).toNat)
  case atStart => exact ⟨0, .slice none 0 0, [], Nat.zero_le _, rfl, P55.out, rfl, HR0.out, ⟨rfl, .inl ⟨rfl, rfl⟩⟩, fun x hx => by simp at hx, Two.refl _ _ _⟩
  case round =>
    obtain ⟨j, v', K, hj, rfl, hpx, hevK, hinv, hown, hmem, htwo⟩ := hrel
    have hKl : K.length ≤ j := by
      have h1 : (evs K).length = K.length := by simp [evs]
      rw [hevK] at h1
      have h2 := wRun_len trimGoes trimNext (evs (L.take j)) (R, [], f)
      have h3 : (evs (L.take j)).length = j := by rw [evs, List.length_map, List.length_take]; omega
      change (wRun trimGoes trimNext R f (evs (L.take j))).2.1.length ≤ 0 + _ at h2
      omega
    have BWr : Hid (Below w.heap.size w wr) := Lib.hid ⟨htwo.os.trans B5.out.os, htwo.tape.trans B5.out.tape, htwo.output.trans B5.out.output, Nat.le_trans B5.out.size htwo.size, fun k hk => (htwo.block k (Nat.lt_of_lt_of_le hk B5.out.size) (by omega) (by omega)).trans (B5.out.block k hk)⟩
    have PX := Lib.hid hpx; have HEK := Lib.hid hevK; have OO := Lib.hid hown; have HMM := Lib.hid hmem; have TW := Lib.hid htwo
    have HI := Lib.hid hinv
    clear hinv
    clear hpx hevK hown hmem htwo
    by_cases hjl : j < L.length
    · have hjl' : (j : Int) < L.length := by omega
      have EVr := EV.out.below BWr.out
      obtain ⟨b, o, rfl, hlt, hr⟩ := EVr.at hjl
      obtain ⟨c0, c1, c2, c3, c4, c5, c6, c7⟩ := ev_cells hr
      have TKS := Lib.hid (evs_take_succ L j hjl)
      have RD := Lib.hid (rest_drop L j hjl)
      have RP : Hid (∀ U, Below wr.heap.size wr U → Calls Try.prog 32 #[.slice (some ⟨b, o + j * 8, none⟩) (L.length - j) (c - j)] U fun e w' => e = .returned (.int .i64 (restOf' (evs (L.drop j)) : Nat)) ∧ Below U.heap.size U w') := Lib.hid fun U hU => by
        have h1 := TK0.out U b o j (EVr.below hU)
        rw [List.length_drop] at h1
        exact h1
      have hxm := Lib.hid (List.getElem_mem hjl)
      clear hr EVr
      obtain ⟨y, hy⟩ : ∃ y, L[j] = y := ⟨_, rfl⟩
      rw [hy] at c0 c1 c2 c3 c4 c5 c6 c7 TKS hxm RD
      clear hy
      have SN := Lib.hid (wRun_snoc trimGoes trimNext R f (evs (L.take j)) y.e)
      rw [← TKS.out] at SN
      clear TKS
      obtain ⟨⟨s1, l1, f1⟩, hst⟩ : ∃ st, wRun trimGoes trimNext R f (evs (L.take j)) = st := ⟨_, rfl⟩
      rw [hst] at PX HEK SN HI
      clear hst
      simp only at PX HEK HI
      obtain ⟨S2, hS2⟩ : ∃ st, wRun trimGoes trimNext R f (evs (L.take (j + 1))) = st := ⟨_, rfl⟩
      have HS2 := Lib.hid hS2
      rw [hS2] at SN
      clear hS2
      have hvs := own_slice OO.out
      have D6 := Lib.hid (heap_alloc_new wr (.cells y.cells.toArray 31))
      have b6 : Below wr.heap.size wr (wr.alloc (.cells y.cells.toArray 31)) := below_alloc _ _
      have B6 := Lib.hid b6
      have PX6 := Lib.hid (PX.out.later b6); have OO6 := Lib.hid (own_later OO.out b6); have TW6 := Lib.hid (TW.out.below b6)
      have h7 : w5.heap.size ≤ wr.heap.size := TW.out.size
      have P26 : Hid (Px (wr.alloc (.cells y.cells.toArray 31)) g2 (.slice (some ⟨b, o, none⟩) L.length c) f) := Lib.hid (((B6.out.block g2 (by omega)).trans (TW.out.block g2 h25' (by omega) (by omega))).trans P25.out)
      have s6 := P26.out.slot
      clear b6 PX OO
      obtain ⟨⟨r, n, t, kd, d, fl, tx, gn⟩, gp, gc⟩ := y
      simp only at c0 c1 c2 c3 c4 c5 c6 c7 RD
      simp only [EvP.cells] at D6 PX6 OO6 TW6 B6 P26 s6
      have d2 := (cell_of_row _ wr.heap.size 2 _ _ _ D6.out).trans (show _ = some (Value.int .i64 t) from rfl)
      have d3 := (cell_of_row _ wr.heap.size 3 _ _ _ D6.out).trans (show _ = some (Value.int .i64 kd) from rfl)
      by_cases hk : kd = 2
      · subst hk
        have HIN : Hid (TrimI (restOf' (evs (L.drop (j + 1)))) X s1) := by
          have h1 := HI.out
          rw [RD.out, if_pos rfl, Nat.add_zero] at h1
          exact Lib.hid h1
        have hgo : ¬ trimGoes s1 ⟨r, n, t, 2, d, fl, tx, gn⟩ = true := by simp [trimGoes, Ev.isDrop]
        have hnx : trimNext s1 ⟨r, n, t, 2, d, fl, tx, gn⟩ = s1 := if_neg hgo
        have HNX := Lib.hid hnx
        have d0 := (cell_of_row _ wr.heap.size 0 _ _ _ D6.out).trans (show _ = some (Value.int .i64 r) from rfl)
        have d1 := (cell_of_row _ wr.heap.size 1 _ _ _ D6.out).trans (show _ = some (Value.int .i64 n) from rfl)
        have P7 := PX6; have O7 := OO6; have T7 := TW6; have D7 := D6
        clear d2 hnx PX6 OO6 TW6 D6 RP
        have SE : Hid (S2 = (s1, l1 ++ [⟨r, n, t, 2, d, fl, tx, gn⟩], f1)) := Lib.hid (by rw [SN.out]; exact (if_neg hgo).trans (by rw [HNX.out]))
        obtain ⟨qk, ck, rfl⟩ := hvs
        have d2 := (cell_of_row (wr.alloc (.cells #[.int .i64 r, .int .i64 n, .int .i64 t, .int .i64 2, .string d, .int .i64 fl, .string tx, .slice gp gn.length gc] 31)) wr.heap.size 2 _ _ _ D7.out).trans (show _ = some (Value.int .i64 t) from rfl)
        have d3 := (cell_of_row (wr.alloc (.cells #[.int .i64 r, .int .i64 n, .int .i64 t, .int .i64 2, .string d, .int .i64 fl, .string tx, .slice gp gn.length gc] 31)) wr.heap.size 3 _ _ _ D7.out).trans (show _ = some (Value.int .i64 2) from rfl)
        have d4 := (cell_of_row (wr.alloc (.cells #[.int .i64 r, .int .i64 n, .int .i64 t, .int .i64 2, .string d, .int .i64 fl, .string tx, .slice gp gn.length gc] 31)) wr.heap.size 4 _ _ _ D7.out).trans (show _ = some (Value.string d) from rfl)
        have d5 := (cell_of_row (wr.alloc (.cells #[.int .i64 r, .int .i64 n, .int .i64 t, .int .i64 2, .string d, .int .i64 fl, .string tx, .slice gp gn.length gc] 31)) wr.heap.size 5 _ _ _ D7.out).trans (show _ = some (Value.int .i64 fl) from rfl)
        have d6 := (cell_of_row (wr.alloc (.cells #[.int .i64 r, .int .i64 n, .int .i64 t, .int .i64 2, .string d, .int .i64 fl, .string tx, .slice gp gn.length gc] 31)) wr.heap.size 6 _ _ _ D7.out).trans (show _ = some (Value.string tx) from rfl)
        have d7 := (cell_of_row (wr.alloc (.cells #[.int .i64 r, .int .i64 n, .int .i64 t, .int .i64 2, .string d, .int .i64 fl, .string tx, .slice gp gn.length gc] 31)) wr.heap.size 7 _ _ _ D7.out).trans (show _ = some (Value.slice gp gn.length gc) from rfl)
        have s7 := P7.out.slot
        have hz7 := T7.out.size
        clear SN hgo
        go_wp2_with (at_builtin; refine wpList_ev (wr.alloc (.cells #[.int .i64 r, .int .i64 n, .int .i64 t, .int .i64 2, .string d, .int .i64 fl, .string tx, .slice gp gn.length gc] 31)) rfl _ _ rfl w5.heap.size K.length (ecl K) (.slice qk K.length ck) rfl O7.out ⟨⟨r, n, t, 2, d, fl, tx, gn⟩, gp, gc⟩ (by rw [World.size_alloc]; rfl) (by omega) hz7 ?_)
        intro v8 w8 o8 g8
        obtain ⟨q8, c8, rfl⟩ := own_slice o8
        have hvb : ∀ k, (Value.slice qk K.length ck).ownBlock = some k → w5.heap.size ≤ k := fun k hk => (O7.out.lt k hk).1
        have P8 := Lib.hid (P7.out.kept g8 (fun e => by have := hvb g5 e.symm; omega))
        have O8 := Lib.hid o8
        have T8 := Lib.hid (T7.out.step g8 (fun k hk => .inr (.inr (hvb k hk))))
        have s8 := P8.out.slot
        have f8 := P8.out.free 0
        have P9 := Lib.hid (P8.out.setSlot (.slice q8 (K.length + 1) c8))
        have g9 := grown_cell w8 g5 0 (.slice q8 (K.length + 1) c8)
        have O9 := Lib.hid (own_grown O8.out g9 (by omega))
        have T9 := Lib.hid (T8.out.step g9 (fun k hk => .inl (Option.some.inj hk).symm))
        clear g8 g9 o8 d0 d1 d2 d3 d4 d5 d6 d7 s7 P7 O7 T7 D7 hvb
        go_wp2_with fail
        generalize w8.setCell ⟨g5, 0, none⟩ (.slice q8 (K.length + 1) c8) = w9 at P9 O9 T9 ⊢
        clear s8 f8 P8 O8 T8
        go_roundw
        case rel =>
          refine ⟨j + 1, _, K ++ [⟨⟨r, n, t, 2, d, fl, tx, gn⟩, gp, gc⟩], by omega, by go_num, by rw [HS2.out, SE.out]; exact P9.out, by rw [HS2.out, SE.out]; simp only [evs, List.map_append, List.map_cons, List.map_nil]; rw [← HEK.out]; rfl, by rw [HS2.out, SE.out]; exact HIN.out, ?_, ?_, by simpa using T9.out⟩
          · rw [List.length_append, ecl_append]
            simpa [ecl] using O9.out
          · intro x hx
            rcases List.mem_append.1 hx with h | h
            · exact HMM.out x h
            · obtain rfl := List.mem_singleton.1 h
              exact hxm.out
        case measure => simp [intOf]; omega
      · have hk2 : (kd != 2) = true := by simpa using hk
        have hdr : Ev.isDrop ⟨r, n, t, kd, d, fl, tx, gn⟩ = false := decide_eq_false hk
        have RPP := Lib.hid (RP.out _ B6.out)
        go_wp2_with fail
        generalize wr.alloc (.cells #[.int .i64 r, .int .i64 n, .int .i64 t, .int .i64 kd, .string d, .int .i64 fl, .string tx, .slice gp gn.length gc] 31) = w6 at D6 PX6 OO6 TW6 B6 P26 RPP ⊢
        refine RPP.out.mono ?_
        rintro e w7 ⟨rfl, hb7⟩
        have P7 := Lib.hid (PX6.out.later hb7); have O7 := Lib.hid (own_later OO6.out hb7); have T7 := Lib.hid (TW6.out.below hb7)
        have D7 := Lib.hid ((hb7.block _ (Array.getElem?_eq_some_iff.1 D6.out).1).trans D6.out)
        clear hb7 PX6 OO6 TW6 D6 d2 d3 c0 c1 c2 c3 c4 c5 c6 c7 RPP RP P26 s6
        have d0 := (cell_of_row w7 wr.heap.size 0 _ _ _ D7.out).trans (show _ = some (Value.int .i64 r) from rfl)
        have d1 := (cell_of_row w7 wr.heap.size 1 _ _ _ D7.out).trans (show _ = some (Value.int .i64 n) from rfl)
        have hrd : restOf' (evs (L.drop j)) = restOf' (evs (L.drop (j + 1))) + 1 := by rw [RD.out, if_neg hk]
        have HI' := Lib.hid HI.out
        clear HI RD
        rw [hrd] at HI' ⊢
        clear hrd
        obtain ⟨M, hM⟩ : ∃ M, restOf' (evs (L.drop (j + 1))) = M := ⟨_, rfl⟩
        rw [hM] at HI' ⊢
        by_cases hg0 : 0 < s1
        · have hgt := (trimI_goes HI'.out).1 hg0
          have hlt1 : decide (max most 0 < (M : Int) + 1) = true := decide_eq_true (by rw [HX.out]; omega)
          have HIN : Hid (TrimI (restOf' (evs (L.drop (j + 1)))) X (s1 - 1)) := by rw [hM]; exact Lib.hid (trimI_more HI'.out hg0)
          have hgo : trimGoes s1 ⟨r, n, t, kd, d, fl, tx, gn⟩ = true := by simp [trimGoes, hdr, hg0]
          have hnx : trimNext s1 ⟨r, n, t, kd, d, fl, tx, gn⟩ = s1 - 1 := if_pos hgo
          have HNX := Lib.hid hnx
          clear hnx hM
          have SE : Hid (S2 = (s1 - 1, l1, withF f1 r n)) := Lib.hid (by rw [SN.out, ← HNX.out]; exact if_pos hgo)
          have WI := Lib.hid (refWith_is f1 r n w7)
          clear SN hgo
          go_wp2_with (refine wpList_gload rfl _ rfl g5 1 rfl (vf f1).toList P7.out.floor _ Try.underlying24 rfl (sizeVcl f1) ?_)
          refine WI.out.mono ?_
          rintro e w8 ⟨rfl, hb8⟩
          have P8 := Lib.hid (P7.out.later hb8); have O8 := Lib.hid (own_later O7.out hb8); have T8 := Lib.hid (T7.out.below hb8)
          clear hb8 WI P7 O7 T7 d0 d1 D7
          go_wp2_with (refine wpList_floor rfl _ _ rfl g5 rfl (withF f1 r n) rfl v' f1 P8.out ?_)
          intro w9 p9 g9
          have P9 := Lib.hid p9
          have O9 := Lib.hid (own_grown O8.out g9 (by omega))
          have T9 := Lib.hid (T8.out.step g9 (fun k hk => .inl (Option.some.inj hk).symm))
          clear g9 p9 P8 O8 T8
          go_wp2
          go_roundw
          case rel => exact ⟨j + 1, v', K, by omega, by go_num, by rw [HS2.out, SE.out]; simpa using P9.out, by rw [HS2.out, SE.out]; exact HEK.out, by rw [HS2.out, SE.out]; exact HIN.out, by simpa using O9.out, HMM.out, by simpa using T9.out⟩
          case measure => simp [intOf]; omega
        · have hgt : ¬ ((M + 1 : Nat) : Int) > X := fun e => hg0 ((trimI_goes HI'.out).2 e)
          have hlt1 : decide (max most 0 < (M : Int) + 1) = false := decide_eq_false (by rw [HX.out]; omega)
          have HIN : Hid (TrimI (restOf' (evs (L.drop (j + 1)))) X s1) := by rw [hM]; exact Lib.hid (trimI_less HI'.out hg0)
          have hgo : ¬ trimGoes s1 ⟨r, n, t, kd, d, fl, tx, gn⟩ = true := by simp [trimGoes, hg0]
          have hnx : trimNext s1 ⟨r, n, t, kd, d, fl, tx, gn⟩ = s1 := if_neg hgo
          have HNX := Lib.hid hnx
          clear hnx hM
          have SE : Hid (S2 = (s1, l1 ++ [⟨r, n, t, kd, d, fl, tx, gn⟩], f1)) := Lib.hid (by rw [SN.out]; exact (if_neg hgo).trans (by rw [HNX.out]))
          obtain ⟨qk, ck, rfl⟩ := hvs
          have d2 := (cell_of_row w7 wr.heap.size 2 _ _ _ D7.out).trans (show _ = some (Value.int .i64 t) from rfl)
          have d3 := (cell_of_row w7 wr.heap.size 3 _ _ _ D7.out).trans (show _ = some (Value.int .i64 kd) from rfl)
          have d4 := (cell_of_row w7 wr.heap.size 4 _ _ _ D7.out).trans (show _ = some (Value.string d) from rfl)
          have d5 := (cell_of_row w7 wr.heap.size 5 _ _ _ D7.out).trans (show _ = some (Value.int .i64 fl) from rfl)
          have d6 := (cell_of_row w7 wr.heap.size 6 _ _ _ D7.out).trans (show _ = some (Value.string tx) from rfl)
          have d7 := (cell_of_row w7 wr.heap.size 7 _ _ _ D7.out).trans (show _ = some (Value.slice gp gn.length gc) from rfl)
          have s7 := P7.out.slot
          have hz7 := T7.out.size
          clear SN hgo
          go_wp2_with (at_builtin; refine wpList_ev w7 rfl _ _ rfl w5.heap.size K.length (ecl K) (.slice qk K.length ck) rfl O7.out ⟨⟨r, n, t, kd, d, fl, tx, gn⟩, gp, gc⟩ rfl (by omega) hz7 ?_)
          intro v8 w8 o8 g8
          obtain ⟨q8, c8, rfl⟩ := own_slice o8
          have hvb : ∀ k, (Value.slice qk K.length ck).ownBlock = some k → w5.heap.size ≤ k := fun k hk => (O7.out.lt k hk).1
          have P8 := Lib.hid (P7.out.kept g8 (fun e => by have := hvb g5 e.symm; omega))
          have O8 := Lib.hid o8
          have T8 := Lib.hid (T7.out.step g8 (fun k hk => .inr (.inr (hvb k hk))))
          have s8 := P8.out.slot
          have f8 := P8.out.free 0
          have P9 := Lib.hid (P8.out.setSlot (.slice q8 (K.length + 1) c8))
          have g9 := grown_cell w8 g5 0 (.slice q8 (K.length + 1) c8)
          have O9 := Lib.hid (own_grown O8.out g9 (by omega))
          have T9 := Lib.hid (T8.out.step g9 (fun k hk => .inl (Option.some.inj hk).symm))
          clear g8 g9 o8 d0 d1 d2 d3 d4 d5 d6 d7 s7 P7 O7 T7 D7 hvb
          go_wp2_with fail
          generalize w8.setCell ⟨g5, 0, none⟩ (.slice q8 (K.length + 1) c8) = w9 at P9 O9 T9 ⊢
          clear s8 f8 P8 O8 T8
          go_roundw
          case rel =>
            refine ⟨j + 1, _, K ++ [⟨⟨r, n, t, kd, d, fl, tx, gn⟩, gp, gc⟩], by omega, by go_num, by rw [HS2.out, SE.out]; exact P9.out, by rw [HS2.out, SE.out]; simp only [evs, List.map_append, List.map_cons, List.map_nil]; rw [← HEK.out]; rfl, by rw [HS2.out, SE.out]; exact HIN.out, ?_, ?_, by simpa using T9.out⟩
            · rw [List.length_append, ecl_append]
              simpa [ecl] using O9.out
            · intro x hx
              rcases List.mem_append.1 hx with h | h
              · exact HMM.out x h
              · obtain rfl := List.mem_singleton.1 h
                exact hxm.out
          case measure => simp [intOf]; omega

    · obtain rfl : j = L.length := by omega
      have hjl' : ¬ ((L.length : Nat) : Int) < L.length := by omega
      rw [List.take_length] at PX HEK
      have P4r : Hid (Px wr g4 (.slice none 0 0) fun _ => 0) := Lib.hid ((TW.out.block g4 h45' (by omega) (by omega)).trans P45.out)
      obtain ⟨fz, hfz⟩ : ∃ fz, (wRun trimGoes trimNext R f (evs L)).2.2 = fz := ⟨_, rfl⟩
      rw [hfz] at PX
      have HFZ := Lib.hid hfz
      clear hfz
      have hvs : ∃ p n c, v' = .slice p n c := by
        obtain ⟨p, c, h⟩ := own_slice OO.out
        exact ⟨p, _, c, h⟩
      go_wp2_with (first | refine wpList_gload rfl _ rfl g5 0 rfl (pcs v' fz).toList PX.out.whole _ Try.underlying26 rfl (sizePl v' fz) ?_ | refine wpList_gstore rfl _ _ rfl g4 rfl (pcs v' fz) rfl _ _ P4r.out (sizeP _ _) (by rw [pcs_size, pcs_size]) (pcs_oneV fz hvs) ?_)
      intro w9 p9 g9
      have O9 := own_grown OO.out g9 (by omega)
      go_wp2
      refine past_ret rfl rfl rfl p9 ⟨v', K, by rw [HFZ.out], own_base O9 B5.out.size, HMM.out, HEK.out, BWr.out.trans (grown_below g9 BWr.out.size hw4)⟩
end Go.Proofs.Ytbdedemckmoidaa
