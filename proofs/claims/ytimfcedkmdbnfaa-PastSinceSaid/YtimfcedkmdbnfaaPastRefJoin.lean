/- the document's past: Join of any two pasts. -/
import Derived.Test.YtimfcedkmdbnfaaPastJoin
namespace Go.Proofs.Ytimfcedkmdbnfaa
open Go Go.RowKit
set_option linter.unusedVariables false

def JoinS (w : World) (l : List Ev) (F : Nat → Int) (e : Ending) (w' : World) : Prop :=
  ∃ pv cv N, e = .returned (.agg (pcs (.slice pv N.length cv) F)) ∧ EvsAt w' pv N ∧ evs N = l ∧ Below w.heap.size w w'
theorem EvsAt.kept {w w' : World} {p : Option Addr} {L : List EvP} {G : Nat} (h : EvsAt w p L) (hg : w.grownBy w' (some G)) (hp : L ≠ [] → ∀ a, p = some a → a.block ≠ G) (hk : ∀ x ∈ L, x.Ok w') : EvsAt w' p L :=
  ⟨fun hn => by
    obtain ⟨b, o, rfl, hr⟩ := h.row hn
    refine ⟨b, o, rfl, fun j u hu => ?_⟩
    have h1 := hr j u hu
    have hb : b < w.heap.size := World.block_lt_of_cell? w _ h1
    have h2 := hg.block b hb (fun e => hp hn _ rfl (Option.some.inj e))
    have h3 : w'.cell? ⟨b, o + j, Option.none⟩ = w.cell? ⟨b, o + j, Option.none⟩ := by
      simp only [World.cell?, h2]
    exact h3.trans h1, hk, h.none⟩
set_option maxHeartbeats 20000000 in
set_option maxRecDepth 1000000 in
theorem refJoinP_is (p : Option Addr) (c : Nat) (L : List EvP) (f : Nat → Int) (q : Option Addr) (d : Nat) (M : List EvP) (g : Nat → Int) (w : World) (h : EvsAt w p L) (ho : p = none → c = 0) (hn : L.length ≤ 400)
    (h2 : EvsAt w q M) (hn2 : M.length ≤ 400) :
    Calls Try.prog 11 #[.agg (pcs (.slice p L.length c) f), .agg (pcs (.slice q M.length d) g)] w (JoinS w (behindOf (evs L) (evs M)) (fun i => max (f i) (g i))) := by
  have EV := Lib.hid h; have EW := Lib.hid h2; have HO := Lib.hid ho
  clear h h2 ho
  have JN := Lib.hid (fun (V : World) => refJoin_is f g V)
  go_enter Try.func11, Try.ntmps11
  go_wp2_with (refine wpList_gbox rfl _ rfl (pcs (.slice p L.length c) f) rfl ?_)
  intro g2 w1 lg2 hg2 hb1
  have B1 := Lib.hid hb1
  have P1 : Hid (Px w1 g2 (.slice p L.length c) f) := Lib.hid hg2
  clear hg2 hb1
  go_wp2_with (refine wpList_gbox rfl _ rfl (pcs (.slice q M.length d) g) rfl ?_)
  intro g3 w2 lg3 hg3 hb2
  have B2 := Lib.hid (thenBelow B1.out hb2)
  have P2 := Lib.hid (P1.out.later hb2)
  have Q2 : Hid (Px w2 g3 (.slice q M.length d) g) := Lib.hid hg3
  clear hg3 hb2 P1
  go_wp2_with (refine wpList_galloc _ zeroP rfl rfl ?_)
  intro g4 w3 lg4 hg4 hb3
  have B3 := Lib.hid (thenBelow B2.out hb3)
  have P3 := Lib.hid (P2.out.later hb3); have Q3 := Lib.hid (Q2.out.later hb3)
  have P43 : Hid (Px w3 g4 (.slice none 0 0) fun _ => 0) := Lib.hid hg4
  have hw4 : w.heap.size ≤ g4 := Nat.le_trans B2.out.size lg4
  have h34 : g3 < g4 := Nat.lt_of_lt_of_le Q2.out.lt lg4
  have h24 : g2 < g4 := Nat.lt_of_lt_of_le P2.out.lt lg4
  clear hg4 hb3 P2 Q2
  go_wp2_with fail
  rename_i K hK
  have KK : ∀ (g5 : Nat) (V : World), Px V g5 (.slice p L.length c) (fun i => max (f i) (g i)) → w3.heap.size ≤ g5 → Px V g3 (.slice q M.length d) g → (Px V g4 (.slice none 0 0) fun _ => 0) → Below w.heap.size w V → K { tmps := #[.agg (pcs (.slice p L.length c) f), .agg (pcs (.slice q M.length d) g), .pointer (some ⟨g2, 0, none⟩), .pointer (some ⟨g3, 0, none⟩), .pointer (some ⟨g4, 0, none⟩), .pointer (some ⟨g5, 0, none⟩), undef, undef, .pointer (some ⟨g2, 0, none⟩), .slice p L.length c, .pointer (some ⟨g2, 1, none⟩), .agg (vf f), .pointer (some ⟨g3, 1, none⟩), .agg (vf g), .agg (vf (fun i => max (f i) (g i))), .agg (pcs (.slice p L.length c) (fun i => max (f i) (g i))), undef, undef, undef, undef, undef, undef, undef, undef, undef, undef, undef, undef, undef, undef], defers := [] } V := by
    intro G V hpx hG h3 h4 hbV
    refine hK _ _ ?_
    have BV := Lib.hid hbV; have PV := Lib.hid hpx; have Q4 := Lib.hid h4
    have s3 := h3.slot
    have h4G : g4 < G := Nat.lt_of_lt_of_le P43.out.lt hG
    have hwG : w.heap.size ≤ G := Nat.le_trans B3.out.size hG
    clear hK hpx h4 hbV JN h3 P3 Q3 P43
    go_wp2_with fail
    clear s3
    go_loopw [19] (fun i wr => ∃ (j : Nat) (pv : Option Addr) (cv : Nat) (N : List EvP), j ≤ M.length ∧ i = .int .i64 j ∧ Px wr G (.slice pv N.length cv) (fun i => max (f i) (g i)) ∧ EvsAt wr pv N ∧ (pv = none → cv = 0) ∧
      evs N = behindOf (evs L) (evs (M.take j)) ∧ (∀ x ∈ N, x ∈ L ∨ x ∈ M) ∧ Below w.heap.size w wr ∧ (Px wr g4 (.slice none 0 0) fun _ => 0) ∧ (N ≠ [] → ∀ a, pv = some a → a.block ≠ g4)) (fun i _ => M.length - (intOf i).toNat)
    case atStart => exact ⟨0, p, c, L, Nat.zero_le _, rfl, PV.out, EV.out.below BV.out, HO.out, rfl, fun x hx => .inl hx, BV.out, Q4.out, fun hn a ha => by
      obtain ⟨b, o, e1, hlt, _⟩ := EV.out.at (i := 0) (List.length_pos_iff.2 hn)
      rw [ha] at e1
      have e2 := Option.some.inj e1
      subst e2
      exact fun e => by simp only at e; omega⟩
    case round =>
      obtain ⟨j, pv, cv, N, hj, rfl, hpx, hat, hpn, hevN, hmem, hb, h4, hne⟩ := hrel
      have BB := Lib.hid hb; have PX := Lib.hid hpx; have AT := Lib.hid hat; have PN := Lib.hid hpn; have HE := Lib.hid hevN; have HM := Lib.hid hmem; have Q5 := Lib.hid h4; have NE := Lib.hid hne
      have hNl : N.length ≤ L.length + j := by
        have h1 : (evs N).length = N.length := by simp [evs]
        rw [hevN] at h1
        have h2 := behindOf_len (evs L) (evs (M.take j))
        have h3 : (evs (M.take j)).length = j := by rw [evs, List.length_map, List.length_take]; omega
        have h4 : (evs L).length = L.length := by simp [evs]
        omega
      clear hpx hat hpn hevN hmem h4 hne
      by_cases hjl : j < M.length
      · have hjl' : (j : Int) < M.length := by omega
        obtain ⟨b, o, rfl, hlt, hr⟩ := (EW.out.below hb).at hjl
        obtain ⟨c0, c1, c2, c3, c4, c5, c6, c7⟩ := ev_cells hr
        have TKS := Lib.hid (evs_take_succ M j hjl)
        have hxm := Lib.hid (List.getElem_mem hjl)
        clear hr hlt hb
        obtain ⟨y, hy⟩ : ∃ y, M[j] = y := ⟨_, rfl⟩
        rw [hy] at c0 c1 c2 c3 c4 c5 c6 c7 TKS hxm
        clear hy
        have b6 := below_alloc wr (.cells y.cells.toArray 35)
        have N6 := Lib.hid (range_of_block (heap_alloc_new wr (.cells y.cells.toArray 35)))
        have SZ := Lib.hid (sizeEv y)
        have PU := Lib.hid (refPut1_is pv cv N y _ (AT.out.below b6) (by omega) PN.out)
        have B6 := Lib.hid (thenBelow BB.out b6)
        have PX6 := Lib.hid (PX.out.later b6); have Q6 := Lib.hid (Q5.out.later b6)
        have s6 := PX6.out.slot
        clear b6 PX Q5 AT PN NE
        obtain ⟨⟨r, n, t, kd, dc, fl, tx, gn⟩, gp, gc⟩ := y
        simp only [EvP.cells] at c0 c1 c2 c3 c4 c5 c6 c7 N6 SZ PU B6 PX6 Q6 s6 TKS hxm
        go_wp2_with (first | refine wpList_gload rfl _ rfl wr.heap.size 0 rfl _ N6.out _ Try.underlying35 rfl SZ.out ?_)
        refine PU.out.mono ?_
        rintro e w8 ⟨v8, N8, rfl, hN8, hm8, he8, hb8⟩
        have hc8 : ∃ p8 c8, v8 = .slice p8 N8.length c8 ∧ (p8 = none → c8 = 0) := by
          rcases hN8.2 with ⟨rfl, h0⟩ | ⟨g0, cap, cur, rfl, _⟩
          · exact ⟨none, 0, by rw [h0], fun _ => rfl⟩
          · exact ⟨_, _, rfl, fun e => by cases e⟩
        obtain ⟨p8, c8, rfl, hp8⟩ := hc8
        have O8 := Lib.hid hN8; have HM8 := Lib.hid hm8; have HE8 := Lib.hid he8; have B8 := Lib.hid (thenBelow B6.out hb8); have PN8 := Lib.hid hp8
        have P8 := Lib.hid (PX6.out.later hb8); have Q8 := Lib.hid (Q6.out.later hb8)
        have hGW := PX6.out.lt
        have h4W := Q6.out.lt
        have s8 := P8.out.slot
        have f8 := P8.out.free 0
        have P9 := Lib.hid (P8.out.setSlot (.slice p8 N8.length c8))
        have g9 := grown_cell w8 G 0 (.slice p8 N8.length c8)
        have O9 := Lib.hid (own_grown O8.out g9 hGW)
        have Q9 := Lib.hid (Q8.out.kept g9 (by simp; omega))
        have B9 := Lib.hid (B8.out.trans (grown_below g9 B8.out.size hwG))
        clear hN8 hm8 he8 hb8 hp8 g9 PU N6 c0 c1 c2 c3 c4 c5 c6 c7 s6 PX6 Q6 B6 Q8 O8
        go_wp2_with fail
        generalize w8.setCell ⟨G, 0, none⟩ (.slice p8 N8.length c8) = w9 at P9 O9 Q9 B9 ⊢
        clear s8 f8 P8
        go_roundw
        case rel =>
          have mem9 : ∀ x ∈ N8, x ∈ L ∨ x ∈ M := fun x hx => by
            rcases List.mem_append.1 (HM8.out x hx) with h | h
            · exact HM.out x h
            · obtain rfl := List.mem_singleton.1 h
              exact .inr hxm.out
          have ok9 : ∀ x ∈ N8, x.Ok w9 := fun x hx => by
            rcases mem9 x hx with h | h
            · exact (EV.out.ok x h).below B9.out
            · exact (EW.out.ok x h).below B9.out
          obtain ⟨p', c', e1, _, hat9, _⟩ := own_at O9.out ok9
          injection e1 with e1 _ e2
          subst e1; subst e2
          refine ⟨j + 1, p8, c8, N8, by omega, by go_num, by simpa using P9.out, hat9, PN8.out, ?_, mem9, by simpa using B9.out, by simpa using Q9.out, fun _ a ha e => ?_⟩
          · rw [HE8.out, TKS.out, behindOf_snoc, HE.out]; rfl
          · subst ha
            have h1 := (O9.out.lt a.block rfl).1
            omega
        case measure => simp [intOf]; omega
      · obtain rfl : j = M.length := by omega
        have hjl' : ¬ ((M.length : Nat) : Int) < M.length := by omega
        rw [List.take_length] at HE
        go_wp2_with (first | refine wpList_gload rfl _ rfl G 0 rfl (pcs (.slice pv N.length cv) (fun i => max (f i) (g i))).toList PX.out.whole _ Try.underlying26 rfl (sizePl _ _) ?_ | refine wpList_gstore rfl _ _ rfl g4 rfl (pcs (.slice pv N.length cv) (fun i => max (f i) (g i))) rfl _ _ Q5.out (sizeP _ _) (by rw [pcs_size, pcs_size]) (pcs_oneV (fun i => max (f i) (g i)) ⟨_, _, _, rfl⟩) ?_)
        intro w9 p9 g9
        have B9 := BB.out.trans (grown_below g9 BB.out.size hw4)
        have at9 := AT.out.kept g9 NE.out (fun x hx => by
          rcases HM.out x hx with h | h
          · exact (EV.out.ok x h).below B9
          · exact (EW.out.ok x h).below B9)
        go_wp2
        exact past_ret rfl rfl rfl p9 ⟨pv, cv, N, rfl, at9, HE.out, B9⟩
  have m00 : Below w3.heap.size w3 w3.drew := to_drew (Below.refl _ _)
  have SV : Hid (∀ V, Below w3.heap.size w3 V → Px V g2 (.slice p L.length c) f ∧ Px V g3 (.slice q M.length d) g) := Lib.hid fun V hV => ⟨P3.out.later hV, Q3.out.later hV⟩
  have S4 : Hid (∀ V, Below w3.heap.size w3 V → Px V g4 (.slice none 0 0) fun _ => 0) := Lib.hid fun V hV => P43.out.later hV
  have m0 := SV.out _ m00
  refine rg_calm (by kernel_rfl) rfl (S := fun V => Px V g2 (.slice p L.length c) f ∧ Px V g3 (.slice q M.length d) g) ?_
  refine rgd_pure 0 (some 8) rfl rfl (.pointer (some ⟨g2, 0, none⟩)) (by kernel_rfl) (by kernel_rfl) (by kernel_rfl) (fun _ _ _ _ h => h) (by kernel_rfl) (fun w => by kernel_rfl) m0 ?_
  refine rgd_load 1 (some 9) rfl rfl (by kernel_rfl) (by kernel_rfl) (by kernel_rfl) (fun _ _ _ _ h => h) (by kernel_rfl) _ _ rfl Try.underlying22 rfl ⟨g2, 0, none⟩ (.slice p L.length c) (by kernel_rfl) (fun U hU => hU.1.slot) m0 ?_
  refine rgd_pure 2 (some 10) rfl rfl (.pointer (some ⟨g2, 1, none⟩)) (by kernel_rfl) (by kernel_rfl) (by kernel_rfl) (fun _ _ _ _ h => h) (by kernel_rfl) (fun w => by kernel_rfl) m0 ?_
  refine rgd_pureS 3 (some 11) rfl rfl (.agg (vf f)) (by kernel_rfl) (by kernel_rfl) (by kernel_rfl) (fun _ _ _ _ h => h) (by kernel_rfl) (fun U hU => exec_gload 24 _ rfl g2 1 (by kernel_rfl) _ hU.1.floor Try.underlying24 rfl (sizeVcl f)) m0 ?_
  refine rgd_pure 4 (some 12) rfl rfl (.pointer (some ⟨g3, 1, none⟩)) (by kernel_rfl) (by kernel_rfl) (by kernel_rfl) (fun _ _ _ _ h => h) (by kernel_rfl) (fun w => by kernel_rfl) m0 ?_
  refine rgd_pureS 5 (some 13) rfl rfl (.agg (vf g)) (by kernel_rfl) (by kernel_rfl) (by kernel_rfl) (fun _ _ _ _ h => h) (by kernel_rfl) (fun U hU => exec_gload 24 _ rfl g3 1 (by kernel_rfl) _ hU.2.floor Try.underlying24 rfl (sizeVcl g)) m0 ?_
  have bA := thenBelow m00 (below_alloc w3.drew (.cells (pcs (.slice none 0 0) fun _ => 0) 26))
  refine rgd_two2 6 8 (some 14) (some 5) (by kernel_rfl) rfl rfl (by kernel_rfl) 25 (#[.agg (vf f), .agg (vf g)]) (by kernel_rfl) (JN.out _) rfl rfl (by kernel_rfl) (.pointer (some ⟨w3.drew.heap.size, 0, none⟩)) (w3.drew.alloc (.cells (pcs (.slice none 0 0) fun _ => 0) 26)) (allocPast rfl _) (SV.out _ bA) ?_ ?_
  · rintro e w5 ⟨rfl, hb5⟩
    have b5 : Below w3.heap.size w3 w5 := thenBelow m00 hb5
    have m5 := SV.out _ b5
    refine ⟨_, rfl, m5, ?_⟩
    refine rgd_pure 7 (some 15) rfl rfl (.agg (pcs (.slice p L.length c) (fun i => max (f i) (g i)))) (by kernel_rfl) (by kernel_rfl) (by kernel_rfl) (fun _ _ _ _ h => h) (by kernel_rfl) (fun w => exec_pbuild _ _ rfl _ (Eq.mp (by kernel_rfl) (builtP2 p L.length c (fun i => max (f i) (g i)) w))) m5 ?_
    have bB := thenBelow b5 (below_alloc w5 (.cells (pcs (.slice none 0 0) fun _ => 0) 26))
    have nA := heap_alloc_new w5 (.cells (pcs (.slice none 0 0) fun _ => 0) 26)
    have hGe : w3.heap.size ≤ w5.heap.size := b5.size
    refine rgd_run 8 (some 5) (by kernel_rfl) rfl rfl (by kernel_rfl) (.pointer (some ⟨w5.heap.size, 0, none⟩)) (w5.alloc (.cells (pcs (.slice none 0 0) fun _ => 0) 26)) (allocPast rfl _) (SV.out _ bB) ?_
    have p6 := (show Px (w5.alloc (.cells (pcs (.slice none 0 0) fun _ => 0) 26)) w5.heap.size (.slice none 0 0) (fun _ => 0) from nA).setWhole (.slice p L.length c) (fun i => max (f i) (g i))
    have g6 := grown_setCells w5.heap.size (pcs (.slice p L.length c) (fun i => max (f i) (g i))).toList (w5.alloc (.cells (pcs (.slice none 0 0) fun _ => 0) 26)) 0
    have b6 := (thenBelow B3.out bB).trans (grown_below g6 (thenBelow B3.out bB).size (Nat.le_trans B3.out.size hGe))
    refine rgd_do 9 none (by kernel_rfl) rfl rfl (by kernel_rfl) (((w5.alloc (.cells (pcs (.slice none 0 0) fun _ => 0) 26))).setCells (w5.heap.size) 0 (pcs (.slice p L.length c) (fun i => max (f i) (g i))).toList) (exec_pstore _ _ rfl (w5.heap.size) (by kernel_rfl) (.slice p L.length c) (fun i => max (f i) (g i)) (by kernel_rfl) ⟨_, _, _, rfl⟩ nA) ⟨(SV.out _ bB).1.kept g6 (by have := P3.out.lt; simp; omega), (SV.out _ bB).2.kept g6 (by have := Q3.out.lt; simp; omega)⟩ ?_
    exact wpAnyH_done (by kernel_rfl) (Eq.mp (by kernel_rfl) (KK (w5.heap.size) _ p6 hGe ((SV.out _ bB).2.kept g6 (by have := Q3.out.lt; simp; omega)) ((S4.out _ bB).kept g6 (by have := P43.out.lt; simp; omega)) b6)) _
  · refine rgd_call 6 (some 14) (by kernel_rfl) rfl rfl (by kernel_rfl) 25 (#[.agg (vf f), .agg (vf g)]) (by kernel_rfl) (JN.out _) ?_
    rintro e w5 ⟨rfl, hb5⟩
    have bB : Below w3.heap.size w3 w5 := thenBelow bA hb5
    have m5 := SV.out _ bB
    refine ⟨_, rfl, m5, ?_⟩
    have nA0 := heap_alloc_new w3.drew (.cells (pcs (.slice none 0 0) fun _ => 0) 26)
    have nA := (hb5.block _ (Array.getElem?_eq_some_iff.1 nA0).1).trans nA0
    have hGe : w3.heap.size ≤ w3.drew.heap.size := m00.size
    refine rgd_run 7 (some 15) (by kernel_rfl) rfl rfl (by kernel_rfl) (.agg (pcs (.slice p L.length c) (fun i => max (f i) (g i)))) w5 (exec_pbuild _ _ rfl _ (Eq.mp (by kernel_rfl) (builtP2 p L.length c (fun i => max (f i) (g i)) w5))) m5 ?_
    have p6 := (show Px w5 w3.drew.heap.size (.slice none 0 0) (fun _ => 0) from nA).setWhole (.slice p L.length c) (fun i => max (f i) (g i))
    have g6 := grown_setCells w3.drew.heap.size (pcs (.slice p L.length c) (fun i => max (f i) (g i))).toList w5 0
    have b6 := (thenBelow B3.out bB).trans (grown_below g6 (thenBelow B3.out bB).size (Nat.le_trans B3.out.size hGe))
    refine rgd_do 9 none (by kernel_rfl) rfl rfl (by kernel_rfl) ((w5).setCells (w3.drew.heap.size) 0 (pcs (.slice p L.length c) (fun i => max (f i) (g i))).toList) (exec_pstore _ _ rfl (w3.drew.heap.size) (by kernel_rfl) (.slice p L.length c) (fun i => max (f i) (g i)) (by kernel_rfl) ⟨_, _, _, rfl⟩ nA) ⟨(SV.out _ bB).1.kept g6 (by have := P3.out.lt; simp; omega), (SV.out _ bB).2.kept g6 (by have := Q3.out.lt; simp; omega)⟩ ?_
    exact wpAnyH_done (by kernel_rfl) (Eq.mp (by kernel_rfl) (KK (w3.drew.heap.size) _ p6 hGe ((SV.out _ bB).2.kept g6 (by have := Q3.out.lt; simp; omega)) ((S4.out _ bB).kept g6 (by have := P43.out.lt; simp; omega)) b6)) _
end Go.Proofs.Ytimfcedkmdbnfaa
