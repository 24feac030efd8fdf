/- The statement DocsBytes, proved for every input that its row reads: part 48 of 54. -/
import Derived.Test.YtjmglgcifekhgaaGreatDoorPackDocsBytes44
import Derived.Test.YtjmglgcifekhgaaGreatDoorPackDocsBytes38
import Derived.Test.YtjmglgcifekhgaaGreatDoorPackDocsBytes46
import Derived.Test.YtjmglgcifekhgaaGreatDoorPackDocsBytes47
import Derived.Test.YtjmglgcifekhgaaGreatDoorPackDocsBytes14
/- A state's bytes behind others: what can't be leaves them as they are; the document's. -/
namespace Go.Proofs.YtjmglgcifekhgaaGreatDoor
open Go Go.RowKit
set_option linter.unusedVariables false
set_option maxRecDepth 1000000

theorem cloneSl_any (p : Option Addr) (c : Nat) (l : List UInt8) (w : World) (h : Lies w p l) (hp : p = none → l = []) (hbig : l.length ≤ 140737488355328) :
    Calls Tryz.prog 19 #[.slice p l.length c] w (RetOwn w 5 l) := by
  have q : ∀ (w : World) (a : Option Addr) (n c n' c' : Nat), (binOp .eql 22 (.slice a n c) (.slice none n' c')).run Tryz.prog w = .ok (.bool a.isNone) w := fun w a n c n' c' => Lib.run_eql_slice_nil w _ _ a n c n' c' Tryz.underlying22
  cases p with
  | none =>
    obtain rfl := hp rfl
    go_enter Tryz.func19, Tryz.ntmps19
    go_wp2
    go_ret
    exact ⟨_, rfl, World.ownsRow_nil _ _ _ _, Below.refl _ _⟩
  | some a =>
    obtain ⟨i0, hi, hz0, hz1, hz2⟩ := info_parts infoU8
    have H : Hid (∀ j u, (bys l)[j]? = some u → w.cell? (a.add j) = some u) := by
      by_cases h0 : l = []
      · subst h0; intro j u hu; simp [bys] at hu
      · obtain ⟨b, o, e, hc⟩ := h h0
        obtain rfl := Option.some.inj e
        exact Lies.news hc
    clear h hp
    go_enter Tryz.func19, Tryz.ntmps19
    go_wp2_with (at_builtin; refine wpList_append_own _ rfl _ _ 22 rfl w.heap.size 5 i0 (.int .u8 0) 1 1 Tryz.underlying22 hi hz0 hz1 hz2 rfl (by decide) _ _ _ rfl (World.ownsRow_made w #[] 0 (Nat.le_refl _) (Nat.zero_le _) rfl) a l.length c (bys l) rfl ?qc1 ?qc2 ?qc3 ?qc4 ?qc5 ?qc6 ?_)
    case qc1 => simp [bys]
    case qc2 => exact fun j u hj => cell_alloc _ (H.out j u hj)
    case qc3 => exact bys_one l
    case qc4 => unfold maxLen; omega
    case qc5 => omega
    case qc6 => simp
    intro v' w1 hown hgrow hnil
    go_wp2
    go_ret
    exact RetOwn.of_own (by simpa using hown) rfl (((Below.refl _ w).alloc (Nat.le_refl _) _).grown hgrow (by simp) (by intro k hk; simp [Value.ownBlock] at hk; omega))

/-- what docs.Put lays behind the bytes: nothing for a state that can't be -/
noncomputable def stP (F : Nat → Int) (L : List Wr) : List UInt8 := if canB F L = true then stB F L else []
set_option maxHeartbeats 4000000 in
theorem docPutA_is (p : Option Addr) (c : Nat) (b : List UInt8) (F : Nat → Int) (q : Option Addr) (d : Nat) (L : List Wr) (w : World) (hb : Given w p c b) (hL : WrsAt w q L) (hT : Shapes w) (hlen : b.length ≤ 140737488352000) :
    Calls Tryz.prog 9 #[.slice p b.length c, .agg (scs F (.slice q L.length d))] w (RetOwn w 5 (b ++ stP F L)) := by
  by_cases hc : canB F L = true
  · have e : stP F L = stB F L := by unfold stP; rw [if_pos hc]
    rw [e]
    exact docPut_is p c b F q d L w hb hL hc hT hlen
  have e : b ++ stP F L = b := by unfold stP; rw [if_neg hc, List.append_nil]
  rw [e]
  have CC : Hid (canB F L = false) := Lib.hid (by simpa using hc)
  have HW := Lib.hid hL; have HT := Lib.hid hT; have HG := Lib.hid hb
  clear hb hL hc hT e
  go_enter Tryz.func9, Tryz.ntmps9
  go_wp2_with (refine wpList_gbox rfl _ rfl (scs F (.slice q L.length d)) rfl ?_)
  intro g3 w1 l1 h1 hb1
  have S1 : Hid (Sx w1 g3 F (.slice q L.length d)) := Lib.hid h1
  have B1 := Lib.hid hb1
  clear h1 hb1
  have SW := Lib.hid (S1.out.whole)
  have CN : Hid (Calls Tryz.prog 18 #[.agg (scs F (.slice q L.length d))] w1 (RetBool w1 false)) := Lib.hid (by have := docCan_is F q d L w1 (HW.out.below B1.out) (HT.out.below B1.out); rw [CC.out] at this; exact this)
  go_wp2_with (refine wpList_gload rfl _ rfl g3 0 rfl _ SW.out _ Tryz.underlying27 rfl (sizeStl _ _) ?_)
  refine CN.out.mono ?_
  rintro e w2 ⟨rfl, hb2⟩
  have B2 := Lib.hid (thenBelow B1.out hb2)
  have G2 := Lib.hid (HG.out.below B2.out)
  clear hb2 S1 SW CN
  go_wp2_with fail
  refine (cloneSl_any p c b w2 G2.out.lies (fun e => ((G2.out.none e).1)) (by omega)).mono ?_
  intro e w3 hr3
  obtain ⟨v3, rfl, hO3, hB3⟩ := hr3.after B2.out
  have FO : Hid (RetOwn w 5 b (.returned v3) w3) := Lib.hid ⟨v3, rfl, hO3, hB3⟩
  clear hr3 hO3 hB3
  go_wp2
  go_ret
  exact FO.out
set_option maxHeartbeats 4000000 in
theorem refPutDot_is (p : Option Addr) (c : Nat) (l : List UInt8) (r n : Int) (w : World) (h : Given w p c l) (hd : (-1000000000000000000 ≤ r ∧ r ≤ 1000000000000000000) ∧ -1000000000000000000 ≤ n ∧ n ≤ 1000000000000000000) (hlen : l.length ≤ 141000000000000) :
    Calls Tryz.prog 26 #[.slice p l.length c, .agg (dcs r n)] w (RetOwn w 5 (l ++ dotB (r, n))) := by
  have H := Lib.hid h; clear h
  have WR := Lib.hid (wf_ok hd.1); have WN := Lib.hid (wf_ok hd.2)
  have EL := Lib.hid (enc_len r.toNat)
  clear hd
  go_enter Tryz.func26, Tryz.ntmps26
  go_wp2_with (refine wpList_gbox rfl _ rfl (dcs r n) rfl ?_)
  intro g3 w1 l3 h3 hb1
  have B1 := Lib.hid hb1
  have c0 := cell_of_row _ g3 0 _ _ _ h3
  have c1 := cell_of_row _ g3 1 _ _ _ h3
  have C0 : Hid (w1.cell? ⟨g3, 0, none⟩ = some (.int .i64 r)) := Lib.hid c0
  have C1 : Hid (w1.cell? ⟨g3, 1, none⟩ = some (.int .i64 n)) := Lib.hid c1
  clear hb1 h3 c0 c1
  go_wp2_with fail
  rename_i K2 hK2
  have m0 : Below w1.heap.size w1 w1.drew := (Below.refl _ _).drew
  refine rg_calm (by kernel_rfl) rfl (S := fun U => Below w1.heap.size w1 U) ?_
  refine rgd_pure 0 (some 5) rfl rfl (.slice p l.length c) (by kernel_rfl) (by kernel_rfl) (by kernel_rfl) (fun _ _ _ _ h => h) (by kernel_rfl) (fun w => by kernel_rfl) m0 ?_
  refine rgd_pure 1 (some 6) rfl rfl (.pointer (some ⟨g3, 0, none⟩)) (by kernel_rfl) (by kernel_rfl) (by kernel_rfl) (fun _ _ _ _ h => h) (by kernel_rfl) (fun w => by kernel_rfl) m0 ?_
  refine rgd_pureS 2 (some 7) rfl rfl (.int .i64 r) (by kernel_rfl) (by kernel_rfl) (by kernel_rfl) (fun _ _ _ _ h => h) (by kernel_rfl) (fun U hU => exec_load1 _ _ rfl Tryz.underlying3 rfl ⟨g3, 0, none⟩ _ (by kernel_rfl) (cell_hold C0.out hU)) m0 ?_
  refine rgd_pure 4 (some 9) rfl rfl (.pointer (some ⟨g3, 1, none⟩)) (by kernel_rfl) (by kernel_rfl) (by kernel_rfl) (fun _ _ _ _ h => h) (by kernel_rfl) (fun w => by kernel_rfl) m0 ?_
  refine rgd_pureS 5 (some 10) rfl rfl (.int .i64 n) (by kernel_rfl) (by kernel_rfl) (by kernel_rfl) (fun _ _ _ _ h => h) (by kernel_rfl) (fun U hU => exec_load1 _ _ rfl Tryz.underlying3 rfl ⟨g3, 1, none⟩ _ (by kernel_rfl) (cell_hold C1.out hU)) m0 ?_
  refine rgd_call 3 (some 8) (by kernel_rfl) rfl rfl (by kernel_rfl) 24 (#[.slice p l.length c, .int .i64 r]) (by kernel_rfl) (refNumW_any p c l r _ (H.out.below (thenBelow B1.out m0)) WR.out (by omega)) ?_
  rintro e U1 hr1
  obtain ⟨p1, c1, rfl, k1, b1⟩ := hr1.given
  have m1 := thenBelow m0 b1
  refine ⟨_, rfl, m1, ?_⟩
  refine rgd_call 6 (some 11) (by kernel_rfl) rfl rfl (by kernel_rfl) 24 (#[.slice p1 (l ++ Cod.enc r.toNat).length c1, .int .i64 n]) (by kernel_rfl) (refNumW_any p1 c1 (l ++ Cod.enc r.toNat) n _ k1 WN.out (by have := EL.out; rw [List.length_append]; omega)) ?_
  rintro e U2 hr2
  have HF := Lib.hid ((hr2.after (thenBelow B1.out m1)))
  obtain ⟨p2, c2, rfl, k2, b2⟩ := hr2.given
  have m2 := thenBelow m1 b2
  refine ⟨_, rfl, m2, ?_⟩
  refine rgd_pure 7 (some 4) rfl rfl (.slice p2 (l ++ Cod.enc r.toNat ++ Cod.enc n.toNat).length c2) (by kernel_rfl) (by kernel_rfl) (by kernel_rfl) (fun _ _ _ _ h => h) (by kernel_rfl) (fun w => by kernel_rfl) m2 ?_
  have HE : Hid (l ++ Cod.enc r.toNat ++ Cod.enc n.toNat = l ++ dotB (r, n)) := Lib.hid (by unfold dotB; simp only [List.append_assoc])
  have KE : K2 { tmps := #[.slice p l.length c, .agg (dcs r n), undef, .pointer (some ⟨g3, 0, none⟩), .slice p2 (l ++ Cod.enc r.toNat ++ Cod.enc n.toNat).length c2, .slice p l.length c, .pointer (some ⟨g3, 0, none⟩), .int .i64 r, .slice p1 (l ++ Cod.enc r.toNat).length c1, .pointer (some ⟨g3, 1, none⟩), .int .i64 n, .slice p2 (l ++ Cod.enc r.toNat ++ Cod.enc n.toNat).length c2], defers := [] } U2 := by
    refine hK2 _ _ ?_
    clear hK2 m0 m1 m2 k1 k2 hr1 b1 b2
    rw [HE.out] at HF ⊢
    go_wp2
    go_ret
    exact HF.out
  exact wpAnyH_done (by kernel_rfl) (Eq.mp (by kernel_rfl) KE) _
set_option maxHeartbeats 8000000 in
theorem refPutState_is (p : Option Addr) (c : Nat) (b : List UInt8) (F : Nat → Int) (q : Option Addr) (d : Nat) (L : List Wr) (w : World) (hb : Given w p c b) (hL : WrsAt w q L) (hc : canB F L = true) (hlen : b.length ≤ 140737488352000) :
    Calls Tryz.prog 10 #[.slice p b.length c, .agg (scs F (.slice q L.length d))] w (RetOwn w 5 (b ++ stB F L)) := by
  have HW := Lib.hid hL; have HG := Lib.hid hb
  have CP := can_iff.1 hc
  have SM : Hid (∀ y ∈ L, Small1 y) := Lib.hid fun y hy => small_of (CP.fine y hy).1
  have L4 : Hid (L.length ≤ 4096) := Lib.hid CP.len
  have CC : Hid (canB F L = true) := Lib.hid hc
  have VL := Lib.hid (vbytes_len F)
  have EL := Lib.hid (enc_len L.length)
  have WN : Hid ((Lit.int .i64 (L.length : Int)).wf = true) := Lib.hid (wf_ok (by have := L4.out; omega))
  clear hb hL hc CP
  obtain ⟨X, hX⟩ : ∃ X, b ++ stB F L = X := ⟨_, rfl⟩
  rw [hX]
  have HX : Hid (b ++ vbytes F ++ Cod.enc L.length ++ L.flatMap wtB = X) := Lib.hid (by rw [← hX]; unfold stB; simp only [List.append_assoc])
  clear hX
  go_enter Tryz.func10, Tryz.ntmps10
  go_wp2_with (refine wpList_gbox rfl _ rfl (scs F (.slice q L.length d)) rfl ?_)
  intro g3 w1 l1 h1 hb1
  have S1 : Hid (Sx w1 g3 F (.slice q L.length d)) := Lib.hid h1
  have B1 := Lib.hid hb1
  clear h1 hb1
  have SW := Lib.hid (S1.out.whole)
  have CN : Hid (Calls Tryz.prog 23 #[.agg (scs F (.slice q L.length d))] w1 (RetBool w1 true)) := Lib.hid (by have := refCan_is F q d L w1 (HW.out.below B1.out); rw [CC.out] at this; exact this)
  go_wp2_with (refine wpList_gload rfl _ rfl g3 0 rfl _ SW.out _ Tryz.underlying27 rfl (sizeStl _ _) ?_)
  refine CN.out.mono ?_
  rintro e w2 ⟨rfl, hb2⟩
  have S2 := Lib.hid (S1.out.later hb2); have B2 := Lib.hid (thenBelow B1.out hb2)
  clear hb2 S1 SW CN
  go_wp2_with fail
  rename_i K2 hK2
  have m0 : Below w2.heap.size w2 w2.drew := (Below.refl _ _).drew
  refine rg_calm (by kernel_rfl) rfl (S := fun U => Below w2.heap.size w2 U) ?_
  refine rgd_pure 0 (some 14) rfl rfl (.slice p b.length c) (by kernel_rfl) (by kernel_rfl) (by kernel_rfl) (fun _ _ _ _ h => h) (by kernel_rfl) (fun w => by kernel_rfl) m0 ?_
  refine rgd_pure 1 (some 15) rfl rfl (.pointer (some ⟨g3, 0, none⟩)) (by kernel_rfl) (by kernel_rfl) (by kernel_rfl) (fun _ _ _ _ h => h) (by kernel_rfl) (fun w => by kernel_rfl) m0 ?_
  refine rgd_pureS 2 (some 16) rfl rfl (.agg (vf F)) (by kernel_rfl) (by kernel_rfl) (by kernel_rfl) (fun _ _ _ _ h => h) (by kernel_rfl) (fun U hU => exec_gload 24 _ rfl g3 0 (by kernel_rfl) _ (S2.out.later hU).vec Tryz.underlying24 rfl (sizeVcl F)) m0 ?_
  refine rgd_pure 4 (some 18) rfl rfl (.pointer (some ⟨g3, 64, none⟩)) (by kernel_rfl) (by kernel_rfl) (by kernel_rfl) (fun _ _ _ _ h => h) (by kernel_rfl) (fun w => by kernel_rfl) m0 ?_
  refine rgd_pureS 5 (some 19) rfl rfl (.slice q L.length d) (by kernel_rfl) (by kernel_rfl) (by kernel_rfl) (fun _ _ _ _ h => h) (by kernel_rfl) (fun U hU => exec_load1 _ _ rfl Tryz.underlying25 rfl ⟨g3, 64, none⟩ _ (by kernel_rfl) (S2.out.later hU).slot) m0 ?_
  refine rgd_pure 6 (some 20) rfl rfl (.int .i64 (L.length : Int)) (by kernel_rfl) (by kernel_rfl) (by kernel_rfl) (fun _ _ _ _ h => h) (by kernel_rfl) (fun w => by kernel_rfl) m0 ?_
  refine rgd_call 3 (some 17) (by kernel_rfl) rfl rfl (by kernel_rfl) 25 (#[.slice p b.length c, .agg (vf F)]) (by kernel_rfl) (refVput_is p c b F _ (HG.out.below (thenBelow B2.out m0)) (by omega)) ?_
  rintro e U1 hr1
  obtain ⟨LA, hLA⟩ : ∃ X, b ++ vbytes F = X := ⟨_, rfl⟩
  have nA : LA.length ≤ 140737488353200 := by rw [← hLA]; have := VL.out; simp only [List.length_append]; omega
  rw [hLA] at hr1
  have HLA := Lib.hid hLA
  clear hLA
  obtain ⟨p1, q1, rfl, k1, b1⟩ := hr1.given
  have m1 := thenBelow m0 b1
  refine ⟨_, rfl, m1, ?_⟩
  refine rgd_call 7 (some 21) (by kernel_rfl) rfl rfl (by kernel_rfl) 24 (#[.slice p1 LA.length q1, .int .i64 (L.length : Int)]) (by kernel_rfl) (refNumW_any p1 q1 LA (L.length : Int) _ k1 WN.out (by omega)) ?_
  rintro e U2 hr2
  obtain ⟨LB, hLB⟩ : ∃ X, LA ++ Cod.enc (L.length : Int).toNat = X := ⟨_, rfl⟩
  have nB : LB.length ≤ 140737488354000 := by rw [← hLB]; have := EL.out; simp only [List.length_append, Int.toNat_natCast]; omega
  rw [hLB] at hr2
  have HLB := Lib.hid hLB
  clear hLB
  obtain ⟨p2, q2, rfl, k2, b2⟩ := hr2.given
  have m2 := thenBelow m1 b2
  refine ⟨_, rfl, m2, ?_⟩
  refine rgd_pure 8 (some 5) rfl rfl (.slice p2 LB.length q2) (by kernel_rfl) (by kernel_rfl) (by kernel_rfl) (fun _ _ _ _ h => h) (by kernel_rfl) (fun w => by kernel_rfl) m2 ?_
  have KE : K2 { tmps := #[.slice p b.length c, .agg (scs F (.slice q L.length d)), undef, .pointer (some ⟨g3, 0, none⟩), .slice none 0 0, .slice p2 LB.length q2, undef, undef, .agg (scs F (.slice q L.length d)), .bool true, .bool false, undef, undef, undef, .slice p b.length c, .pointer (some ⟨g3, 0, none⟩), .agg (vf F), .slice p1 LA.length q1, .pointer (some ⟨g3, 64, none⟩), .slice q L.length d, .int .i64 (L.length : Int), .slice p2 LB.length q2, undef, undef, undef, undef, undef, undef, undef, undef, undef, undef, undef, undef, undef, undef, undef, undef, undef, undef, undef, undef, undef, undef, undef, undef, undef, undef, undef], defers := [] } U2 := by
    refine hK2 _ _ ?_
    have B4 := Lib.hid (thenBelow B2.out m2)
    obtain ⟨v2, e2, hO2, _⟩ := hr2.after (thenBelow B2.out m1)
    obtain rfl : _ = v2 := by injection e2
    have O2 := Lib.hid hO2
    have k64 := (S2.out.later m2).slot
    have HB : Hid (LB = b ++ vbytes F ++ Cod.enc L.length) := Lib.hid (by rw [← HLB.out, ← HLA.out]; simp only [Int.toNat_natCast])
    clear e2 hO2 hK2 m0 m1 m2 k1 k2 hr1 hr2 b1 b2 S2
    go_wp2
    clear k64
    go_loopw [5, 25] (fun v i wr => ∃ (k : Nat) (LJ : List UInt8), k ≤ L.length ∧ i = .int .i64 k ∧ Hid (LJ = LB ++ (L.take k).flatMap wtB) ∧ LJ.length ≤ 140737488354000 + 2100 * k ∧ wr.ownsRow w.heap.size 5 1 v LJ.length (bys LJ) ∧ Below w.heap.size w wr) (fun _ i _ => L.length - (RowKit.intOf i).toNat)
    case atStart => exact ⟨0, LB, Nat.zero_le _, rfl, Lib.hid (by simp), by omega, O2.out, B4.out⟩
    case round =>
      obtain ⟨k, LJ, hk, rfl, HJ, hj, hown, hb⟩ := hrel
      have BB := Lib.hid hb
      have hL4 : L.length ≤ 4096 := L4.out
      by_cases hkl : k < L.length
      · have hkl' : (k : Int) < L.length := by omega
        obtain ⟨p0, c0, rfl, hg0⟩ := own_given hown
        clear hown hb
        have HWr := Lib.hid (HW.out.below BB.out)
        obtain ⟨b9, o9, rfl, hlt, hq⟩ := HWr.out.at hkl
        obtain ⟨y, hy⟩ : ∃ y, L[k] = y := ⟨_, rfl⟩
        rw [hy] at hq
        have YC := Lib.hid hy
        have YS : Small1 y := by rw [← hy]; exact SM.out _ (List.getElem_mem hkl)
        clear hy
        obtain ⟨x0, x1, x2, x3, x4, x5⟩ := wr_cells hq
        clear hq
        have yl := wtB_len YS
        have HJ2 : Hid (LJ ++ wtB y = LB ++ (L.take (k + 1)).flatMap wtB) := Lib.hid (by rw [wts_take L k hkl, HJ.out, YC.out, List.append_assoc])
        clear YC HJ
        obtain ⟨h_r, h_n, h_t, h_f, h_d, h_x⟩ := YS
        obtain ⟨yr, yn, yt, yd, yf, ytx⟩ := y
        simp only at x0 x1 x2 x3 x4 x5 h_r h_n h_t h_f h_d h_x
        have WT := Lib.hid (wf_ok h_t); have WF := Lib.hid (wf_ok h_f)
        have SZD : (Tryz.prog.info? 46).map (·.size) = some [Value.int .i64 yr, .int .i64 yn].length := by kernel_rfl
        have E0 := dotB_len (yr, yn); have E1 := enc_len yt.toNat; have E2 := enc_len yd.size; have E3 := enc_len yf.toNat; have E4 := enc_len ytx.size
        obtain ⟨g7, hg7⟩ : ∃ g, g = wr.heap.size := ⟨_, rfl⟩
        have ba := below_alloc wr (.cells #[.int .i64 yr, .int .i64 yn, .int .i64 yt, .string yd, .int .i64 yf, .string ytx] 48)
        have na := heap_alloc_new wr (.cells #[.int .i64 yr, .int .i64 yn, .int .i64 yt, .string yd, .int .i64 yf, .string ytx] 48)
        rw [← hg7] at na
        have B5 := Lib.hid (thenBelow BB.out ba); have G5 := Lib.hid (hg0.below ba)
        have R4 : Hid ((wr.alloc (.cells #[.int .i64 yr, .int .i64 yn, .int .i64 yt, .string yd, .int .i64 yf, .string ytx] 48)).rangeAt g7 0 (Wr.cells ⟨yr, yn, yt, yd, yf, ytx⟩)) := Lib.hid (range_of_block na)
        have HG7 := Lib.hid hg7
        clear hg7
        go_wp2
        rw [← HG7.out]
        generalize (wr.alloc (.cells #[.int .i64 yr, .int .i64 yn, .int .i64 yt, .string yd, .int .i64 yf, .string ytx] 48)) = w5 at R4 B5 G5 ⊢
        clear x0 x1 x2 x3 x4 x5 ba na hg0
        obtain ⟨c0', c1', c2', c3', c4', c5'⟩ := wr_cells R4.out
        simp only [Nat.zero_add] at c0' c1' c2' c3' c4' c5'
        have C2 := Lib.hid c2'; have C3 := Lib.hid c3'; have C4 := Lib.hid c4'; have C5 := Lib.hid c5'
        have RD := Lib.hid (wr_dot R4.out)
        clear c0' c1' c2' c3' c4' c5' R4
        go_wp2_with fail
        rename_i K2 hK2
        have m0 : Below w5.heap.size w5 w5.drew := (Below.refl _ _).drew
        refine rg_calm (by kernel_rfl) rfl (S := fun U => Below w5.heap.size w5 U) ?_
        refine rgd_pure 0 (some 29) rfl rfl (.slice p0 LJ.length c0) (by kernel_rfl) (by kernel_rfl) (by kernel_rfl) (fun _ _ _ _ h => h) (by kernel_rfl) (fun w => by kernel_rfl) m0 ?_
        refine rgd_pure 1 (some 30) rfl rfl (.pointer (some ⟨g7, 0, none⟩)) (by kernel_rfl) (by kernel_rfl) (by kernel_rfl) (fun _ _ _ _ h => h) (by kernel_rfl) (fun w => by kernel_rfl) m0 ?_
        refine rgd_pureS 2 (some 31) rfl rfl (.agg #[.int .i64 yr, .int .i64 yn]) (by kernel_rfl) (by kernel_rfl) (by kernel_rfl) (fun _ _ _ _ h => h) (by kernel_rfl) (fun U hU => exec_gload 46 _ rfl g7 0 (by kernel_rfl) _ (range_below RD.out hU) Tryz.underlying46 rfl SZD) m0 ?_
        refine rgd_pure 4 (some 33) rfl rfl (.pointer (some ⟨g7, 2, none⟩)) (by kernel_rfl) (by kernel_rfl) (by kernel_rfl) (fun _ _ _ _ h => h) (by kernel_rfl) (fun w => by kernel_rfl) m0 ?_
        refine rgd_pureS 5 (some 34) rfl rfl (.int .i64 yt) (by kernel_rfl) (by kernel_rfl) (by kernel_rfl) (fun _ _ _ _ h => h) (by kernel_rfl) (fun U hU => exec_load1 _ _ rfl Tryz.underlying3 rfl ⟨g7, 2, none⟩ _ (by kernel_rfl) (cell_hold C2.out hU)) m0 ?_
        refine rgd_call 3 (some 32) (by kernel_rfl) rfl rfl (by kernel_rfl) 26 (#[.slice p0 LJ.length c0, .agg (dcs yr yn)]) (by kernel_rfl) (refPutDot_is p0 c0 LJ yr yn _ (G5.out.below m0) ⟨h_r, h_n⟩ (by omega)) ?_
        rintro e U3 hr3
        obtain ⟨L3b, hL3⟩ : ∃ X, LJ ++ dotB (yr, yn) = X := ⟨_, rfl⟩
        have n3 : L3b.length ≤ LJ.length + 18 := by rw [← hL3]; simp only [List.length_append]; omega
        rw [hL3] at hr3
        have HL3 := Lib.hid hL3
        clear hL3
        obtain ⟨p3, q3, rfl, k3, b3⟩ := hr3.given
        have m1 := thenBelow m0 b3
        refine ⟨_, rfl, m1, ?_⟩
        refine rgd_call 6 (some 35) (by kernel_rfl) rfl rfl (by kernel_rfl) 24 (#[.slice p3 L3b.length q3, .int .i64 yt]) (by kernel_rfl) (refNumW_any p3 q3 L3b yt _ k3 WT.out (by omega)) ?_
        rintro e U4 hr4
        obtain ⟨L4b, hL4⟩ : ∃ X, L3b ++ Cod.enc yt.toNat = X := ⟨_, rfl⟩
        have n4 : L4b.length ≤ LJ.length + 27 := by rw [← hL4]; simp only [List.length_append]; omega
        rw [hL4] at hr4
        have HL4 := Lib.hid hL4
        clear hL4
        obtain ⟨p4, q4, rfl, k4, b4⟩ := hr4.given
        have m2 := thenBelow m1 b4
        refine ⟨_, rfl, m2, ?_⟩
        refine rgd_pure 7 (some 5) rfl rfl (.slice p4 L4b.length q4) (by kernel_rfl) (by kernel_rfl) (by kernel_rfl) (fun _ _ _ _ h => h) (by kernel_rfl) (fun w => by kernel_rfl) m2 ?_
        have KE2 : K2 { tmps := #[.slice p b.length c, .agg (scs F (.slice (some ⟨b9, o9, none⟩) L.length d)), undef, .pointer (some ⟨g3, 0, none⟩), .slice none 0 0, .slice p4 L4b.length q4, undef, .pointer (some ⟨g7, 0, none⟩), .agg (scs F (.slice (some ⟨b9, o9, none⟩) L.length d)), .bool true, .bool false, undef, undef, undef, .slice p b.length c, .pointer (some ⟨g3, 0, none⟩), .agg (vf F), .slice p1 LA.length q1, .pointer (some ⟨g3, 64, none⟩), .slice (some ⟨b9, o9, none⟩) L.length d, .int .i64 (L.length : Int), .slice p2 LB.length q2, .pointer (some ⟨g3, 64, none⟩), .slice (some ⟨b9, o9, none⟩) L.length d, .int .i64 (L.length : Int), .int .i64 (k : Int), .bool true, .pointer (some ⟨b9, o9 + k * 6, none⟩), .agg #[.int .i64 yr, .int .i64 yn, .int .i64 yt, .string yd, .int .i64 yf, .string ytx], .slice p0 LJ.length c0, .pointer (some ⟨g7, 0, none⟩), .agg #[.int .i64 yr, .int .i64 yn], .slice p3 L3b.length q3, .pointer (some ⟨g7, 2, none⟩), .int .i64 yt, .slice p4 L4b.length q4, u36, u37, u38, u39, u40, u41, u42, u43, u44, u45, u46, u47, undef], defers := [] } U4 := by
          refine hK2 _ _ ?_
          have B6 := Lib.hid (thenBelow B5.out m2)
          have G6 := Lib.hid k4
          have D2 := Lib.hid (cell_hold C3.out m2)
          have D4 := Lib.hid (cell_hold C4.out m2); have D5 := Lib.hid (cell_hold C5.out m2)
          clear hK2 m0 m1 m2 k3 k4 hr3 hr4 b3 b4
          have d3 := D2.out
          go_wp2_with fail
          refine (refTextW_any p4 q4 L4b yd U4 G6.out (by omega)).mono ?_
          intro e U5 hr5
          obtain ⟨L5, hL5⟩ : ∃ X, L4b ++ Cod.enc yd.size ++ yd.data.toList = X := ⟨_, rfl⟩
          have n5 : L5.length ≤ LJ.length + 1040 := by rw [← hL5]; simp only [List.length_append, Array.length_toList, ByteArray.size_data]; omega
          rw [hL5] at hr5
          have HL5 := Lib.hid hL5
          clear hL5 d3
          obtain ⟨p5, q5, rfl, k5, b5⟩ := hr5.given
          have B7 := Lib.hid (thenBelow B6.out b5); have G7 := Lib.hid k5
          have T4 := Lib.hid (cell_hold D4.out b5); have T5 := Lib.hid (cell_hold D5.out b5)
          clear hr5 k5 b5
          go_wp2_with fail
          rename_i K3 hK3
          have m0 : Below U5.heap.size U5 U5.drew := (Below.refl _ _).drew
          refine rg_last (by kernel_rfl) rfl (S := fun U => Below U5.heap.size U5 U) ?_
          refine rgd_pure 0 (some 40) rfl rfl (.slice p5 L5.length q5) (by kernel_rfl) (by kernel_rfl) (by kernel_rfl) (fun _ _ _ _ h => h) (by kernel_rfl) (fun w => by kernel_rfl) m0 ?_
          refine rgd_pure 1 (some 41) rfl rfl (.pointer (some ⟨g7, 4, none⟩)) (by kernel_rfl) (by kernel_rfl) (by kernel_rfl) (fun _ _ _ _ h => h) (by kernel_rfl) (fun w => by kernel_rfl) m0 ?_
          refine rgd_pureS 2 (some 42) rfl rfl (.int .i64 yf) (by kernel_rfl) (by kernel_rfl) (by kernel_rfl) (fun _ _ _ _ h => h) (by kernel_rfl) (fun U hU => exec_load1 _ _ rfl Tryz.underlying3 rfl ⟨g7, 4, none⟩ _ (by kernel_rfl) (cell_hold T4.out hU)) m0 ?_
          refine rgd_pure 4 (some 44) rfl rfl (.pointer (some ⟨g7, 5, none⟩)) (by kernel_rfl) (by kernel_rfl) (by kernel_rfl) (fun _ _ _ _ h => h) (by kernel_rfl) (fun w => by kernel_rfl) m0 ?_
          refine rgd_pureS 5 (some 45) rfl rfl (.string ytx) (by kernel_rfl) (by kernel_rfl) (by kernel_rfl) (fun _ _ _ _ h => h) (by kernel_rfl) (fun U hU => exec_load1 _ _ rfl Tryz.underlying9 rfl ⟨g7, 5, none⟩ _ (by kernel_rfl) (cell_hold T5.out hU)) m0 ?_
          refine rgd_call 3 (some 43) (by kernel_rfl) rfl rfl (by kernel_rfl) 24 (#[.slice p5 L5.length q5, .int .i64 yf]) (by kernel_rfl) (refNumW_any p5 q5 L5 yf _ (G7.out.below m0) WF.out (by omega)) ?_
          rintro e U6 hr6
          obtain ⟨L6, hL6⟩ : ∃ X, L5 ++ Cod.enc yf.toNat = X := ⟨_, rfl⟩
          have n6 : L6.length ≤ LJ.length + 1050 := by rw [← hL6]; simp only [List.length_append]; omega
          rw [hL6] at hr6
          have HL6 := Lib.hid hL6
          clear hL6
          obtain ⟨p6, q6, rfl, k6, b6⟩ := hr6.given
          have m1 := thenBelow m0 b6
          refine ⟨_, rfl, m1, ?_⟩
          refine rgd_call 6 (some 46) (by kernel_rfl) rfl rfl (by kernel_rfl) 27 (#[.slice p6 L6.length q6, .string ytx]) (by kernel_rfl) (refTextW_any p6 q6 L6 ytx _ k6 (by omega)) ?_
          rintro e U7 hr7
          obtain ⟨L7, hL7⟩ : ∃ X, L6 ++ Cod.enc ytx.size ++ ytx.data.toList = X := ⟨_, rfl⟩
          rw [hL7] at hr7
          have HL7 := Lib.hid hL7
          clear hL7
          obtain ⟨p7, q7, rfl, k7, b7⟩ := hr7.given
          have m2 := thenBelow m1 b7
          refine ⟨_, rfl, m2, ?_⟩
          refine rgd_pure 7 (some 5) rfl rfl (.slice p7 L7.length q7) (by kernel_rfl) (by kernel_rfl) (by kernel_rfl) (fun _ _ _ _ h => h) (by kernel_rfl) (fun w => by kernel_rfl) m2 ?_
          have KE3 : K3 { tmps := #[.slice p b.length c, .agg (scs F (.slice (some ⟨b9, o9, none⟩) L.length d)), undef, .pointer (some ⟨g3, 0, none⟩), .slice none 0 0, .slice p7 L7.length q7, undef, .pointer (some ⟨g7, 0, none⟩), .agg (scs F (.slice (some ⟨b9, o9, none⟩) L.length d)), .bool true, .bool false, undef, undef, undef, .slice p b.length c, .pointer (some ⟨g3, 0, none⟩), .agg (vf F), .slice p1 LA.length q1, .pointer (some ⟨g3, 64, none⟩), .slice (some ⟨b9, o9, none⟩) L.length d, .int .i64 (L.length : Int), .slice p2 LB.length q2, .pointer (some ⟨g3, 64, none⟩), .slice (some ⟨b9, o9, none⟩) L.length d, .int .i64 (L.length : Int), .int .i64 (k : Int), .bool true, .pointer (some ⟨b9, o9 + k * 6, none⟩), .agg #[.int .i64 yr, .int .i64 yn, .int .i64 yt, .string yd, .int .i64 yf, .string ytx], .slice p0 LJ.length c0, .pointer (some ⟨g7, 0, none⟩), .agg #[.int .i64 yr, .int .i64 yn], .slice p3 L3b.length q3, .pointer (some ⟨g7, 2, none⟩), .int .i64 yt, .slice p4 L4b.length q4, .slice p4 L4b.length q4, .pointer (some ⟨g7, 3, none⟩), .string yd, .slice p5 L5.length q5, .slice p5 L5.length q5, .pointer (some ⟨g7, 4, none⟩), .int .i64 yf, .slice p6 L6.length q6, .pointer (some ⟨g7, 5, none⟩), .string ytx, .slice p7 L7.length q7, u47, undef], defers := [] } U7 := by
            refine hK3 _ _ ?_
            have B8 := Lib.hid (thenBelow B7.out m2)
            obtain ⟨v7, e7, hO7, _⟩ := hr7.after (thenBelow B7.out m1)
            obtain rfl : _ = v7 := by injection e7
            have HALL : Hid (L7 = LB ++ (L.take (k + 1)).flatMap wtB) := Lib.hid (by
              rw [← HJ2.out, ← HL7.out, ← HL6.out, ← HL5.out, ← HL4.out, ← HL3.out]
              unfold wtB
              simp only [List.append_assoc])
            have n7 : Hid (L7.length ≤ 140737488354000 + 2100 * (k + 1)) := Lib.hid (by
              have h1 := congrArg List.length (HALL.out.trans HJ2.out.symm)
              rw [List.length_append] at h1
              omega)
            have O7 := Lib.hid hO7
            clear hK3 m0 m1 m2 hr6 hr7 hO7 e7
            go_wp2
            go_roundw
            case rel => exact ⟨k + 1, L7, by omega, by go_num, HALL, n7.out, O7.out, B8.out⟩
            case measure => simp [RowKit.intOf]; omega
          exact wpAnyH_done (by kernel_rfl) (Eq.mp (by kernel_rfl) KE3) _
        exact wpAnyH_done (by kernel_rfl) (Eq.mp (by kernel_rfl) KE2) _
      · obtain rfl : k = L.length := by omega
        have OO := Lib.hid hown
        clear hown hb
        have hkl' : ¬ ((L.length : Nat) : Int) < L.length := by omega
        have HJ2 : Hid (LJ = X) := Lib.hid (by rw [HJ.out, List.take_length, HB.out]; exact HX.out)
        have FO : Hid (RetOwn w 5 X (.returned u5) wr) := Lib.hid (by rw [← HJ2.out]; exact ⟨u5, rfl, OO.out, BB.out⟩)
        clear HJ HJ2 OO hj
        go_wp2
        go_ret
        exact FO.out
  exact wpAnyH_done (by kernel_rfl) (Eq.mp (by kernel_rfl) KE) _

set_option maxHeartbeats 4000000 in
theorem refPutStateA_is (p : Option Addr) (c : Nat) (b : List UInt8) (F : Nat → Int) (q : Option Addr) (d : Nat) (L : List Wr) (w : World) (hb : Given w p c b) (hL : WrsAt w q L) (hlen : b.length ≤ 140737488352000) :
    Calls Tryz.prog 10 #[.slice p b.length c, .agg (scs F (.slice q L.length d))] w (RetOwn w 5 (b ++ stP F L)) := by
  by_cases hc : canB F L = true
  · have e : stP F L = stB F L := by unfold stP; rw [if_pos hc]
    rw [e]
    exact refPutState_is p c b F q d L w hb hL hc hlen
  have e : b ++ stP F L = b := by unfold stP; rw [if_neg hc, List.append_nil]
  rw [e]
  have CC : Hid (canB F L = false) := Lib.hid (by simpa using hc)
  have HW := Lib.hid hL; have HG := Lib.hid hb
  clear hb hL hc e
  go_enter Tryz.func10, Tryz.ntmps10
  go_wp2_with (refine wpList_gbox rfl _ rfl (scs F (.slice q L.length d)) rfl ?_)
  intro g3 w1 l1 h1 hb1
  have S1 : Hid (Sx w1 g3 F (.slice q L.length d)) := Lib.hid h1
  have B1 := Lib.hid hb1
  clear h1 hb1
  have SW := Lib.hid (S1.out.whole)
  have CN : Hid (Calls Tryz.prog 23 #[.agg (scs F (.slice q L.length d))] w1 (RetBool w1 false)) := Lib.hid (by have := refCan_is F q d L w1 (HW.out.below B1.out); rw [CC.out] at this; exact this)
  go_wp2_with (refine wpList_gload rfl _ rfl g3 0 rfl _ SW.out _ Tryz.underlying27 rfl (sizeStl _ _) ?_)
  refine CN.out.mono ?_
  rintro e w2 ⟨rfl, hb2⟩
  have B2 := Lib.hid (thenBelow B1.out hb2)
  have G2 := Lib.hid (HG.out.below B2.out)
  clear hb2 S1 SW CN
  have O2 := Lib.hid (show (w2.alloc (.cells #[] 5)).ownsRow w2.heap.size 5 1 (.slice (some ⟨w2.heap.size, 0, none⟩) 0 0) 0 (bys []) from World.ownsRow_made w2 #[] 0 (Nat.le_refl _) (Nat.zero_le _) rfl)
  have ba := below_alloc w2 (.cells #[] 5)
  have B3 := Lib.hid (thenBelow B2.out ba)
  have hz3 := B2.out.size
  have hz4 := ba.size
  have G3 := Lib.hid (G2.out.below ba)
  clear ba
  go_wp2_with (at_builtin; refine wpList_bytesW isU8 _ rfl _ _ rfl w2.heap.size 0 [] _ rfl O2.out p b.length c b rfl G3.out.lies rfl (fun e => ⟨by rw [(G3.out.none e).1]; rfl, (G3.out.none e).2⟩) (by omega) hz4 ?_)
  intro v3 w3 o3 b3
  have B4 := Lib.hid (B3.out.trans (b3.mono hz3))
  have o3' : w3.ownsRow w.heap.size 5 1 v3 b.length (bys b) := by
    have := o3
    exact own_mono this hz3
  have FO : Hid (RetOwn w 5 b (.returned v3) w3) := Lib.hid ⟨v3, rfl, o3', B4.out⟩
  clear o3 o3' b3
  go_wp2
  go_ret
  exact FO.out
end Go.Proofs.YtjmglgcifekhgaaGreatDoor
/- The walk of DocsBytes: a state's bytes behind any others, and a state of any bytes. -/
namespace Go.Proofs.YtjmglgcifekhgaaGreatDoor
open Go Go.RowKit
set_option linter.unusedVariables false
set_option maxRecDepth 1000000

theorem cloneOwn_any (p : Option Addr) (c : Nat) (l : List UInt8) (w : World) (h : Lies w p l) (hp : p = none → l = []) (hbig : l.length ≤ 140737488355328) :
    Calls Tryz.prog 6 #[.slice p l.length c] w (RetOwn w 5 l) := by
  have q : ∀ (w : World) (a : Option Addr) (n c n' c' : Nat), (binOp .eql 22 (.slice a n c) (.slice none n' c')).run Tryz.prog w = .ok (.bool a.isNone) w := fun w a n c n' c' => Lib.run_eql_slice_nil w _ _ a n c n' c' Tryz.underlying22
  cases p with
  | none =>
    obtain rfl := hp rfl
    go_enter Tryz.func6, Tryz.ntmps6
    go_wp2
    go_ret
    exact ⟨_, rfl, World.ownsRow_nil _ _ _ _, Below.refl _ _⟩
  | some a =>
    obtain ⟨i0, hi, hz0, hz1, hz2⟩ := info_parts infoU8
    have H : Hid (∀ j u, (bys l)[j]? = some u → w.cell? (a.add j) = some u) := by
      by_cases h0 : l = []
      · subst h0; intro j u hu; simp [bys] at hu
      · obtain ⟨b, o, e, hc⟩ := h h0
        obtain rfl := Option.some.inj e
        exact Lies.news hc
    clear h hp
    go_enter Tryz.func6, Tryz.ntmps6
    go_wp2_with (at_builtin; refine wpList_append_own _ rfl _ _ 22 rfl w.heap.size 5 i0 (.int .u8 0) 1 1 Tryz.underlying22 hi hz0 hz1 hz2 rfl (by decide) _ _ _ rfl (World.ownsRow_made w #[] 0 (Nat.le_refl _) (Nat.zero_le _) rfl) a l.length c (bys l) rfl ?qc1 ?qc2 ?qc3 ?qc4 ?qc5 ?qc6 ?_)
    case qc1 => simp [bys]
    case qc2 => exact fun j u hj => cell_alloc _ (H.out j u hj)
    case qc3 => exact bys_one l
    case qc4 => unfold maxLen; omega
    case qc5 => omega
    case qc6 => simp
    intro v' w1 hown hgrow hnil
    go_wp2
    go_ret
    exact RetOwn.of_own (by simpa using hown) rfl (((Below.refl _ w).alloc (Nat.le_refl _) _).grown hgrow (by simp) (by intro k hk; simp [Value.ownBlock] at hk; omega))
theorem rrd_new {w : World} {lo : Nat} {v : Value} {l : List UInt8} (h : w.ownsRow lo 5 1 v l.length (bys l)) (h0 : lo ≤ w.heap.size) : RRd (w.alloc (rObj v 0)) w.heap.size lo (l, 0) := by
  have hnew : (w.alloc (rObj v 0)).heap[w.heap.size]? = some (rObj v 0) := heap_alloc_new w _
  have h' := h
  rcases h.2 with ⟨rfl, hn⟩ | ⟨g, cap, cur, rfl, hg, hcur, hnc, _⟩
  · have : l = [] := List.eq_nil_of_length_eq_zero hn
    subst this
    exact ⟨none, 0, hnew, Nat.le_refl _, fun _ => rfl, .inl ⟨rfl, rfl⟩⟩
  · refine ⟨some ⟨g, 0, none⟩, cap, hnew, hnc, fun e => absurd rfl e, .inr ⟨g, 0, rfl, fun i hi => ?_, hg, (Array.getElem?_eq_some_iff.1 hcur).1⟩⟩
    have := (own_cell h' i hi).1
    rw [Nat.zero_add]
    exact cell_alloc _ (by simpa using this)

theorem stL_len (s : Cod.S) : (stL s).length ≤ 10000 := by
  unfold stL
  split
  · rename_i h
    unfold okS at h
    simp only [Bool.and_eq_true] at h
    have := (can_iff.1 h.2).len
    omega
  · simp
theorem wrs_apart {w w' : World} {p : Option Addr} {L : List Wr} {A lo : Nat} {s : Cod.S} (h : WrsAt w p L) (hr : RRd w A lo s) (hg : w.grownBy w' (some A)) : WrsAt w' p L := by
  obtain ⟨p1, c1, hA, _⟩ := hr
  refine ⟨fun hn => ?_, h.none⟩
  have h0 : 0 < L.length := List.length_pos_iff.2 hn
  obtain ⟨b0, o0, rfl, hlt, _⟩ := h.at h0
  obtain ⟨b, o, e, hr⟩ := h.row hn
  obtain ⟨rfl, rfl, _⟩ := Addr.mk.inj (Option.some.inj e)
  have h5 : 5 < (wcl L).length := by rw [wcl_length]; omega
  have hc := hr 5 _ (List.getElem?_eq_getElem h5)
  have hne : b0 ≠ A := by
    rintro rfl
    have hx := cell_of_row w b0 (o0 + 5) _ _ _ hA
    rw [hc] at hx
    simp at hx
  refine ⟨b0, o0, rfl, fun j u hu => ?_⟩
  exact (World.cell?_of_block (w := w) (hg.block b0 hlt (fun e => hne (Option.some.inj e)))).trans (hr j u hu)

set_option maxHeartbeats 8000000 in
theorem docsBytes_walk (p : Option Addr) (c : Nat) (b : List UInt8) (F : Nat → Int) (q : Option Addr) (d : Nat) (L : List Wr) (r : Option Addr) (k : Nat) (l : List UInt8) (W : World) (h : Came W p c b) (hw : WrsAt W q L) (ho : ∀ a, q = some a → ∃ b o, a = ⟨b, o, none⟩) (hq : Came W r k l) (hT : Shapes W) :
    Calls Tryz.prog 3 #[.slice p b.length c, .agg (scs F (.slice q L.length d)), .slice r l.length k] W (Yes W) := by
  have hre := h.reach
  have hle := h.le
  have GB := Lib.hid (show Given W p c b from ⟨h.lies, h.le, h.none⟩)
  have GG := Lib.hid (show Given W r k l from ⟨hq.lies, hq.le, hq.none⟩)
  have hl47 : l.length ≤ 140737488355328 := by have h1 := hq.reach; have h2 := hq.le; omega
  have HW := Lib.hid hw; have HT := Lib.hid hT
  clear h hq hw hT ho
  go_enter Tryz.func3, Tryz.ntmps3
  go_wp2_with (refine wpList_gbox rfl _ rfl (scs F (.slice q L.length d)) rfl ?_)
  intro g2 w1 l2 h2 hb1
  have S1 : Hid (Sx w1 g2 F (.slice q L.length d)) := Lib.hid h2
  have B1 := Lib.hid hb1
  have SW := Lib.hid (S1.out.whole)
  clear h2 hb1
  go_wp2_with (refine wpList_gload rfl _ rfl g2 0 rfl _ SW.out _ Tryz.underlying27 rfl (sizeStl _ _) ?_)
  refine (smallS_is F q d L w1 (HW.out.below B1.out)).mono ?_
  rintro e w3 ⟨b9, rfl, hb9, hb3⟩
  have S3 := Lib.hid (S1.out.later hb3); have B3 := Lib.hid (thenBelow B1.out hb3)
  clear hb3 hb9 S1 SW B1
  cases b9 with
  | false =>
    have AW := Lib.hid (awake12 w3 (HT.out.below B3.out))
    go_wp2_with fail
    refine AW.out.mono ?_
    rintro e w99 ⟨rfl, hb99⟩
    have B99 := Lib.hid (thenBelow B3.out hb99)
    clear hb99 AW
    go_wp2
    go_ret
    exact ⟨rfl, B99.out⟩
  | true =>
  by_cases hbig : (4096 : Int) < l.length
  ·
    have AW := Lib.hid (awake12 w3 (HT.out.below B3.out))
    go_wp2_with fail
    refine AW.out.mono ?_
    rintro e w99 ⟨rfl, hb99⟩
    have B99 := Lib.hid (thenBelow B3.out hb99)
    clear hb99 AW
    go_wp2
    go_ret
    exact ⟨rfl, B99.out⟩
  have hl4 : l.length ≤ 4096 := by omega
  have CB := Lib.hid (cloneOwn_any p c b w3 (GB.out.below B3.out).lies (fun e => ((GB.out.none e).1)) (by omega))
  go_wp2_with fail
  refine CB.out.mono ?_
  intro e w2 hr2
  obtain ⟨p1, c1, rfl, hg2, hb2⟩ := hr2.given
  have B2 := Lib.hid (thenBelow B3.out hb2); have R2 := Lib.hid (S3.out.later hb2); have C2 := Lib.hid hg2
  have RD := Lib.hid (read_all r k l w2 (GG.out.below B2.out) hl47)
  clear hr2 hg2 hb2 CB S3 B3
  go_wp2_with fail
  refine RD.out.mono ?_
  rintro e w3 ⟨B, rfl, hB, hrd, hb3⟩
  have B3 := Lib.hid (thenBelow B2.out hb3); have R3 := Lib.hid (R2.out.later hb3); have C3 := Lib.hid (C2.out.below hb3); have D3 := Lib.hid hrd
  have hgaB : g2 < B := Nat.lt_of_lt_of_le R2.out.lt hB
  have hBW : W.heap.size ≤ B := Nat.le_trans B2.out.size hB
  have hB3 : B < w3.heap.size := hrd.lt
  have CL := Lib.hid (cloneOwn_any r k l w3 (GG.out.below B3.out).lies (fun e => ((GG.out.none e).1)) hl47)
  clear hrd hb3 RD R2 C2 B2 hB
  go_wp2_with fail
  refine CL.out.mono ?_
  rintro e w4 ⟨v4, rfl, ho4, hb4⟩
  have B4 := Lib.hid (thenBelow B3.out hb4); have R4 := Lib.hid (R3.out.later hb4); have C4 := Lib.hid (C3.out.below hb4); have D4 := Lib.hid (D3.out.below hb4)
  have T4 := Lib.hid (rrd_new ho4 hb4.size)
  have hz4 := hb4.size
  obtain ⟨hkk, pv, cv, rfl, hcv, _, _, _⟩ := own_lies ho4
  clear hkk ho4 hb4 CL R3 C3 D3
  obtain ⟨lo, hlo⟩ : ∃ lo, lo = w3.heap.size := ⟨_, rfl⟩
  rw [← hlo] at T4 hz4 hB3
  obtain ⟨A, hA⟩ : ∃ A, A = w4.heap.size := ⟨_, rfl⟩
  have hz3 := B3.out.size
  rw [← hlo] at hz3
  have T5 : Hid (RRd (w4.alloc (.cells #[.slice pv l.length cv, .int .i64 0] 36)) A lo (l, 0)) := by rw [hA]; exact T4.out
  have al : Below w4.heap.size w4 (w4.alloc (.cells #[.slice pv l.length cv, .int .i64 0] 36)) := (Below.refl _ _).alloc (Nat.le_refl _) _
  have B5 := Lib.hid (thenBelow B4.out al); have R5 := Lib.hid (R4.out.later al); have C5 := Lib.hid (C4.out.below al); have D5 := Lib.hid (D4.out.below al)
  have hBlo : B < lo := hB3
  have hloA : lo ≤ A := by rw [hA]; exact hz4
  have HA := Lib.hid hA
  have HZ3 := Lib.hid hz3; have HBL := Lib.hid hBlo; have HLA := Lib.hid hloA
  clear T4 al R4 C4 D4 hlo B3 B4 hB3 hz4 hA hz3 hBlo hloA
  go_wp2
  generalize (w4.alloc (.cells #[.slice pv l.length cv, .int .i64 0] 36)) = wq at T5 B5 R5 C5 D5 ⊢
  rw [← HA.out]
  have hBlo := HBL.out; have hloA := HLA.out; have hz3 := HZ3.out
  have T4 := T5; have B4 := B5; have R4 := R5; have C4 := C5; have D4 := D5
  clear T5 B5 R5 C5 D5
  refine rg_start (n := 42) (S := fun w' => Sx w' g2 F (.slice q L.length d)) (by kernel_rfl) rfl (R4.out.later (Below.refl _ _).drew) ?_
  have b0 : Below W.heap.size W wq.drew := B4.out.drew
  have X0 : Sx wq.drew g2 F (.slice q L.length d) := R4.out.later (Below.refl _ _).drew
  have C0 : Given wq.drew p1 c1 b := C4.out.below (Below.refl _ _).drew
  have D0 : RdA wq.drew B (l, 0) := D4.out.below (Below.refl _ _).drew
  have T0 : RRd wq.drew A lo (l, 0) := T4.out.below (Below.refl _ _).drew
  generalize wq.drew = w0 at b0 X0 C0 D0 T0 ⊢
  clear B4 R4 C4 D4 T4
  refine rgd_pure 0 (some 27) rfl rfl (.slice p b.length c) (by kernel_rfl) (by kernel_rfl) (by kernel_rfl) (fun _ _ _ _ h => h) (by kernel_rfl) (fun _ => by kernel_rfl) X0 ?_
  refine rgd_pureS 1 (some 28) rfl rfl (.agg (scs F (.slice q L.length d))) (by kernel_rfl) (by kernel_rfl) (by kernel_rfl) (fun _ _ _ _ h => h) (by kernel_rfl) (fun U hU => exec_gload 27 _ rfl g2 0 (by kernel_rfl) _ hU.whole Tryz.underlying27 rfl (sizeStl _ _)) X0 ?_
  refine rgd_pure 3 (some 30) rfl rfl (.slice p1 b.length c1) (by kernel_rfl) (by kernel_rfl) (by kernel_rfl) (fun _ _ _ _ h => h) (by kernel_rfl) (fun _ => by kernel_rfl) X0 ?_
  refine rgd_pureS 4 (some 31) rfl rfl (.agg (scs F (.slice q L.length d))) (by kernel_rfl) (by kernel_rfl) (by kernel_rfl) (fun _ _ _ _ h => h) (by kernel_rfl) (fun U hU => exec_gload 27 _ rfl g2 0 (by kernel_rfl) _ hU.whole Tryz.underlying27 rfl (sizeStl _ _)) X0 ?_
  refine rg_call 2 (by kernel_rfl) rfl (by kernel_rfl) 9 #[.slice p b.length c, .agg (scs F (.slice q L.length d))] (by kernel_rfl) (docPutA_is p c b F q d L w0 (GB.out.below b0) (HW.out.below b0) (HT.out.below b0) (by omega)) ?_
  intro e w5 hr5
  obtain ⟨p5, c5, rfl, hg5, hb5⟩ := hr5.given
  have b5 := thenBelow b0 hb5
  have X5 := X0.later hb5; have C5 := C0.below hb5; have D5 := D0.below hb5; have T5 := T0.below hb5
  refine ⟨_, rfl, X5, ?_⟩
  refine rg_call 5 (by kernel_rfl) rfl (by kernel_rfl) 10 #[.slice p1 b.length c1, .agg (scs F (.slice q L.length d))] (by kernel_rfl) (refPutStateA_is p1 c1 b F q d L w5 C5 (HW.out.below b5) (by omega)) ?_
  intro e w6 hr6
  obtain ⟨p6, c6, rfl, hg6, hb6⟩ := hr6.given
  have b6 := thenBelow b5 hb6
  have X6 := X5.later hb6; have C6 := C5.below hb6; have D6 := D5.below hb6; have T6 := T5.below hb6
  refine ⟨_, rfl, X6, ?_⟩
  refine rg_call 6 (by kernel_rfl) rfl (by kernel_rfl) 8 #[.slice p5 (b ++ stP F L).length c5, .slice p6 (b ++ stP F L).length c6] (by kernel_rfl) (equal_any p5 p6 _ _ c5 c6 (b ++ stP F L) (b ++ stP F L) w6 (hg5.lies.below hb6) hg6.lies rfl rfl) ?_
  rintro e w7 ⟨he7, hw7⟩
  subst hw7
  have he8 : e = .returned (.bool true) := by rw [he7]; simp
  refine ⟨.bool true, he8, X6, ?_⟩
  refine rgd_pure 7 (some 34) rfl rfl (.bool true) (by kernel_rfl) (by kernel_rfl) (by kernel_rfl) (fun _ _ _ _ h => h) (by kernel_rfl) (fun _ => by kernel_rfl) X6 ?_
  refine rgd_pure 8 (some 35) rfl rfl (.slice p b.length c) (by kernel_rfl) (by kernel_rfl) (by kernel_rfl) (fun _ _ _ _ h => h) (by kernel_rfl) (fun _ => by kernel_rfl) X6 ?_
  refine rgd_pure 9 (some 36) rfl rfl (.slice p1 b.length c1) (by kernel_rfl) (by kernel_rfl) (by kernel_rfl) (fun _ _ _ _ h => h) (by kernel_rfl) (fun _ => by kernel_rfl) X6 ?_
  refine rg_call 10 (by kernel_rfl) rfl (by kernel_rfl) 8 #[.slice p b.length c, .slice p1 b.length c1] (by kernel_rfl) (equal_any p p1 _ _ c c1 b b w6 (GB.out.below b6).lies C6.lies rfl rfl) ?_
  rintro e w7 ⟨he7, hw7⟩
  subst hw7
  have he9 : e = .returned (.bool true) := by rw [he7]; simp
  refine ⟨.bool true, he9, X6, ?_⟩
  refine rgd_pure 11 (some 38) rfl rfl (.bool true) (by kernel_rfl) (by kernel_rfl) (by kernel_rfl) (fun _ _ _ _ h => h) (by kernel_rfl) (fun _ => by kernel_rfl) X6 ?_
  refine rgd_pure 12 (some 39) rfl rfl (.bool true) (by kernel_rfl) (by kernel_rfl) (by kernel_rfl) (fun _ _ _ _ h => h) (by kernel_rfl) (fun _ => by kernel_rfl) X6 ?_
  refine rgd_pure 13 (some 40) rfl rfl (.pointer (some ⟨B, 0, none⟩)) (by kernel_rfl) (by kernel_rfl) (by kernel_rfl) (fun _ _ _ _ h => h) (by kernel_rfl) (fun _ => by kernel_rfl) X6 ?_
  refine rgd_pure 15 (some 42) rfl rfl (.pointer (some ⟨A, 0, none⟩)) (by kernel_rfl) (by kernel_rfl) (by kernel_rfl) (fun _ _ _ _ h => h) (by kernel_rfl) (fun _ => by kernel_rfl) X6 ?_
  refine rg_call 14 (by kernel_rfl) rfl (by kernel_rfl) 12 #[.pointer (some ⟨B, 0, none⟩)] (by kernel_rfl) (readState_any B (l, 0) w6 D6 (fun w' hg => HT.out.below (b6.grown hg b6.size (fun k hk => by have e2 : k = B := (Option.some.inj hk).symm; omega))) (by show l.length ≤ _; omega)) ?_
  rintro e w8 ⟨pA, cA, rfl, hWA, hrd8, hg8⟩
  have b8 : Below W.heap.size W w8 := b6.grown hg8 b6.size (fun k hk => by have e2 : k = B := (Option.some.inj hk).symm; omega)
  have T8 := T6.other hg8 hBlo hloA
  have X8 := X6.kept hg8 (fun e => by have e2 : g2 = B := Option.some.inj e; omega)
  refine ⟨_, rfl, X8, ?_⟩
  refine rg_call 16 (by kernel_rfl) rfl (by kernel_rfl) 13 #[.pointer (some ⟨A, 0, none⟩)] (by kernel_rfl) (refReadState_any A lo (l, 0) w8 T8 (by show l.length ≤ _; omega)) ?_
  rintro e w9 ⟨pB, cB, rfl, hWB, T9, hg9⟩
  have b9 : Below W.heap.size W w9 := b8.grown hg9 b8.size (fun k hk => by have e2 : k = A := (Option.some.inj hk).symm; omega)
  have D9 := hrd8.beside hg9 (Nat.lt_of_lt_of_le hBlo hloA)
  have R9 := X8.kept hg9 (fun e => by have e2 : g2 = A := Option.some.inj e; omega)
  have hWA9 := wrs_apart hWA T8 hg9
  refine ⟨_, rfl, R9, ?_⟩
  have nL : (stL (l, 0)).length ≤ 10000 := stL_len _
  generalize stV (l, 0) = ov at *
  generalize stL (l, 0) = LL at *
  generalize stS (l, 0) = s2 at *
  refine rg_call 17 (by kernel_rfl) rfl (by kernel_rfl) 11 #[.agg (scs ov (.slice pA LL.length cA)), .agg (scs ov (.slice pB LL.length cB))] (by kernel_rfl) (sameS_is ov ov (veq_self ov) pA pB cA cB LL w9 hWA9 hWB nL) ?_
  rintro e w10 ⟨rfl, hb10⟩
  have b10 := thenBelow b9 hb10
  have D10 := D9.below hb10; have R10 := R9.later hb10; have T10 := T9.below hb10
  refine ⟨_, rfl, R10, ?_⟩
  have ce := T10.err
  obtain ⟨pr, cr, hrr, _⟩ := T10
  have cl := (r_cells hrr).1
  have hAlt : A < w10.heap.size := (Array.getElem?_eq_some_iff.1 hrr).1
  refine rgd_pure 18 (some 45) rfl rfl (.bool true) (by kernel_rfl) (by kernel_rfl) (by kernel_rfl) (fun _ _ _ _ h => h) (by kernel_rfl) (fun _ => by kernel_rfl) R10 ?_
  refine rgd_pure 19 (some 46) rfl rfl (.bool true) (by kernel_rfl) (by kernel_rfl) (by kernel_rfl) (fun _ _ _ _ h => h) (by kernel_rfl) (fun _ => by kernel_rfl) R10 ?_
  refine rgd_pure 20 (some 47) rfl rfl (.pointer (some ⟨B, 0, none⟩)) (by kernel_rfl) (by kernel_rfl) (by kernel_rfl) (fun _ _ _ _ h => h) (by kernel_rfl) (fun _ => by kernel_rfl) R10 ?_
  refine rgd_pure 22 (some 49) rfl rfl (.pointer (some ⟨A, 0, none⟩)) (by kernel_rfl) (by kernel_rfl) (by kernel_rfl) (fun _ _ _ _ h => h) (by kernel_rfl) (fun _ => by kernel_rfl) R10 ?_
  refine rgd_pure 23 (some 50) rfl rfl (.pointer (some ⟨A, 0, none⟩)) (by kernel_rfl) (by kernel_rfl) (by kernel_rfl) (fun _ _ _ _ h => h) (by kernel_rfl) (fun _ => by kernel_rfl) R10 ?_
  refine rgd_pure 24 (some 51) rfl rfl (.pointer (some ⟨A, 1, none⟩)) (by kernel_rfl) (by kernel_rfl) (by kernel_rfl) (fun _ _ _ _ h => h) (by kernel_rfl) (fun _ => by kernel_rfl) R10 ?_
  refine rg_two2 21 25 (by kernel_rfl) rfl (by kernel_rfl) 14 #[.pointer (some ⟨B, 0, none⟩)] (by kernel_rfl) (err_any B s2 w10 D10) rfl (by kernel_rfl) (.int .i64 (s2.2 : Int)) w10 (exec_load1 _ _ rfl Tryz.underlying34 rfl _ _ (by kernel_rfl) ce) R10 ?_ ?_
  · rintro e w' ⟨rfl, rfl⟩
    refine ⟨_, rfl, R10, ?_⟩
    refine rg_run 25 (by kernel_rfl) rfl (by kernel_rfl) (.int .i64 (s2.2 : Int)) w10 (exec_load1 _ _ rfl Tryz.underlying34 rfl _ _ (by kernel_rfl) ce) R10 ?_
    refine rgd_pure 26 (some 53) rfl rfl (.bool true) (by kernel_rfl) (by kernel_rfl) (by kernel_rfl) (fun _ _ _ _ h => h) (by kernel_rfl) (exec_eqlI _ _ _ _ rfl (s2.2 : Int) (by kernel_rfl) (by kernel_rfl)) R10 ?_
    refine rgd_pure 27 (some 54) rfl rfl (.bool true) (by kernel_rfl) (by kernel_rfl) (by kernel_rfl) (fun _ _ _ _ h => h) (by kernel_rfl) (fun _ => by kernel_rfl) R10 ?_
    refine rgd_pure 28 (some 55) rfl rfl (.bool true) (by kernel_rfl) (by kernel_rfl) (by kernel_rfl) (fun _ _ _ _ h => h) (by kernel_rfl) (fun _ => by kernel_rfl) R10 ?_
    refine rgd_pure 29 (some 56) rfl rfl (.pointer (some ⟨B, 0, none⟩)) (by kernel_rfl) (by kernel_rfl) (by kernel_rfl) (fun _ _ _ _ h => h) (by kernel_rfl) (fun _ => by kernel_rfl) R10 ?_
    refine rgd_pure 31 (some 58) rfl rfl (.pointer (some ⟨A, 0, none⟩)) (by kernel_rfl) (by kernel_rfl) (by kernel_rfl) (fun _ _ _ _ h => h) (by kernel_rfl) (fun _ => by kernel_rfl) R10 ?_
    refine rgd_pure 32 (some 59) rfl rfl (.pointer (some ⟨A, 0, none⟩)) (by kernel_rfl) (by kernel_rfl) (by kernel_rfl) (fun _ _ _ _ h => h) (by kernel_rfl) (fun _ => by kernel_rfl) R10 ?_
    refine rgd_pure 33 (some 60) rfl rfl (.pointer (some ⟨A, 0, none⟩)) (by kernel_rfl) (by kernel_rfl) (by kernel_rfl) (fun _ _ _ _ h => h) (by kernel_rfl) (fun _ => by kernel_rfl) R10 ?_
    refine rg_two2 30 34 (by kernel_rfl) rfl (by kernel_rfl) 15 #[.pointer (some ⟨B, 0, none⟩)] (by kernel_rfl) (left_any B s2 w10 D10) rfl (by kernel_rfl) (.slice pr s2.1.length cr) w10 (exec_load1 _ _ rfl Tryz.underlying22 rfl _ _ (by kernel_rfl) cl) R10 ?_ ?_
    · rintro e w' ⟨rfl, rfl⟩
      refine ⟨_, rfl, R10, ?_⟩
      refine rg_run 34 (by kernel_rfl) rfl (by kernel_rfl) (.slice pr s2.1.length cr) w10 (exec_load1 _ _ rfl Tryz.underlying22 rfl _ _ (by kernel_rfl) cl) R10 ?_
      refine rgd_pure 35 (some 62) rfl rfl (.int .i64 (s2.1.length : Int)) (by kernel_rfl) (by kernel_rfl) (by kernel_rfl) (fun _ _ _ _ h => h) (by kernel_rfl) (fun _ => by kernel_rfl) R10 ?_
      refine rgd_pure 36 (some 63) rfl rfl (.bool true) (by kernel_rfl) (by kernel_rfl) (by kernel_rfl) (fun _ _ _ _ h => h) (by kernel_rfl) (exec_eqlI _ _ _ _ rfl (s2.1.length : Int) (by kernel_rfl) (by kernel_rfl)) R10 ?_
      refine rgd_pure 37 (some 64) rfl rfl (.bool true) (by kernel_rfl) (by kernel_rfl) (by kernel_rfl) (fun _ _ _ _ h => h) (by kernel_rfl) (fun _ => by kernel_rfl) R10 ?_
      refine rgd_pure 38 (some 65) rfl rfl (.bool true) (by kernel_rfl) (by kernel_rfl) (by kernel_rfl) (fun _ _ _ _ h => h) (by kernel_rfl) (fun _ => by kernel_rfl) R10 ?_
      refine rg_call 39 (by kernel_rfl) rfl (by kernel_rfl) 5 #[] (by kernel_rfl) (awake12 w10 (HT.out.below b10)) ?_
      rintro e w11 ⟨rfl, hb11⟩
      have b11 := Lib.hid (thenBelow b10 hb11)
      refine ⟨_, rfl, (R10.later hb11), ?_⟩
      refine rgd_pure 40 (some 67) rfl rfl (.bool true) (by kernel_rfl) (by kernel_rfl) (by kernel_rfl) (fun _ _ _ _ h => h) (by kernel_rfl) (fun _ => by kernel_rfl) (R10.later hb11) ?_
      refine rgd_pure 41 (some 6) rfl rfl (.bool true) (by kernel_rfl) (by kernel_rfl) (by kernel_rfl) (fun _ _ _ _ h => h) (by kernel_rfl) (fun _ => by kernel_rfl) (R10.later hb11) ?_
      refine wpAnyH_done (by kernel_rfl) ?_ _
      clear hrr cl ce hb11 D10
      refine ‹∀ (a : Act) (w : World), Code.wp Tryz.prog Code.ret (bodyPost Tryz.prog Tryz.f3 (Yes W)) a w → _› _ _ ?_
      refine wp_ret ?_
      exact bodyPost_ret (v := .bool true) (by kernel_rfl) (by kernel_rfl) ⟨rfl, b11.out⟩
    · refine rgd_pure 35 (some 62) rfl rfl (.int .i64 (s2.1.length : Int)) (by kernel_rfl) (by kernel_rfl) (by kernel_rfl) (fun _ _ _ _ h => h) (by kernel_rfl) (fun _ => by kernel_rfl) R10 ?_
      refine rg_call 30 (by kernel_rfl) rfl (by kernel_rfl) 15 #[.pointer (some ⟨B, 0, none⟩)] (by kernel_rfl) (left_any B s2 w10 D10) ?_
      rintro e w' ⟨rfl, rfl⟩
      refine ⟨_, rfl, R10, ?_⟩
      refine rgd_pure 36 (some 63) rfl rfl (.bool true) (by kernel_rfl) (by kernel_rfl) (by kernel_rfl) (fun _ _ _ _ h => h) (by kernel_rfl) (exec_eqlI _ _ _ _ rfl (s2.1.length : Int) (by kernel_rfl) (by kernel_rfl)) R10 ?_
      refine rgd_pure 37 (some 64) rfl rfl (.bool true) (by kernel_rfl) (by kernel_rfl) (by kernel_rfl) (fun _ _ _ _ h => h) (by kernel_rfl) (fun _ => by kernel_rfl) R10 ?_
      refine rgd_pure 38 (some 65) rfl rfl (.bool true) (by kernel_rfl) (by kernel_rfl) (by kernel_rfl) (fun _ _ _ _ h => h) (by kernel_rfl) (fun _ => by kernel_rfl) R10 ?_
      refine rg_call 39 (by kernel_rfl) rfl (by kernel_rfl) 5 #[] (by kernel_rfl) (awake12 w10 (HT.out.below b10)) ?_
      rintro e w11 ⟨rfl, hb11⟩
      have b11 := Lib.hid (thenBelow b10 hb11)
      refine ⟨_, rfl, (R10.later hb11), ?_⟩
      refine rgd_pure 40 (some 67) rfl rfl (.bool true) (by kernel_rfl) (by kernel_rfl) (by kernel_rfl) (fun _ _ _ _ h => h) (by kernel_rfl) (fun _ => by kernel_rfl) (R10.later hb11) ?_
      refine rgd_pure 41 (some 6) rfl rfl (.bool true) (by kernel_rfl) (by kernel_rfl) (by kernel_rfl) (fun _ _ _ _ h => h) (by kernel_rfl) (fun _ => by kernel_rfl) (R10.later hb11) ?_
      refine wpAnyH_done (by kernel_rfl) ?_ _
      clear hrr cl ce hb11 D10
      refine ‹∀ (a : Act) (w : World), Code.wp Tryz.prog Code.ret (bodyPost Tryz.prog Tryz.f3 (Yes W)) a w → _› _ _ ?_
      refine wp_ret ?_
      exact bodyPost_ret (v := .bool true) (by kernel_rfl) (by kernel_rfl) ⟨rfl, b11.out⟩
  · refine rg_call 21 (by kernel_rfl) rfl (by kernel_rfl) 14 #[.pointer (some ⟨B, 0, none⟩)] (by kernel_rfl) (err_any B s2 w10 D10) ?_
    rintro e w' ⟨rfl, rfl⟩
    refine ⟨_, rfl, R10, ?_⟩
    refine rgd_pure 26 (some 53) rfl rfl (.bool true) (by kernel_rfl) (by kernel_rfl) (by kernel_rfl) (fun _ _ _ _ h => h) (by kernel_rfl) (exec_eqlI _ _ _ _ rfl (s2.2 : Int) (by kernel_rfl) (by kernel_rfl)) R10 ?_
    refine rgd_pure 27 (some 54) rfl rfl (.bool true) (by kernel_rfl) (by kernel_rfl) (by kernel_rfl) (fun _ _ _ _ h => h) (by kernel_rfl) (fun _ => by kernel_rfl) R10 ?_
    refine rgd_pure 28 (some 55) rfl rfl (.bool true) (by kernel_rfl) (by kernel_rfl) (by kernel_rfl) (fun _ _ _ _ h => h) (by kernel_rfl) (fun _ => by kernel_rfl) R10 ?_
    refine rgd_pure 29 (some 56) rfl rfl (.pointer (some ⟨B, 0, none⟩)) (by kernel_rfl) (by kernel_rfl) (by kernel_rfl) (fun _ _ _ _ h => h) (by kernel_rfl) (fun _ => by kernel_rfl) R10 ?_
    refine rgd_pure 31 (some 58) rfl rfl (.pointer (some ⟨A, 0, none⟩)) (by kernel_rfl) (by kernel_rfl) (by kernel_rfl) (fun _ _ _ _ h => h) (by kernel_rfl) (fun _ => by kernel_rfl) R10 ?_
    refine rgd_pure 32 (some 59) rfl rfl (.pointer (some ⟨A, 0, none⟩)) (by kernel_rfl) (by kernel_rfl) (by kernel_rfl) (fun _ _ _ _ h => h) (by kernel_rfl) (fun _ => by kernel_rfl) R10 ?_
    refine rgd_pure 33 (some 60) rfl rfl (.pointer (some ⟨A, 0, none⟩)) (by kernel_rfl) (by kernel_rfl) (by kernel_rfl) (fun _ _ _ _ h => h) (by kernel_rfl) (fun _ => by kernel_rfl) R10 ?_
    refine rg_two2 30 34 (by kernel_rfl) rfl (by kernel_rfl) 15 #[.pointer (some ⟨B, 0, none⟩)] (by kernel_rfl) (left_any B s2 w10 D10) rfl (by kernel_rfl) (.slice pr s2.1.length cr) w10 (exec_load1 _ _ rfl Tryz.underlying22 rfl _ _ (by kernel_rfl) cl) R10 ?_ ?_
    · rintro e w' ⟨rfl, rfl⟩
      refine ⟨_, rfl, R10, ?_⟩
      refine rg_run 34 (by kernel_rfl) rfl (by kernel_rfl) (.slice pr s2.1.length cr) w10 (exec_load1 _ _ rfl Tryz.underlying22 rfl _ _ (by kernel_rfl) cl) R10 ?_
      refine rgd_pure 35 (some 62) rfl rfl (.int .i64 (s2.1.length : Int)) (by kernel_rfl) (by kernel_rfl) (by kernel_rfl) (fun _ _ _ _ h => h) (by kernel_rfl) (fun _ => by kernel_rfl) R10 ?_
      refine rgd_pure 36 (some 63) rfl rfl (.bool true) (by kernel_rfl) (by kernel_rfl) (by kernel_rfl) (fun _ _ _ _ h => h) (by kernel_rfl) (exec_eqlI _ _ _ _ rfl (s2.1.length : Int) (by kernel_rfl) (by kernel_rfl)) R10 ?_
      refine rgd_pure 37 (some 64) rfl rfl (.bool true) (by kernel_rfl) (by kernel_rfl) (by kernel_rfl) (fun _ _ _ _ h => h) (by kernel_rfl) (fun _ => by kernel_rfl) R10 ?_
      refine rgd_pure 38 (some 65) rfl rfl (.bool true) (by kernel_rfl) (by kernel_rfl) (by kernel_rfl) (fun _ _ _ _ h => h) (by kernel_rfl) (fun _ => by kernel_rfl) R10 ?_
      refine rg_call 39 (by kernel_rfl) rfl (by kernel_rfl) 5 #[] (by kernel_rfl) (awake12 w10 (HT.out.below b10)) ?_
      rintro e w11 ⟨rfl, hb11⟩
      have b11 := Lib.hid (thenBelow b10 hb11)
      refine ⟨_, rfl, (R10.later hb11), ?_⟩
      refine rgd_pure 40 (some 67) rfl rfl (.bool true) (by kernel_rfl) (by kernel_rfl) (by kernel_rfl) (fun _ _ _ _ h => h) (by kernel_rfl) (fun _ => by kernel_rfl) (R10.later hb11) ?_
      refine rgd_pure 41 (some 6) rfl rfl (.bool true) (by kernel_rfl) (by kernel_rfl) (by kernel_rfl) (fun _ _ _ _ h => h) (by kernel_rfl) (fun _ => by kernel_rfl) (R10.later hb11) ?_
      refine wpAnyH_done (by kernel_rfl) ?_ _
      clear hrr cl ce hb11 D10
      refine ‹∀ (a : Act) (w : World), Code.wp Tryz.prog Code.ret (bodyPost Tryz.prog Tryz.f3 (Yes W)) a w → _› _ _ ?_
      refine wp_ret ?_
      exact bodyPost_ret (v := .bool true) (by kernel_rfl) (by kernel_rfl) ⟨rfl, b11.out⟩
    · refine rgd_pure 35 (some 62) rfl rfl (.int .i64 (s2.1.length : Int)) (by kernel_rfl) (by kernel_rfl) (by kernel_rfl) (fun _ _ _ _ h => h) (by kernel_rfl) (fun _ => by kernel_rfl) R10 ?_
      refine rg_call 30 (by kernel_rfl) rfl (by kernel_rfl) 15 #[.pointer (some ⟨B, 0, none⟩)] (by kernel_rfl) (left_any B s2 w10 D10) ?_
      rintro e w' ⟨rfl, rfl⟩
      refine ⟨_, rfl, R10, ?_⟩
      refine rgd_pure 36 (some 63) rfl rfl (.bool true) (by kernel_rfl) (by kernel_rfl) (by kernel_rfl) (fun _ _ _ _ h => h) (by kernel_rfl) (exec_eqlI _ _ _ _ rfl (s2.1.length : Int) (by kernel_rfl) (by kernel_rfl)) R10 ?_
      refine rgd_pure 37 (some 64) rfl rfl (.bool true) (by kernel_rfl) (by kernel_rfl) (by kernel_rfl) (fun _ _ _ _ h => h) (by kernel_rfl) (fun _ => by kernel_rfl) R10 ?_
      refine rgd_pure 38 (some 65) rfl rfl (.bool true) (by kernel_rfl) (by kernel_rfl) (by kernel_rfl) (fun _ _ _ _ h => h) (by kernel_rfl) (fun _ => by kernel_rfl) R10 ?_
      refine rg_call 39 (by kernel_rfl) rfl (by kernel_rfl) 5 #[] (by kernel_rfl) (awake12 w10 (HT.out.below b10)) ?_
      rintro e w11 ⟨rfl, hb11⟩
      have b11 := Lib.hid (thenBelow b10 hb11)
      refine ⟨_, rfl, (R10.later hb11), ?_⟩
      refine rgd_pure 40 (some 67) rfl rfl (.bool true) (by kernel_rfl) (by kernel_rfl) (by kernel_rfl) (fun _ _ _ _ h => h) (by kernel_rfl) (fun _ => by kernel_rfl) (R10.later hb11) ?_
      refine rgd_pure 41 (some 6) rfl rfl (.bool true) (by kernel_rfl) (by kernel_rfl) (by kernel_rfl) (fun _ _ _ _ h => h) (by kernel_rfl) (fun _ => by kernel_rfl) (R10.later hb11) ?_
      refine wpAnyH_done (by kernel_rfl) ?_ _
      clear hrr cl ce hb11 D10
      refine ‹∀ (a : Act) (w : World), Code.wp Tryz.prog Code.ret (bodyPost Tryz.prog Tryz.f3 (Yes W)) a w → _› _ _ ?_
      refine wp_ret ?_
      exact bodyPost_ret (v := .bool true) (by kernel_rfl) (by kernel_rfl) ⟨rfl, b11.out⟩
end Go.Proofs.YtjmglgcifekhgaaGreatDoor
