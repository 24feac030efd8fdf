/- The statement WireEncodes, proved for every input that its row reads: part 44 of 54. -/
import Derived.Test.YtapbeokocfmlpaaDoorPackWireEncodes28
import Derived.Test.YtapbeokocfmlpaaDoorPackWireEncodes31
import Derived.Test.YtapbeokocfmlpaaDoorPackWireEncodes43
import Derived.Test.YtapbeokocfmlpaaDoorMemWide
import Derived.Test.YtapbeokocfmlpaaDoorPackWireEncodes39
import Derived.Test.YtapbeokocfmlpaaDoorPackWireEncodes26
/- A state's bytes behind others. -/
namespace Go.Proofs.YtapbeokocfmlpaaDoor
open Go Go.RowKit
set_option linter.unusedVariables false
set_option maxRecDepth 1000000

/-- a state's bytes -/
def stB (F : Nat → Int) (L : List Wr) : List UInt8 := vbytes F ++ (Cod.enc L.length ++ L.flatMap wtB)
theorem wts_take (L : List Wr) (k : Nat) (h : k < L.length) : (L.take (k + 1)).flatMap wtB = (L.take k).flatMap wtB ++ wtB L[k] := by
  rw [List.take_succ_eq_append_getElem h, List.flatMap_append]; simp
set_option maxHeartbeats 8000000 in
theorem docPut_is (p : Option Addr) (c : Nat) (b : List UInt8) (F : Nat → Int) (q : Option Addr) (d : Nat) (L : List Wr) (w : World) (hb : Given w p c b) (hL : WrsAt w q L) (hc : canB F L = true) (hT : Shapes w) (hlen : b.length ≤ 140737488352000) :
    Calls Tryd.prog 38 #[.slice p b.length c, .agg (scs F (.slice q L.length d))] w (RetOwn w 5 (b ++ stB F L)) := by
  have HW := Lib.hid hL; have HT := Lib.hid hT; have HG := Lib.hid hb
  have CP := can_iff.1 hc
  have SM : Hid (∀ y ∈ L, Small1 y) := Lib.hid fun y hy => small_of (CP.fine y hy).1
  have L4 : Hid (L.length ≤ 4096) := Lib.hid CP.len
  have CC : Hid (canB F L = true) := Lib.hid hc
  have VL := Lib.hid (vbytes_len F)
  have EL := Lib.hid (enc_len L.length)
  have WN : Hid ((Lit.int .i64 (L.length : Int)).wf = true) := Lib.hid (wf_ok (by have := L4.out; omega))
  clear hb hL hc hT CP
  obtain ⟨X, hX⟩ : ∃ X, b ++ stB F L = X := ⟨_, rfl⟩
  rw [hX]
  have HX : Hid (b ++ vbytes F ++ Cod.enc L.length ++ L.flatMap wtB = X) := Lib.hid (by rw [← hX]; unfold stB; simp only [List.append_assoc])
  clear hX
  go_enter Tryd.func38, Tryd.ntmps38
  go_wp2_with (refine wpList_gbox rfl _ rfl (scs F (.slice q L.length d)) rfl ?_)
  intro g3 w1 l1 h1 hb1
  have S1 : Hid (Sx w1 g3 F (.slice q L.length d)) := Lib.hid h1
  have B1 := Lib.hid hb1
  clear h1 hb1
  have SW := Lib.hid (S1.out.whole)
  have CN : Hid (Calls Tryd.prog 48 #[.agg (scs F (.slice q L.length d))] w1 (RetBool w1 true)) := Lib.hid (by have := docCan_is F q d L w1 (HW.out.below B1.out) (HT.out.below B1.out); rw [CC.out] at this; exact this)
  go_wp2_with (refine wpList_gload rfl _ rfl g3 0 rfl _ SW.out _ Tryd.underlying27 rfl (sizeStl _ _) ?_)
  refine CN.out.mono ?_
  rintro e w2 ⟨rfl, hb2⟩
  have S2 := Lib.hid (S1.out.later hb2); have B2 := Lib.hid (thenBelow B1.out hb2)
  clear hb2 S1 SW CN
  go_wp2_with fail
  rename_i K2 hK2
  have m0 : Below w2.heap.size w2 w2.drew := (Below.refl _ _).drew
  refine rg_calm (by kernel_rfl) rfl (S := fun U => Below w2.heap.size w2 U) ?_
  refine rgd_pure 0 (some 12) rfl rfl (.slice p b.length c) (by kernel_rfl) (by kernel_rfl) (by kernel_rfl) (fun _ _ _ _ h => h) (by kernel_rfl) (fun w => by kernel_rfl) m0 ?_
  refine rgd_pure 1 (some 13) rfl rfl (.pointer (some ⟨g3, 0, none⟩)) (by kernel_rfl) (by kernel_rfl) (by kernel_rfl) (fun _ _ _ _ h => h) (by kernel_rfl) (fun w => by kernel_rfl) m0 ?_
  refine rgd_pureS 2 (some 14) rfl rfl (.agg (vf F)) (by kernel_rfl) (by kernel_rfl) (by kernel_rfl) (fun _ _ _ _ h => h) (by kernel_rfl) (fun U hU => exec_gload 23 _ rfl g3 0 (by kernel_rfl) _ (S2.out.later hU).vec Tryd.underlying23 rfl (sizeVcl F)) m0 ?_
  refine rgd_pure 4 (some 16) rfl rfl (.pointer (some ⟨g3, 64, none⟩)) (by kernel_rfl) (by kernel_rfl) (by kernel_rfl) (fun _ _ _ _ h => h) (by kernel_rfl) (fun w => by kernel_rfl) m0 ?_
  refine rgd_pureS 5 (some 17) rfl rfl (.slice q L.length d) (by kernel_rfl) (by kernel_rfl) (by kernel_rfl) (fun _ _ _ _ h => h) (by kernel_rfl) (fun U hU => exec_load1 _ _ rfl Tryd.underlying25 rfl ⟨g3, 64, none⟩ _ (by kernel_rfl) (S2.out.later hU).slot) m0 ?_
  refine rgd_pure 6 (some 18) rfl rfl (.int .i64 (L.length : Int)) (by kernel_rfl) (by kernel_rfl) (by kernel_rfl) (fun _ _ _ _ h => h) (by kernel_rfl) (fun w => by kernel_rfl) m0 ?_
  refine rgd_call 3 (some 15) (by kernel_rfl) rfl rfl (by kernel_rfl) 36 (#[.slice p b.length c, .agg (vf F)]) (by kernel_rfl) (vput_is p c b F _ (HG.out.below (thenBelow B2.out m0)) (by omega)) ?_
  rintro e U1 hr1
  obtain ⟨LA, hLA⟩ : ∃ X, b ++ vbytes F = X := ⟨_, rfl⟩
  have nA : LA.length ≤ 140737488353200 := by rw [← hLA]; have := VL.out; simp only [List.length_append]; omega
  rw [hLA] at hr1
  have HLA := Lib.hid hLA
  clear hLA
  obtain ⟨p1, q1, rfl, k1, b1⟩ := hr1.given
  have m1 := thenBelow m0 b1
  refine ⟨_, rfl, m1, ?_⟩
  refine rgd_call 7 (some 19) (by kernel_rfl) rfl rfl (by kernel_rfl) 35 (#[.slice p1 LA.length q1, .int .i64 (L.length : Int)]) (by kernel_rfl) (num_any p1 q1 LA (L.length : Int) _ k1.lies (fun e => (k1.none e).1) k1.le WN.out (by omega)) ?_
  rintro e U2 hr2
  obtain ⟨LB, hLB⟩ : ∃ X, LA ++ Cod.enc (L.length : Int).toNat = X := ⟨_, rfl⟩
  have nB : LB.length ≤ 140737488354000 := by rw [← hLB]; have := EL.out; simp only [List.length_append, Int.toNat_natCast]; omega
  rw [hLB] at hr2
  have HLB := Lib.hid hLB
  clear hLB
  obtain ⟨p2, q2, rfl, k2, b2⟩ := hr2.given
  have m2 := thenBelow m1 b2
  refine ⟨_, rfl, m2, ?_⟩
  refine rgd_pure 8 (some 0) rfl rfl (.slice p2 LB.length q2) (by kernel_rfl) (by kernel_rfl) (by kernel_rfl) (fun _ _ _ _ h => h) (by kernel_rfl) (fun w => by kernel_rfl) m2 ?_
  have KE : K2 { tmps := #[.slice p2 LB.length q2, .agg (scs F (.slice q L.length d)), undef, .pointer (some ⟨g3, 0, none⟩), .slice none 0 0, undef, undef, .agg (scs F (.slice q L.length d)), .bool true, .bool false, undef, undef, .slice p b.length c, .pointer (some ⟨g3, 0, none⟩), .agg (vf F), .slice p1 LA.length q1, .pointer (some ⟨g3, 64, none⟩), .slice q L.length d, .int .i64 (L.length : Int), .slice p2 LB.length q2, undef, undef, undef, undef, undef, undef, undef, undef, undef, undef, undef, undef, undef], defers := [] } U2 := by
    refine hK2 _ _ ?_
    have B4 := Lib.hid (thenBelow B2.out m2)
    obtain ⟨v2, e2, hO2, _⟩ := hr2.after (thenBelow B2.out m1)
    obtain rfl : _ = v2 := by injection e2
    have O2 := Lib.hid hO2
    have k64 := (S2.out.later m2).slot
    have HB : Hid (LB = b ++ vbytes F ++ Cod.enc L.length) := Lib.hid (by rw [← HLB.out, ← HLA.out]; simp only [Int.toNat_natCast])
    clear e2 hO2 hK2 m0 m1 m2 k1 k2 hr1 hr2 b1 b2 S2
    go_wp2
    clear k64
    go_loopw [0, 23] (fun v i wr => ∃ (k : Nat) (LJ : List UInt8), k ≤ L.length ∧ i = .int .i64 k ∧ Hid (LJ = LB ++ (L.take k).flatMap wtB) ∧ LJ.length ≤ 140737488354000 + 2100 * k ∧ wr.ownsRow w.heap.size 5 1 v LJ.length (bys LJ) ∧ Below w.heap.size w wr) (fun _ i _ => L.length - (RowKit.intOf i).toNat)
    case atStart => exact ⟨0, LB, Nat.zero_le _, rfl, Lib.hid (by simp), by omega, O2.out, B4.out⟩
    case round =>
      obtain ⟨k, LJ, hk, rfl, HJ, hj, hown, hb⟩ := hrel
      have BB := Lib.hid hb; have OO := Lib.hid hown
      have hL4 : L.length ≤ 4096 := L4.out
      clear hown hb
      by_cases hkl : k < L.length
      · have hkl' : (k : Int) < L.length := by omega
        have HWr := Lib.hid (HW.out.below BB.out)
        obtain ⟨b9, o9, rfl, hlt, hq⟩ := HWr.out.at hkl
        obtain ⟨y, hy⟩ : ∃ y, L[k] = y := ⟨_, rfl⟩
        rw [hy] at hq
        have YC := Lib.hid hy
        have YS : Small1 y := by rw [← hy]; exact SM.out _ (List.getElem_mem hkl)
        clear hy
        obtain ⟨c0, c1, c2, c3, c4, c5⟩ := wr_cells hq
        clear hq
        have yl := wtB_len YS
        obtain ⟨LW, hLW⟩ : ∃ X, wtB y = X := ⟨_, rfl⟩
        have DW := Lib.hid (fun V : World => docWritten_is y V YS)
        rw [hLW] at DW yl
        have HJ2 : Hid (LJ ++ LW = LB ++ (L.take (k + 1)).flatMap wtB) := Lib.hid (by rw [wts_take L k hkl, HJ.out, YC.out, hLW, List.append_assoc])
        clear hLW YS YC HJ
        obtain ⟨yr, yn, yt, yd, yf, ytx⟩ := y
        simp only at c0 c1 c2 c3 c4 c5
        have ba := below_alloc wr (.cells #[.int .i64 yr, .int .i64 yn, .int .i64 yt, .string yd, .int .i64 yf, .string ytx] 60)
        have na := heap_alloc_new wr (.cells #[.int .i64 yr, .int .i64 yn, .int .i64 yt, .string yd, .int .i64 yf, .string ytx] 60)
        have R4 : Hid ((wr.alloc (.cells #[.int .i64 yr, .int .i64 yn, .int .i64 yt, .string yd, .int .i64 yf, .string ytx] 60)).rangeAt wr.heap.size 0 (Wr.cells ⟨yr, yn, yt, yd, yf, ytx⟩)) := Lib.hid (range_of_block na)
        have B5 := Lib.hid (thenBelow BB.out ba); have O5 := Lib.hid (own_later OO.out ba)
        clear ba na OO
        go_wp2_with (refine wpList_gload rfl _ rfl wr.heap.size 0 rfl _ R4.out _ Tryd.underlying60 rfl (sizeWr ⟨yr, yn, yt, yd, yf, ytx⟩) ?_)
        refine (DW.out _).mono ?_
        intro e w6 hr6
        obtain ⟨p6, q6, rfl, g6, b6⟩ := hr6.given
        have G6 := Lib.hid g6; have B6 := Lib.hid (thenBelow B5.out b6); have O6 := Lib.hid (own_later O5.out b6)
        have hz := B6.out.size
        clear hr6 g6 b6 DW R4 O5 c0 c1 c2 c3 c4 c5
        go_wp2_with (at_builtin; refine wpList_bytesW isU8 _ rfl _ _ rfl w.heap.size LJ.length LJ _ rfl O6.out p6 LW.length q6 LW rfl G6.out.lies rfl (fun e => ⟨by rw [(G6.out.none e).1]; rfl, (G6.out.none e).2⟩) (by have := L4.out; omega) hz ?_)
        intro v7 w7 o7 b7
        have O7 : Hid (w7.ownsRow w.heap.size 5 1 v7 (LJ ++ LW).length (bys (LJ ++ LW))) := Lib.hid (by rw [List.length_append]; exact o7)
        have B7 := Lib.hid (B6.out.trans b7)
        have nJ : Hid ((LJ ++ LW).length ≤ 140737488354000 + 2100 * (k + 1)) := Lib.hid (by rw [List.length_append]; omega)
        clear o7 b7 hz
        go_wp2
        go_roundw
        case rel => exact ⟨k + 1, LJ ++ LW, by omega, by go_num, HJ2, nJ.out, O7.out, B7.out⟩
        case measure => simp [RowKit.intOf]; omega
      · obtain rfl : k = L.length := by omega
        have hkl' : ¬ ((L.length : Nat) : Int) < L.length := by omega
        have HJ2 : Hid (LJ = X) := Lib.hid (by rw [HJ.out, List.take_length, HB.out]; exact HX.out)
        have FO : Hid (RetOwn w 5 X (.returned u0) wr) := Lib.hid (by rw [← HJ2.out]; exact ⟨u0, rfl, OO.out, BB.out⟩)
        clear HJ HJ2 OO hj
        go_wp2
        go_ret
        exact FO.out
  exact wpAnyH_done (by kernel_rfl) (Eq.mp (by kernel_rfl) KE) _
end Go.Proofs.YtapbeokocfmlpaaDoor
/- A state's bytes behind others: what can't be leaves them as they are; the document's. -/
namespace Go.Proofs.YtapbeokocfmlpaaDoor
open Go Go.RowKit
set_option linter.unusedVariables false
set_option maxRecDepth 1000000

theorem cloneSl_any (p : Option Addr) (c : Nat) (l : List UInt8) (w : World) (h : Lies w p l) (hp : p = none → l = []) (hbig : l.length ≤ 140737488355328) :
    Calls Tryd.prog 63 #[.slice p l.length c] w (RetOwn w 5 l) := by
  have q : ∀ (w : World) (a : Option Addr) (n c n' c' : Nat), (binOp .eql 32 (.slice a n c) (.slice none n' c')).run Tryd.prog w = .ok (.bool a.isNone) w := fun w a n c n' c' => Lib.run_eql_slice_nil w _ _ a n c n' c' Tryd.underlying32
  cases p with
  | none =>
    obtain rfl := hp rfl
    go_enter Tryd.func63, Tryd.ntmps63
    go_wp2
    go_ret
    exact ⟨_, rfl, World.ownsRow_nil _ _ _ _, Below.refl _ _⟩
  | some a =>
    obtain ⟨i0, hi, hz0, hz1, hz2⟩ := info_parts infoU8
    have H : Hid (∀ j u, (bys l)[j]? = some u → w.cell? (a.add j) = some u) := by
      by_cases h0 : l = []
      · subst h0; intro j u hu; simp [bys] at hu
      · obtain ⟨b, o, e, hc⟩ := h h0
        obtain rfl := Option.some.inj e
        exact Lies.news hc
    clear h hp
    go_enter Tryd.func63, Tryd.ntmps63
    go_wp2_with (at_builtin; refine wpList_append_own _ rfl _ _ 32 rfl w.heap.size 5 i0 (.int .u8 0) 1 1 Tryd.underlying32 hi hz0 hz1 hz2 rfl (by decide) _ _ _ rfl (World.ownsRow_made w #[] 0 (Nat.le_refl _) (Nat.zero_le _) rfl) a l.length c (bys l) rfl ?qc1 ?qc2 ?qc3 ?qc4 ?qc5 ?qc6 ?_)
    case qc1 => simp [bys]
    case qc2 => exact fun j u hj => cell_alloc _ (H.out j u hj)
    case qc3 => exact bys_one l
    case qc4 => unfold maxLen; omega
    case qc5 => omega
    case qc6 => simp
    intro v' w1 hown hgrow hnil
    go_wp2
    go_ret
    exact RetOwn.of_own (by simpa using hown) rfl (((Below.refl _ w).alloc (Nat.le_refl _) _).grown hgrow (by simp) (by intro k hk; simp [Value.ownBlock] at hk; omega))

/-- what docs.Put lays behind the bytes: nothing for a state that can't be -/
noncomputable def stP (F : Nat → Int) (L : List Wr) : List UInt8 := if canB F L = true then stB F L else []
set_option maxHeartbeats 4000000 in
theorem docPutA_is (p : Option Addr) (c : Nat) (b : List UInt8) (F : Nat → Int) (q : Option Addr) (d : Nat) (L : List Wr) (w : World) (hb : Given w p c b) (hL : WrsAt w q L) (hT : Shapes w) (hlen : b.length ≤ 140737488352000) :
    Calls Tryd.prog 38 #[.slice p b.length c, .agg (scs F (.slice q L.length d))] w (RetOwn w 5 (b ++ stP F L)) := by
  by_cases hc : canB F L = true
  · have e : stP F L = stB F L := by unfold stP; rw [if_pos hc]
    rw [e]
    exact docPut_is p c b F q d L w hb hL hc hT hlen
  have e : b ++ stP F L = b := by unfold stP; rw [if_neg hc, List.append_nil]
  rw [e]
  have CC : Hid (canB F L = false) := Lib.hid (by simpa using hc)
  have HW := Lib.hid hL; have HT := Lib.hid hT; have HG := Lib.hid hb
  clear hb hL hc hT e
  go_enter Tryd.func38, Tryd.ntmps38
  go_wp2_with (refine wpList_gbox rfl _ rfl (scs F (.slice q L.length d)) rfl ?_)
  intro g3 w1 l1 h1 hb1
  have S1 : Hid (Sx w1 g3 F (.slice q L.length d)) := Lib.hid h1
  have B1 := Lib.hid hb1
  clear h1 hb1
  have SW := Lib.hid (S1.out.whole)
  have CN : Hid (Calls Tryd.prog 48 #[.agg (scs F (.slice q L.length d))] w1 (RetBool w1 false)) := Lib.hid (by have := docCan_is F q d L w1 (HW.out.below B1.out) (HT.out.below B1.out); rw [CC.out] at this; exact this)
  go_wp2_with (refine wpList_gload rfl _ rfl g3 0 rfl _ SW.out _ Tryd.underlying27 rfl (sizeStl _ _) ?_)
  refine CN.out.mono ?_
  rintro e w2 ⟨rfl, hb2⟩
  have B2 := Lib.hid (thenBelow B1.out hb2)
  have G2 := Lib.hid (HG.out.below B2.out)
  clear hb2 S1 SW CN
  go_wp2_with fail
  refine (cloneSl_any p c b w2 G2.out.lies (fun e => ((G2.out.none e).1)) (by omega)).mono ?_
  intro e w3 hr3
  obtain ⟨v3, rfl, hO3, hB3⟩ := hr3.after B2.out
  have FO : Hid (RetOwn w 5 b (.returned v3) w3) := Lib.hid ⟨v3, rfl, hO3, hB3⟩
  clear hr3 hO3 hB3
  go_wp2
  go_ret
  exact FO.out
set_option maxHeartbeats 4000000 in
theorem refPutDot_is (p : Option Addr) (c : Nat) (l : List UInt8) (r n : Int) (w : World) (h : Given w p c l) (hd : (-1000000000000000000 ≤ r ∧ r ≤ 1000000000000000000) ∧ -1000000000000000000 ≤ n ∧ n ≤ 1000000000000000000) (hlen : l.length ≤ 141000000000000) :
    Calls Tryd.prog 43 #[.slice p l.length c, .agg (dcs r n)] w (RetOwn w 5 (l ++ dotB (r, n))) := by
  have H := Lib.hid h; clear h
  have WR := Lib.hid (wf_ok hd.1); have WN := Lib.hid (wf_ok hd.2)
  have EL := Lib.hid (enc_len r.toNat)
  clear hd
  go_enter Tryd.func43, Tryd.ntmps43
  go_wp2_with (refine wpList_gbox rfl _ rfl (dcs r n) rfl ?_)
  intro g3 w1 l3 h3 hb1
  have B1 := Lib.hid hb1
  have c0 := cell_of_row _ g3 0 _ _ _ h3
  have c1 := cell_of_row _ g3 1 _ _ _ h3
  have C0 : Hid (w1.cell? ⟨g3, 0, none⟩ = some (.int .i64 r)) := Lib.hid c0
  have C1 : Hid (w1.cell? ⟨g3, 1, none⟩ = some (.int .i64 n)) := Lib.hid c1
  clear hb1 h3 c0 c1
  go_wp2_with fail
  rename_i K2 hK2
  have m0 : Below w1.heap.size w1 w1.drew := (Below.refl _ _).drew
  refine rg_calm (by kernel_rfl) rfl (S := fun U => Below w1.heap.size w1 U) ?_
  refine rgd_pure 0 (some 5) rfl rfl (.slice p l.length c) (by kernel_rfl) (by kernel_rfl) (by kernel_rfl) (fun _ _ _ _ h => h) (by kernel_rfl) (fun w => by kernel_rfl) m0 ?_
  refine rgd_pure 1 (some 6) rfl rfl (.pointer (some ⟨g3, 0, none⟩)) (by kernel_rfl) (by kernel_rfl) (by kernel_rfl) (fun _ _ _ _ h => h) (by kernel_rfl) (fun w => by kernel_rfl) m0 ?_
  refine rgd_pureS 2 (some 7) rfl rfl (.int .i64 r) (by kernel_rfl) (by kernel_rfl) (by kernel_rfl) (fun _ _ _ _ h => h) (by kernel_rfl) (fun U hU => exec_load1 _ _ rfl Tryd.underlying3 rfl ⟨g3, 0, none⟩ _ (by kernel_rfl) (cell_hold C0.out hU)) m0 ?_
  refine rgd_pure 4 (some 9) rfl rfl (.pointer (some ⟨g3, 1, none⟩)) (by kernel_rfl) (by kernel_rfl) (by kernel_rfl) (fun _ _ _ _ h => h) (by kernel_rfl) (fun w => by kernel_rfl) m0 ?_
  refine rgd_pureS 5 (some 10) rfl rfl (.int .i64 n) (by kernel_rfl) (by kernel_rfl) (by kernel_rfl) (fun _ _ _ _ h => h) (by kernel_rfl) (fun U hU => exec_load1 _ _ rfl Tryd.underlying3 rfl ⟨g3, 1, none⟩ _ (by kernel_rfl) (cell_hold C1.out hU)) m0 ?_
  refine rgd_call 3 (some 8) (by kernel_rfl) rfl rfl (by kernel_rfl) 18 (#[.slice p l.length c, .int .i64 r]) (by kernel_rfl) (refNumW_any p c l r _ (H.out.below (thenBelow B1.out m0)) WR.out (by omega)) ?_
  rintro e U1 hr1
  obtain ⟨p1, c1, rfl, k1, b1⟩ := hr1.given
  have m1 := thenBelow m0 b1
  refine ⟨_, rfl, m1, ?_⟩
  refine rgd_call 6 (some 11) (by kernel_rfl) rfl rfl (by kernel_rfl) 18 (#[.slice p1 (l ++ Cod.enc r.toNat).length c1, .int .i64 n]) (by kernel_rfl) (refNumW_any p1 c1 (l ++ Cod.enc r.toNat) n _ k1 WN.out (by have := EL.out; rw [List.length_append]; omega)) ?_
  rintro e U2 hr2
  have HF := Lib.hid ((hr2.after (thenBelow B1.out m1)))
  obtain ⟨p2, c2, rfl, k2, b2⟩ := hr2.given
  have m2 := thenBelow m1 b2
  refine ⟨_, rfl, m2, ?_⟩
  refine rgd_pure 7 (some 4) rfl rfl (.slice p2 (l ++ Cod.enc r.toNat ++ Cod.enc n.toNat).length c2) (by kernel_rfl) (by kernel_rfl) (by kernel_rfl) (fun _ _ _ _ h => h) (by kernel_rfl) (fun w => by kernel_rfl) m2 ?_
  have HE : Hid (l ++ Cod.enc r.toNat ++ Cod.enc n.toNat = l ++ dotB (r, n)) := Lib.hid (by unfold dotB; simp only [List.append_assoc])
  have KE : K2 { tmps := #[.slice p l.length c, .agg (dcs r n), undef, .pointer (some ⟨g3, 0, none⟩), .slice p2 (l ++ Cod.enc r.toNat ++ Cod.enc n.toNat).length c2, .slice p l.length c, .pointer (some ⟨g3, 0, none⟩), .int .i64 r, .slice p1 (l ++ Cod.enc r.toNat).length c1, .pointer (some ⟨g3, 1, none⟩), .int .i64 n, .slice p2 (l ++ Cod.enc r.toNat ++ Cod.enc n.toNat).length c2], defers := [] } U2 := by
    refine hK2 _ _ ?_
    clear hK2 m0 m1 m2 k1 k2 hr1 b1 b2
    rw [HE.out] at HF ⊢
    go_wp2
    go_ret
    exact HF.out
  exact wpAnyH_done (by kernel_rfl) (Eq.mp (by kernel_rfl) KE) _
set_option maxHeartbeats 8000000 in
theorem refPutState_is (p : Option Addr) (c : Nat) (b : List UInt8) (F : Nat → Int) (q : Option Addr) (d : Nat) (L : List Wr) (w : World) (hb : Given w p c b) (hL : WrsAt w q L) (hc : canB F L = true) (hlen : b.length ≤ 140737488352000) :
    Calls Tryd.prog 21 #[.slice p b.length c, .agg (scs F (.slice q L.length d))] w (RetOwn w 5 (b ++ stB F L)) := by
  have HW := Lib.hid hL; have HG := Lib.hid hb
  have CP := can_iff.1 hc
  have SM : Hid (∀ y ∈ L, Small1 y) := Lib.hid fun y hy => small_of (CP.fine y hy).1
  have L4 : Hid (L.length ≤ 4096) := Lib.hid CP.len
  have CC : Hid (canB F L = true) := Lib.hid hc
  have VL := Lib.hid (vbytes_len F)
  have EL := Lib.hid (enc_len L.length)
  have WN : Hid ((Lit.int .i64 (L.length : Int)).wf = true) := Lib.hid (wf_ok (by have := L4.out; omega))
  clear hb hL hc CP
  obtain ⟨X, hX⟩ : ∃ X, b ++ stB F L = X := ⟨_, rfl⟩
  rw [hX]
  have HX : Hid (b ++ vbytes F ++ Cod.enc L.length ++ L.flatMap wtB = X) := Lib.hid (by rw [← hX]; unfold stB; simp only [List.append_assoc])
  clear hX
  go_enter Tryd.func21, Tryd.ntmps21
  go_wp2_with (refine wpList_gbox rfl _ rfl (scs F (.slice q L.length d)) rfl ?_)
  intro g3 w1 l1 h1 hb1
  have S1 : Hid (Sx w1 g3 F (.slice q L.length d)) := Lib.hid h1
  have B1 := Lib.hid hb1
  clear h1 hb1
  have SW := Lib.hid (S1.out.whole)
  have CN : Hid (Calls Tryd.prog 28 #[.agg (scs F (.slice q L.length d))] w1 (RetBool w1 true)) := Lib.hid (by have := refCan_is F q d L w1 (HW.out.below B1.out); rw [CC.out] at this; exact this)
  go_wp2_with (refine wpList_gload rfl _ rfl g3 0 rfl _ SW.out _ Tryd.underlying27 rfl (sizeStl _ _) ?_)
  refine CN.out.mono ?_
  rintro e w2 ⟨rfl, hb2⟩
  have S2 := Lib.hid (S1.out.later hb2); have B2 := Lib.hid (thenBelow B1.out hb2)
  clear hb2 S1 SW CN
  go_wp2_with fail
  rename_i K2 hK2
  have m0 : Below w2.heap.size w2 w2.drew := (Below.refl _ _).drew
  refine rg_calm (by kernel_rfl) rfl (S := fun U => Below w2.heap.size w2 U) ?_
  refine rgd_pure 0 (some 14) rfl rfl (.slice p b.length c) (by kernel_rfl) (by kernel_rfl) (by kernel_rfl) (fun _ _ _ _ h => h) (by kernel_rfl) (fun w => by kernel_rfl) m0 ?_
  refine rgd_pure 1 (some 15) rfl rfl (.pointer (some ⟨g3, 0, none⟩)) (by kernel_rfl) (by kernel_rfl) (by kernel_rfl) (fun _ _ _ _ h => h) (by kernel_rfl) (fun w => by kernel_rfl) m0 ?_
  refine rgd_pureS 2 (some 16) rfl rfl (.agg (vf F)) (by kernel_rfl) (by kernel_rfl) (by kernel_rfl) (fun _ _ _ _ h => h) (by kernel_rfl) (fun U hU => exec_gload 23 _ rfl g3 0 (by kernel_rfl) _ (S2.out.later hU).vec Tryd.underlying23 rfl (sizeVcl F)) m0 ?_
  refine rgd_pure 4 (some 18) rfl rfl (.pointer (some ⟨g3, 64, none⟩)) (by kernel_rfl) (by kernel_rfl) (by kernel_rfl) (fun _ _ _ _ h => h) (by kernel_rfl) (fun w => by kernel_rfl) m0 ?_
  refine rgd_pureS 5 (some 19) rfl rfl (.slice q L.length d) (by kernel_rfl) (by kernel_rfl) (by kernel_rfl) (fun _ _ _ _ h => h) (by kernel_rfl) (fun U hU => exec_load1 _ _ rfl Tryd.underlying25 rfl ⟨g3, 64, none⟩ _ (by kernel_rfl) (S2.out.later hU).slot) m0 ?_
  refine rgd_pure 6 (some 20) rfl rfl (.int .i64 (L.length : Int)) (by kernel_rfl) (by kernel_rfl) (by kernel_rfl) (fun _ _ _ _ h => h) (by kernel_rfl) (fun w => by kernel_rfl) m0 ?_
  refine rgd_call 3 (some 17) (by kernel_rfl) rfl rfl (by kernel_rfl) 19 (#[.slice p b.length c, .agg (vf F)]) (by kernel_rfl) (refVput_is p c b F _ (HG.out.below (thenBelow B2.out m0)) (by omega)) ?_
  rintro e U1 hr1
  obtain ⟨LA, hLA⟩ : ∃ X, b ++ vbytes F = X := ⟨_, rfl⟩
  have nA : LA.length ≤ 140737488353200 := by rw [← hLA]; have := VL.out; simp only [List.length_append]; omega
  rw [hLA] at hr1
  have HLA := Lib.hid hLA
  clear hLA
  obtain ⟨p1, q1, rfl, k1, b1⟩ := hr1.given
  have m1 := thenBelow m0 b1
  refine ⟨_, rfl, m1, ?_⟩
  refine rgd_call 7 (some 21) (by kernel_rfl) rfl rfl (by kernel_rfl) 18 (#[.slice p1 LA.length q1, .int .i64 (L.length : Int)]) (by kernel_rfl) (refNumW_any p1 q1 LA (L.length : Int) _ k1 WN.out (by omega)) ?_
  rintro e U2 hr2
  obtain ⟨LB, hLB⟩ : ∃ X, LA ++ Cod.enc (L.length : Int).toNat = X := ⟨_, rfl⟩
  have nB : LB.length ≤ 140737488354000 := by rw [← hLB]; have := EL.out; simp only [List.length_append, Int.toNat_natCast]; omega
  rw [hLB] at hr2
  have HLB := Lib.hid hLB
  clear hLB
  obtain ⟨p2, q2, rfl, k2, b2⟩ := hr2.given
  have m2 := thenBelow m1 b2
  refine ⟨_, rfl, m2, ?_⟩
  refine rgd_pure 8 (some 5) rfl rfl (.slice p2 LB.length q2) (by kernel_rfl) (by kernel_rfl) (by kernel_rfl) (fun _ _ _ _ h => h) (by kernel_rfl) (fun w => by kernel_rfl) m2 ?_
  have KE : K2 { tmps := #[.slice p b.length c, .agg (scs F (.slice q L.length d)), undef, .pointer (some ⟨g3, 0, none⟩), .slice none 0 0, .slice p2 LB.length q2, undef, undef, .agg (scs F (.slice q L.length d)), .bool true, .bool false, undef, undef, undef, .slice p b.length c, .pointer (some ⟨g3, 0, none⟩), .agg (vf F), .slice p1 LA.length q1, .pointer (some ⟨g3, 64, none⟩), .slice q L.length d, .int .i64 (L.length : Int), .slice p2 LB.length q2, undef, undef, undef, undef, undef, undef, undef, undef, undef, undef, undef, undef, undef, undef, undef, undef, undef, undef, undef, undef, undef, undef, undef, undef, undef, undef, undef], defers := [] } U2 := by
    refine hK2 _ _ ?_
    have B4 := Lib.hid (thenBelow B2.out m2)
    obtain ⟨v2, e2, hO2, _⟩ := hr2.after (thenBelow B2.out m1)
    obtain rfl : _ = v2 := by injection e2
    have O2 := Lib.hid hO2
    have k64 := (S2.out.later m2).slot
    have HB : Hid (LB = b ++ vbytes F ++ Cod.enc L.length) := Lib.hid (by rw [← HLB.out, ← HLA.out]; simp only [Int.toNat_natCast])
    clear e2 hO2 hK2 m0 m1 m2 k1 k2 hr1 hr2 b1 b2 S2
    go_wp2
    clear k64
    go_loopw [5, 25] (fun v i wr => ∃ (k : Nat) (LJ : List UInt8), k ≤ L.length ∧ i = .int .i64 k ∧ Hid (LJ = LB ++ (L.take k).flatMap wtB) ∧ LJ.length ≤ 140737488354000 + 2100 * k ∧ wr.ownsRow w.heap.size 5 1 v LJ.length (bys LJ) ∧ Below w.heap.size w wr) (fun _ i _ => L.length - (RowKit.intOf i).toNat)
    case atStart => exact ⟨0, LB, Nat.zero_le _, rfl, Lib.hid (by simp), by omega, O2.out, B4.out⟩
    case round =>
      obtain ⟨k, LJ, hk, rfl, HJ, hj, hown, hb⟩ := hrel
      have BB := Lib.hid hb
      have hL4 : L.length ≤ 4096 := L4.out
      by_cases hkl : k < L.length
      · have hkl' : (k : Int) < L.length := by omega
        obtain ⟨p0, c0, rfl, hg0⟩ := own_given hown
        clear hown hb
        have HWr := Lib.hid (HW.out.below BB.out)
        obtain ⟨b9, o9, rfl, hlt, hq⟩ := HWr.out.at hkl
        obtain ⟨y, hy⟩ : ∃ y, L[k] = y := ⟨_, rfl⟩
        rw [hy] at hq
        have YC := Lib.hid hy
        have YS : Small1 y := by rw [← hy]; exact SM.out _ (List.getElem_mem hkl)
        clear hy
        obtain ⟨x0, x1, x2, x3, x4, x5⟩ := wr_cells hq
        clear hq
        have yl := wtB_len YS
        have HJ2 : Hid (LJ ++ wtB y = LB ++ (L.take (k + 1)).flatMap wtB) := Lib.hid (by rw [wts_take L k hkl, HJ.out, YC.out, List.append_assoc])
        clear YC HJ
        obtain ⟨h_r, h_n, h_t, h_f, h_d, h_x⟩ := YS
        obtain ⟨yr, yn, yt, yd, yf, ytx⟩ := y
        simp only at x0 x1 x2 x3 x4 x5 h_r h_n h_t h_f h_d h_x
        have WT := Lib.hid (wf_ok h_t); have WF := Lib.hid (wf_ok h_f)
        have SZD : (Tryd.prog.info? 52).map (·.size) = some [Value.int .i64 yr, .int .i64 yn].length := by kernel_rfl
        have E0 := dotB_len (yr, yn); have E1 := enc_len yt.toNat; have E2 := enc_len yd.size; have E3 := enc_len yf.toNat; have E4 := enc_len ytx.size
        obtain ⟨g7, hg7⟩ : ∃ g, g = wr.heap.size := ⟨_, rfl⟩
        have ba := below_alloc wr (.cells #[.int .i64 yr, .int .i64 yn, .int .i64 yt, .string yd, .int .i64 yf, .string ytx] 60)
        have na := heap_alloc_new wr (.cells #[.int .i64 yr, .int .i64 yn, .int .i64 yt, .string yd, .int .i64 yf, .string ytx] 60)
        rw [← hg7] at na
        have B5 := Lib.hid (thenBelow BB.out ba); have G5 := Lib.hid (hg0.below ba)
        have R4 : Hid ((wr.alloc (.cells #[.int .i64 yr, .int .i64 yn, .int .i64 yt, .string yd, .int .i64 yf, .string ytx] 60)).rangeAt g7 0 (Wr.cells ⟨yr, yn, yt, yd, yf, ytx⟩)) := Lib.hid (range_of_block na)
        have HG7 := Lib.hid hg7
        clear hg7
        go_wp2
        rw [← HG7.out]
        generalize (wr.alloc (.cells #[.int .i64 yr, .int .i64 yn, .int .i64 yt, .string yd, .int .i64 yf, .string ytx] 60)) = w5 at R4 B5 G5 ⊢
        clear x0 x1 x2 x3 x4 x5 ba na hg0
        obtain ⟨c0', c1', c2', c3', c4', c5'⟩ := wr_cells R4.out
        simp only [Nat.zero_add] at c0' c1' c2' c3' c4' c5'
        have C2 := Lib.hid c2'; have C3 := Lib.hid c3'; have C4 := Lib.hid c4'; have C5 := Lib.hid c5'
        have RD := Lib.hid (wr_dot R4.out)
        clear c0' c1' c2' c3' c4' c5' R4
        go_wp2_with fail
        rename_i K2 hK2
        have m0 : Below w5.heap.size w5 w5.drew := (Below.refl _ _).drew
        refine rg_calm (by kernel_rfl) rfl (S := fun U => Below w5.heap.size w5 U) ?_
        refine rgd_pure 0 (some 29) rfl rfl (.slice p0 LJ.length c0) (by kernel_rfl) (by kernel_rfl) (by kernel_rfl) (fun _ _ _ _ h => h) (by kernel_rfl) (fun w => by kernel_rfl) m0 ?_
        refine rgd_pure 1 (some 30) rfl rfl (.pointer (some ⟨g7, 0, none⟩)) (by kernel_rfl) (by kernel_rfl) (by kernel_rfl) (fun _ _ _ _ h => h) (by kernel_rfl) (fun w => by kernel_rfl) m0 ?_
        refine rgd_pureS 2 (some 31) rfl rfl (.agg #[.int .i64 yr, .int .i64 yn]) (by kernel_rfl) (by kernel_rfl) (by kernel_rfl) (fun _ _ _ _ h => h) (by kernel_rfl) (fun U hU => exec_gload 52 _ rfl g7 0 (by kernel_rfl) _ (range_below RD.out hU) Tryd.underlying52 rfl SZD) m0 ?_
        refine rgd_pure 4 (some 33) rfl rfl (.pointer (some ⟨g7, 2, none⟩)) (by kernel_rfl) (by kernel_rfl) (by kernel_rfl) (fun _ _ _ _ h => h) (by kernel_rfl) (fun w => by kernel_rfl) m0 ?_
        refine rgd_pureS 5 (some 34) rfl rfl (.int .i64 yt) (by kernel_rfl) (by kernel_rfl) (by kernel_rfl) (fun _ _ _ _ h => h) (by kernel_rfl) (fun U hU => exec_load1 _ _ rfl Tryd.underlying3 rfl ⟨g7, 2, none⟩ _ (by kernel_rfl) (cell_hold C2.out hU)) m0 ?_
        refine rgd_call 3 (some 32) (by kernel_rfl) rfl rfl (by kernel_rfl) 43 (#[.slice p0 LJ.length c0, .agg (dcs yr yn)]) (by kernel_rfl) (refPutDot_is p0 c0 LJ yr yn _ (G5.out.below m0) ⟨h_r, h_n⟩ (by omega)) ?_
        rintro e U3 hr3
        obtain ⟨L3b, hL3⟩ : ∃ X, LJ ++ dotB (yr, yn) = X := ⟨_, rfl⟩
        have n3 : L3b.length ≤ LJ.length + 18 := by rw [← hL3]; simp only [List.length_append]; omega
        rw [hL3] at hr3
        have HL3 := Lib.hid hL3
        clear hL3
        obtain ⟨p3, q3, rfl, k3, b3⟩ := hr3.given
        have m1 := thenBelow m0 b3
        refine ⟨_, rfl, m1, ?_⟩
        refine rgd_call 6 (some 35) (by kernel_rfl) rfl rfl (by kernel_rfl) 18 (#[.slice p3 L3b.length q3, .int .i64 yt]) (by kernel_rfl) (refNumW_any p3 q3 L3b yt _ k3 WT.out (by omega)) ?_
        rintro e U4 hr4
        obtain ⟨L4b, hL4⟩ : ∃ X, L3b ++ Cod.enc yt.toNat = X := ⟨_, rfl⟩
        have n4 : L4b.length ≤ LJ.length + 27 := by rw [← hL4]; simp only [List.length_append]; omega
        rw [hL4] at hr4
        have HL4 := Lib.hid hL4
        clear hL4
        obtain ⟨p4, q4, rfl, k4, b4⟩ := hr4.given
        have m2 := thenBelow m1 b4
        refine ⟨_, rfl, m2, ?_⟩
        refine rgd_pure 7 (some 5) rfl rfl (.slice p4 L4b.length q4) (by kernel_rfl) (by kernel_rfl) (by kernel_rfl) (fun _ _ _ _ h => h) (by kernel_rfl) (fun w => by kernel_rfl) m2 ?_
        have KE2 : K2 { tmps := #[.slice p b.length c, .agg (scs F (.slice (some ⟨b9, o9, none⟩) L.length d)), undef, .pointer (some ⟨g3, 0, none⟩), .slice none 0 0, .slice p4 L4b.length q4, undef, .pointer (some ⟨g7, 0, none⟩), .agg (scs F (.slice (some ⟨b9, o9, none⟩) L.length d)), .bool true, .bool false, undef, undef, undef, .slice p b.length c, .pointer (some ⟨g3, 0, none⟩), .agg (vf F), .slice p1 LA.length q1, .pointer (some ⟨g3, 64, none⟩), .slice (some ⟨b9, o9, none⟩) L.length d, .int .i64 (L.length : Int), .slice p2 LB.length q2, .pointer (some ⟨g3, 64, none⟩), .slice (some ⟨b9, o9, none⟩) L.length d, .int .i64 (L.length : Int), .int .i64 (k : Int), .bool true, .pointer (some ⟨b9, o9 + k * 6, none⟩), .agg #[.int .i64 yr, .int .i64 yn, .int .i64 yt, .string yd, .int .i64 yf, .string ytx], .slice p0 LJ.length c0, .pointer (some ⟨g7, 0, none⟩), .agg #[.int .i64 yr, .int .i64 yn], .slice p3 L3b.length q3, .pointer (some ⟨g7, 2, none⟩), .int .i64 yt, .slice p4 L4b.length q4, u36, u37, u38, u39, u40, u41, u42, u43, u44, u45, u46, u47, undef], defers := [] } U4 := by
          refine hK2 _ _ ?_
          have B6 := Lib.hid (thenBelow B5.out m2)
          have G6 := Lib.hid k4
          have D2 := Lib.hid (cell_hold C3.out m2)
          have D4 := Lib.hid (cell_hold C4.out m2); have D5 := Lib.hid (cell_hold C5.out m2)
          clear hK2 m0 m1 m2 k3 k4 hr3 hr4 b3 b4
          have d3 := D2.out
          go_wp2_with fail
          refine (refTextW_any p4 q4 L4b yd U4 G6.out (by omega)).mono ?_
          intro e U5 hr5
          obtain ⟨L5, hL5⟩ : ∃ X, L4b ++ Cod.enc yd.size ++ yd.data.toList = X := ⟨_, rfl⟩
          have n5 : L5.length ≤ LJ.length + 1040 := by rw [← hL5]; simp only [List.length_append, Array.length_toList, ByteArray.size_data]; omega
          rw [hL5] at hr5
          have HL5 := Lib.hid hL5
          clear hL5 d3
          obtain ⟨p5, q5, rfl, k5, b5⟩ := hr5.given
          have B7 := Lib.hid (thenBelow B6.out b5); have G7 := Lib.hid k5
          have T4 := Lib.hid (cell_hold D4.out b5); have T5 := Lib.hid (cell_hold D5.out b5)
          clear hr5 k5 b5
          go_wp2_with fail
          rename_i K3 hK3
          have m0 : Below U5.heap.size U5 U5.drew := (Below.refl _ _).drew
          refine rg_last (by kernel_rfl) rfl (S := fun U => Below U5.heap.size U5 U) ?_
          refine rgd_pure 0 (some 40) rfl rfl (.slice p5 L5.length q5) (by kernel_rfl) (by kernel_rfl) (by kernel_rfl) (fun _ _ _ _ h => h) (by kernel_rfl) (fun w => by kernel_rfl) m0 ?_
          refine rgd_pure 1 (some 41) rfl rfl (.pointer (some ⟨g7, 4, none⟩)) (by kernel_rfl) (by kernel_rfl) (by kernel_rfl) (fun _ _ _ _ h => h) (by kernel_rfl) (fun w => by kernel_rfl) m0 ?_
          refine rgd_pureS 2 (some 42) rfl rfl (.int .i64 yf) (by kernel_rfl) (by kernel_rfl) (by kernel_rfl) (fun _ _ _ _ h => h) (by kernel_rfl) (fun U hU => exec_load1 _ _ rfl Tryd.underlying3 rfl ⟨g7, 4, none⟩ _ (by kernel_rfl) (cell_hold T4.out hU)) m0 ?_
          refine rgd_pure 4 (some 44) rfl rfl (.pointer (some ⟨g7, 5, none⟩)) (by kernel_rfl) (by kernel_rfl) (by kernel_rfl) (fun _ _ _ _ h => h) (by kernel_rfl) (fun w => by kernel_rfl) m0 ?_
          refine rgd_pureS 5 (some 45) rfl rfl (.string ytx) (by kernel_rfl) (by kernel_rfl) (by kernel_rfl) (fun _ _ _ _ h => h) (by kernel_rfl) (fun U hU => exec_load1 _ _ rfl Tryd.underlying9 rfl ⟨g7, 5, none⟩ _ (by kernel_rfl) (cell_hold T5.out hU)) m0 ?_
          refine rgd_call 3 (some 43) (by kernel_rfl) rfl rfl (by kernel_rfl) 18 (#[.slice p5 L5.length q5, .int .i64 yf]) (by kernel_rfl) (refNumW_any p5 q5 L5 yf _ (G7.out.below m0) WF.out (by omega)) ?_
          rintro e U6 hr6
          obtain ⟨L6, hL6⟩ : ∃ X, L5 ++ Cod.enc yf.toNat = X := ⟨_, rfl⟩
          have n6 : L6.length ≤ LJ.length + 1050 := by rw [← hL6]; simp only [List.length_append]; omega
          rw [hL6] at hr6
          have HL6 := Lib.hid hL6
          clear hL6
          obtain ⟨p6, q6, rfl, k6, b6⟩ := hr6.given
          have m1 := thenBelow m0 b6
          refine ⟨_, rfl, m1, ?_⟩
          refine rgd_call 6 (some 46) (by kernel_rfl) rfl rfl (by kernel_rfl) 44 (#[.slice p6 L6.length q6, .string ytx]) (by kernel_rfl) (refTextW_any p6 q6 L6 ytx _ k6 (by omega)) ?_
          rintro e U7 hr7
          obtain ⟨L7, hL7⟩ : ∃ X, L6 ++ Cod.enc ytx.size ++ ytx.data.toList = X := ⟨_, rfl⟩
          rw [hL7] at hr7
          have HL7 := Lib.hid hL7
          clear hL7
          obtain ⟨p7, q7, rfl, k7, b7⟩ := hr7.given
          have m2 := thenBelow m1 b7
          refine ⟨_, rfl, m2, ?_⟩
          refine rgd_pure 7 (some 5) rfl rfl (.slice p7 L7.length q7) (by kernel_rfl) (by kernel_rfl) (by kernel_rfl) (fun _ _ _ _ h => h) (by kernel_rfl) (fun w => by kernel_rfl) m2 ?_
          have KE3 : K3 { tmps := #[.slice p b.length c, .agg (scs F (.slice (some ⟨b9, o9, none⟩) L.length d)), undef, .pointer (some ⟨g3, 0, none⟩), .slice none 0 0, .slice p7 L7.length q7, undef, .pointer (some ⟨g7, 0, none⟩), .agg (scs F (.slice (some ⟨b9, o9, none⟩) L.length d)), .bool true, .bool false, undef, undef, undef, .slice p b.length c, .pointer (some ⟨g3, 0, none⟩), .agg (vf F), .slice p1 LA.length q1, .pointer (some ⟨g3, 64, none⟩), .slice (some ⟨b9, o9, none⟩) L.length d, .int .i64 (L.length : Int), .slice p2 LB.length q2, .pointer (some ⟨g3, 64, none⟩), .slice (some ⟨b9, o9, none⟩) L.length d, .int .i64 (L.length : Int), .int .i64 (k : Int), .bool true, .pointer (some ⟨b9, o9 + k * 6, none⟩), .agg #[.int .i64 yr, .int .i64 yn, .int .i64 yt, .string yd, .int .i64 yf, .string ytx], .slice p0 LJ.length c0, .pointer (some ⟨g7, 0, none⟩), .agg #[.int .i64 yr, .int .i64 yn], .slice p3 L3b.length q3, .pointer (some ⟨g7, 2, none⟩), .int .i64 yt, .slice p4 L4b.length q4, .slice p4 L4b.length q4, .pointer (some ⟨g7, 3, none⟩), .string yd, .slice p5 L5.length q5, .slice p5 L5.length q5, .pointer (some ⟨g7, 4, none⟩), .int .i64 yf, .slice p6 L6.length q6, .pointer (some ⟨g7, 5, none⟩), .string ytx, .slice p7 L7.length q7, u47, undef], defers := [] } U7 := by
            refine hK3 _ _ ?_
            have B8 := Lib.hid (thenBelow B7.out m2)
            obtain ⟨v7, e7, hO7, _⟩ := hr7.after (thenBelow B7.out m1)
            obtain rfl : _ = v7 := by injection e7
            have HALL : Hid (L7 = LB ++ (L.take (k + 1)).flatMap wtB) := Lib.hid (by
              rw [← HJ2.out, ← HL7.out, ← HL6.out, ← HL5.out, ← HL4.out, ← HL3.out]
              unfold wtB
              simp only [List.append_assoc])
            have n7 : Hid (L7.length ≤ 140737488354000 + 2100 * (k + 1)) := Lib.hid (by
              have h1 := congrArg List.length (HALL.out.trans HJ2.out.symm)
              rw [List.length_append] at h1
              omega)
            have O7 := Lib.hid hO7
            clear hK3 m0 m1 m2 hr6 hr7 hO7 e7
            go_wp2
            go_roundw
            case rel => exact ⟨k + 1, L7, by omega, by go_num, HALL, n7.out, O7.out, B8.out⟩
            case measure => simp [RowKit.intOf]; omega
          exact wpAnyH_done (by kernel_rfl) (Eq.mp (by kernel_rfl) KE3) _
        exact wpAnyH_done (by kernel_rfl) (Eq.mp (by kernel_rfl) KE2) _
      · obtain rfl : k = L.length := by omega
        have OO := Lib.hid hown
        clear hown hb
        have hkl' : ¬ ((L.length : Nat) : Int) < L.length := by omega
        have HJ2 : Hid (LJ = X) := Lib.hid (by rw [HJ.out, List.take_length, HB.out]; exact HX.out)
        have FO : Hid (RetOwn w 5 X (.returned u5) wr) := Lib.hid (by rw [← HJ2.out]; exact ⟨u5, rfl, OO.out, BB.out⟩)
        clear HJ HJ2 OO hj
        go_wp2
        go_ret
        exact FO.out
  exact wpAnyH_done (by kernel_rfl) (Eq.mp (by kernel_rfl) KE) _

set_option maxHeartbeats 4000000 in
theorem refPutStateA_is (p : Option Addr) (c : Nat) (b : List UInt8) (F : Nat → Int) (q : Option Addr) (d : Nat) (L : List Wr) (w : World) (hb : Given w p c b) (hL : WrsAt w q L) (hlen : b.length ≤ 140737488352000) :
    Calls Tryd.prog 21 #[.slice p b.length c, .agg (scs F (.slice q L.length d))] w (RetOwn w 5 (b ++ stP F L)) := by
  by_cases hc : canB F L = true
  · have e : stP F L = stB F L := by unfold stP; rw [if_pos hc]
    rw [e]
    exact refPutState_is p c b F q d L w hb hL hc hlen
  have e : b ++ stP F L = b := by unfold stP; rw [if_neg hc, List.append_nil]
  rw [e]
  have CC : Hid (canB F L = false) := Lib.hid (by simpa using hc)
  have HW := Lib.hid hL; have HG := Lib.hid hb
  clear hb hL hc e
  go_enter Tryd.func21, Tryd.ntmps21
  go_wp2_with (refine wpList_gbox rfl _ rfl (scs F (.slice q L.length d)) rfl ?_)
  intro g3 w1 l1 h1 hb1
  have S1 : Hid (Sx w1 g3 F (.slice q L.length d)) := Lib.hid h1
  have B1 := Lib.hid hb1
  clear h1 hb1
  have SW := Lib.hid (S1.out.whole)
  have CN : Hid (Calls Tryd.prog 28 #[.agg (scs F (.slice q L.length d))] w1 (RetBool w1 false)) := Lib.hid (by have := refCan_is F q d L w1 (HW.out.below B1.out); rw [CC.out] at this; exact this)
  go_wp2_with (refine wpList_gload rfl _ rfl g3 0 rfl _ SW.out _ Tryd.underlying27 rfl (sizeStl _ _) ?_)
  refine CN.out.mono ?_
  rintro e w2 ⟨rfl, hb2⟩
  have B2 := Lib.hid (thenBelow B1.out hb2)
  have G2 := Lib.hid (HG.out.below B2.out)
  clear hb2 S1 SW CN
  have O2 := Lib.hid (show (w2.alloc (.cells #[] 5)).ownsRow w2.heap.size 5 1 (.slice (some ⟨w2.heap.size, 0, none⟩) 0 0) 0 (bys []) from World.ownsRow_made w2 #[] 0 (Nat.le_refl _) (Nat.zero_le _) rfl)
  have ba := below_alloc w2 (.cells #[] 5)
  have B3 := Lib.hid (thenBelow B2.out ba)
  have hz3 := B2.out.size
  have hz4 := ba.size
  have G3 := Lib.hid (G2.out.below ba)
  clear ba
  go_wp2_with (at_builtin; refine wpList_bytesW isU8 _ rfl _ _ rfl w2.heap.size 0 [] _ rfl O2.out p b.length c b rfl G3.out.lies rfl (fun e => ⟨by rw [(G3.out.none e).1]; rfl, (G3.out.none e).2⟩) (by omega) hz4 ?_)
  intro v3 w3 o3 b3
  have B4 := Lib.hid (B3.out.trans (b3.mono hz3))
  have o3' : w3.ownsRow w.heap.size 5 1 v3 b.length (bys b) := by
    have := o3
    exact own_mono this hz3
  have FO : Hid (RetOwn w 5 b (.returned v3) w3) := Lib.hid ⟨v3, rfl, o3', B4.out⟩
  clear o3 o3' b3
  go_wp2
  go_ret
  exact FO.out
end Go.Proofs.YtapbeokocfmlpaaDoor
/- The document's bytes of an event behind others. -/
namespace Go.Proofs.YtapbeokocfmlpaaDoor
open Go Go.RowKit
set_option linter.unusedVariables false
set_option maxRecDepth 1000000

/-- an event in a block of its own -/
def Ex (w : World) (g : Nat) (x : EvP) : Prop := w.heap[g]? = some (.cells x.cells.toArray 55 (0, 0))
theorem Ex.lt {w : World} {g : Nat} {x : EvP} (h : Ex w g x) : g < w.heap.size := (Array.getElem?_eq_some_iff.1 h).1
theorem Ex.later {w w' : World} {g : Nat} {x : EvP} (h : Ex w g x) (hb : Below w.heap.size w w') : Ex w' g x := (hb.block g h.lt).trans h
theorem Ex.at {w : World} {g : Nat} {x : EvP} (h : Ex w g x) (i : Nat) {v : Value} (hv : x.cells[i]? = some v) : w.cell? ⟨g, i, none⟩ = some v := (cell_of_row w g i _ _ _ h).trans (by rw [List.getElem?_toArray]; exact hv)
theorem Ex.whole {w : World} {g : Nat} {x : EvP} (h : Ex w g x) : w.rangeAt g 0 x.cells := by simpa using range_of_block h
theorem dots_take (l : List Dt) (k : Nat) (h : k < l.length) : (l.take (k + 1)).flatMap dotB = (l.take k).flatMap dotB ++ dotB l[k] := by
  rw [List.take_succ_eq_append_getElem h, List.flatMap_append]; simp
set_option maxHeartbeats 8000000 in
theorem refPutEvent_is (p : Option Addr) (c : Nat) (b : List UInt8) (x : EvP) (w : World) (hb : Given w p c b) (hx : x.Ok w) (hlen : b.length ≤ 140900000000000) :
    Calls Tryd.prog 42 #[.slice p b.length c, .agg x.cells.toArray] w (RetOwn w 5 (b ++ wrB x.e)) := by
  have HG := Lib.hid hb; have HX := Lib.hid hx
  clear hb hx
  have CK : Hid (∀ V : World, Below w.heap.size w V → Calls Tryd.prog 27 #[.agg x.cells.toArray] V (Check1 V (chk x.e))) := Lib.hid fun V hV => refCheck_is x V (HX.out.below hV)
  by_cases hc : ¬ chk x.e = 0
  · have e : b ++ wrB x.e = b := by unfold wrB; rw [if_neg hc, List.append_nil]
    rw [e]
    obtain ⟨C, hC⟩ : ∃ C, chk x.e = C := ⟨_, rfl⟩
    rw [hC] at CK hc
    have hn : (C != 0) = true := by simpa using hc
    clear e hC hc
    go_enter Tryd.func42, Tryd.ntmps42
    go_wp2_with (refine wpList_gbox rfl _ rfl x.cells.toArray rfl ?_)
    intro g3 w1 l1 h1 hb1
    have X1 : Hid (Ex w1 g3 x) := Lib.hid h1
    have B1 := Lib.hid hb1
    have W1 := Lib.hid X1.out.whole
    clear h1 hb1
    go_wp2_with (refine wpList_gload rfl _ rfl g3 0 rfl _ W1.out _ Tryd.underlying55 rfl (sizeEv _) ?_)
    refine (CK.out w1 B1.out).mono ?_
    rintro e w2 ⟨rfl, hb2⟩
    have B2 := Lib.hid (thenBelow B1.out hb2)
    have G2 := Lib.hid (HG.out.below B2.out)
    clear hb2 X1 B1 W1 CK
    have O2 := Lib.hid (show (w2.alloc (.cells #[] 5)).ownsRow w2.heap.size 5 1 (.slice (some ⟨w2.heap.size, 0, none⟩) 0 0) 0 (bys []) from World.ownsRow_made w2 #[] 0 (Nat.le_refl _) (Nat.zero_le _) rfl)
    have ba := below_alloc w2 (.cells #[] 5)
    have B3 := Lib.hid (thenBelow B2.out ba)
    have hz3 := B2.out.size
    have hz4 := ba.size
    have G3 := Lib.hid (G2.out.below ba)
    clear ba
    go_wp2_with (at_builtin; refine wpList_bytesW isU8 _ rfl _ _ rfl w2.heap.size 0 [] _ rfl O2.out p b.length c b rfl G3.out.lies rfl (fun e => ⟨by rw [(G3.out.none e).1]; rfl, (G3.out.none e).2⟩) (by omega) hz4 ?_)
    intro v3 w3 o3 b3
    have B4 := Lib.hid (B3.out.trans (b3.mono hz3))
    have o3' : w3.ownsRow w.heap.size 5 1 v3 b.length (bys b) := own_mono (by simpa using o3) hz3
    have FO : Hid (RetOwn w 5 b (.returned v3) w3) := Lib.hid ⟨v3, rfl, o3', B4.out⟩
    clear o3 o3' b3
    go_wp2
    go_ret
    exact FO.out
  have hc := Decidable.not_not.1 hc
  have FN := fine_of hc
  have e : wrB x.e = evB x.e := by unfold wrB; rw [if_pos hc]
  rw [e]
  rw [hc] at CK
  have fd := (vld_iff _ _).1 FN.dot
  have f1 := FN.time; have f2 := FN.kind; have f3 := FN.field; have f4 := FN.doc; have f5 := FN.text; have f6 := FN.many
  have HD : Hid (∀ d ∈ x.e.gone, vl d = true) := Lib.hid FN.gone
  have WT : Hid ((Lit.int .i64 x.e.time).wf = true) := Lib.hid (wf_ok (by omega))
  have WK : Hid ((Lit.int .i64 x.e.kind).wf = true) := Lib.hid (wf_ok (by omega))
  have WF : Hid ((Lit.int .i64 x.e.field).wf = true) := Lib.hid (wf_ok (by omega))
  have WN : Hid ((Lit.int .i64 (x.e.gone.length : Int)).wf = true) := Lib.hid (wf_ok (by omega))
  have DB : Hid ((-1000000000000000000 ≤ x.e.rep ∧ x.e.rep ≤ 1000000000000000000) ∧ -1000000000000000000 ≤ x.e.n ∧ x.e.n ≤ 1000000000000000000) := Lib.hid (by omega)
  have n0 := dotB_len (x.e.rep, x.e.n); have n1 := enc_len x.e.time.toNat; have n2 := enc_len x.e.kind.toNat; have n3 := enc_len x.e.doc.size; have n4 := enc_len x.e.field.toNat; have n5 := enc_len x.e.text.size; have n6 := enc_len x.e.gone.length
  obtain ⟨X, hX⟩ : ∃ X, b ++ evB x.e = X := ⟨_, rfl⟩
  rw [hX]
  have HXX : Hid (b ++ dotB (x.e.rep, x.e.n) ++ Cod.enc x.e.time.toNat ++ Cod.enc x.e.kind.toNat ++ (Cod.enc x.e.doc.size ++ x.e.doc.data.toList) ++ Cod.enc x.e.field.toNat ++ (Cod.enc x.e.text.size ++ x.e.text.data.toList) ++ Cod.enc x.e.gone.length ++ x.e.gone.flatMap dotB = X) := Lib.hid (by rw [← hX]; unfold evB; simp only [List.append_assoc])
  clear hX hc e FN fd f1 f2 f3
  go_enter Tryd.func42, Tryd.ntmps42
  go_wp2_with (refine wpList_gbox rfl _ rfl x.cells.toArray rfl ?_)
  intro g3 w1 l1 h1 hb1
  have X1 : Hid (Ex w1 g3 x) := Lib.hid h1
  have B1 := Lib.hid hb1
  have W1 := Lib.hid X1.out.whole
  clear h1 hb1
  go_wp2_with (refine wpList_gload rfl _ rfl g3 0 rfl _ W1.out _ Tryd.underlying55 rfl (sizeEv _) ?_)
  refine (CK.out w1 B1.out).mono ?_
  rintro e w2 ⟨rfl, hb2⟩
  have X2 := Lib.hid (X1.out.later hb2); have B2 := Lib.hid (thenBelow B1.out hb2)
  have G2 := Lib.hid (HG.out.below B2.out)
  clear hb2 X1 B1 W1 CK
  have c0 := X2.out.at 0 (v := .int .i64 x.e.rep) rfl; have c1 := X2.out.at 1 (v := .int .i64 x.e.n) rfl
  go_wp2_with fail
  refine (refPutDot_is p c b x.e.rep x.e.n w2 G2.out DB.out (by omega)).mono ?_
  intro e w3 hr3
  obtain ⟨L3, hL3⟩ : ∃ X, b ++ dotB (x.e.rep, x.e.n) = X := ⟨_, rfl⟩
  have nL3 : L3.length ≤ b.length + 18 := by rw [← hL3]; simp only [List.length_append, Array.length_toList, ByteArray.size_data]; omega
  rw [hL3] at hr3
  have HL3 := Lib.hid hL3
  clear hL3
  have V3 := Lib.hid (hr3.after B2.out)
  obtain ⟨p3, q3, rfl, g3, b3⟩ := hr3.given
  have X3 := Lib.hid (X2.out.later b3); have B3 := Lib.hid (thenBelow B2.out b3); have G3 := Lib.hid g3
  clear hr3 g3 b3 X2 B2 G2 c0 c1
  have c2 := X3.out.at 2 (v := .int .i64 x.e.time) rfl
  go_wp2_with fail
  refine (refNumW_any p3 q3 L3 x.e.time w3 G3.out WT.out (by omega)).mono ?_
  intro e w4 hr4
  obtain ⟨L4, hL4⟩ : ∃ X, L3 ++ Cod.enc x.e.time.toNat = X := ⟨_, rfl⟩
  have nL4 : L4.length ≤ b.length + 27 := by rw [← hL4]; simp only [List.length_append, Array.length_toList, ByteArray.size_data]; omega
  rw [hL4] at hr4
  have HL4 := Lib.hid hL4
  clear hL4
  have V4 := Lib.hid (hr4.after B3.out)
  obtain ⟨p4, q4, rfl, g4, b4⟩ := hr4.given
  have X4 := Lib.hid (X3.out.later b4); have B4 := Lib.hid (thenBelow B3.out b4); have G4 := Lib.hid g4
  clear hr4 g4 b4 X3 B3 G3 V3 c2
  have c2 := X4.out.at 3 (v := .int .i64 x.e.kind) rfl
  go_wp2_with fail
  refine (refNumW_any p4 q4 L4 x.e.kind w4 G4.out WK.out (by omega)).mono ?_
  intro e w5 hr5
  obtain ⟨L5, hL5⟩ : ∃ X, L4 ++ Cod.enc x.e.kind.toNat = X := ⟨_, rfl⟩
  have nL5 : L5.length ≤ b.length + 36 := by rw [← hL5]; simp only [List.length_append, Array.length_toList, ByteArray.size_data]; omega
  rw [hL5] at hr5
  have HL5 := Lib.hid hL5
  clear hL5
  have V5 := Lib.hid (hr5.after B4.out)
  obtain ⟨p5, q5, rfl, g5, b5⟩ := hr5.given
  have X5 := Lib.hid (X4.out.later b5); have B5 := Lib.hid (thenBelow B4.out b5); have G5 := Lib.hid g5
  clear hr5 g5 b5 X4 B4 G4 V4 c2
  have c2 := X5.out.at 4 (v := .string x.e.doc) rfl
  go_wp2_with fail
  refine (refTextW_any p5 q5 L5 x.e.doc w5 G5.out (by omega)).mono ?_
  intro e w6 hr6
  obtain ⟨L6, hL6⟩ : ∃ X, L5 ++ Cod.enc x.e.doc.size ++ x.e.doc.data.toList = X := ⟨_, rfl⟩
  have nL6 : L6.length ≤ b.length + 100 := by rw [← hL6]; simp only [List.length_append, Array.length_toList, ByteArray.size_data]; omega
  rw [hL6] at hr6
  have HL6 := Lib.hid hL6
  clear hL6
  have V6 := Lib.hid (hr6.after B5.out)
  obtain ⟨p6, q6, rfl, g6, b6⟩ := hr6.given
  have X6 := Lib.hid (X5.out.later b6); have B6 := Lib.hid (thenBelow B5.out b6); have G6 := Lib.hid g6
  clear hr6 g6 b6 X5 B5 G5 V5 c2
  have c2 := X6.out.at 5 (v := .int .i64 x.e.field) rfl
  go_wp2_with fail
  refine (refNumW_any p6 q6 L6 x.e.field w6 G6.out WF.out (by omega)).mono ?_
  intro e w7 hr7
  obtain ⟨L7, hL7⟩ : ∃ X, L6 ++ Cod.enc x.e.field.toNat = X := ⟨_, rfl⟩
  have nL7 : L7.length ≤ b.length + 109 := by rw [← hL7]; simp only [List.length_append, Array.length_toList, ByteArray.size_data]; omega
  rw [hL7] at hr7
  have HL7 := Lib.hid hL7
  clear hL7
  have V7 := Lib.hid (hr7.after B6.out)
  obtain ⟨p7, q7, rfl, g7, b7⟩ := hr7.given
  have X7 := Lib.hid (X6.out.later b7); have B7 := Lib.hid (thenBelow B6.out b7); have G7 := Lib.hid g7
  clear hr7 g7 b7 X6 B6 G6 V6 c2
  have c2 := X7.out.at 6 (v := .string x.e.text) rfl
  go_wp2_with fail
  refine (refTextW_any p7 q7 L7 x.e.text w7 G7.out (by omega)).mono ?_
  intro e w8 hr8
  obtain ⟨L8, hL8⟩ : ∃ X, L7 ++ Cod.enc x.e.text.size ++ x.e.text.data.toList = X := ⟨_, rfl⟩
  have nL8 : L8.length ≤ b.length + 300 := by rw [← hL8]; simp only [List.length_append, Array.length_toList, ByteArray.size_data]; omega
  rw [hL8] at hr8
  have HL8 := Lib.hid hL8
  clear hL8
  have V8 := Lib.hid (hr8.after B7.out)
  obtain ⟨p8, q8, rfl, g8, b8⟩ := hr8.given
  have X8 := Lib.hid (X7.out.later b8); have B8 := Lib.hid (thenBelow B7.out b8); have G8 := Lib.hid g8
  clear hr8 g8 b8 X7 B7 G7 V7 c2
  have c2 := X8.out.at 7 (v := .slice x.p x.e.gone.length x.c) rfl
  have NM8 : Hid (Calls Tryd.prog 18 #[.slice p8 L8.length q8, .int .i64 (x.e.gone.length : Int)] w8 (RetOwn w8 5 (L8 ++ Cod.enc x.e.gone.length))) := Lib.hid (by have := refNumW_any p8 q8 L8 (x.e.gone.length : Int) w8 G8.out WN.out (by omega); simpa using this)
  go_wp2_with fail
  refine (NM8.out).mono ?_
  intro e w9 hr9
  obtain ⟨L9, hL9⟩ : ∃ X, L8 ++ Cod.enc x.e.gone.length = X := ⟨_, rfl⟩
  have nL9 : L9.length ≤ b.length + 309 := by rw [← hL9]; simp only [List.length_append, Array.length_toList, ByteArray.size_data]; omega
  rw [hL9] at hr9
  have HL9 := Lib.hid hL9
  clear hL9
  have V9 := Lib.hid (hr9.after B8.out)
  obtain ⟨p9, q9, rfl, g9, b9⟩ := hr9.given
  have X9 := Lib.hid (X8.out.later b9); have B9 := Lib.hid (thenBelow B8.out b9); have G9 := Lib.hid g9
  clear hr9 g9 b9 X8 B8 G8 V8 c2 NM8
  have c2 := X9.out.at 7 (v := .slice x.p x.e.gone.length x.c) rfl
  have HB9 : Hid (L9 ++ x.e.gone.flatMap dotB = X) := Lib.hid (by
    rw [← HXX.out, ← HL9.out, ← HL8.out, ← HL7.out, ← HL6.out, ← HL5.out, ← HL4.out, ← HL3.out]
    simp only [List.append_assoc])
  obtain ⟨v9, e9, hO9, _⟩ := V9.out
  obtain rfl : _ = v9 := by injection e9
  have O9 := Lib.hid hO9
  have N120 := Lib.hid f6
  clear e9 hO9 V9 HXX HL3 HL4 HL5 HL6 HL7 HL8 HL9 G9
  go_wp2
  clear c2
  obtain ⟨⟨xr, xn, xt, xk, xd, xf, xx, gn⟩, gp, gc⟩ := x
  simp only at HB9 HD N120 HX
  go_loopw [5, 46] (fun v i wr => ∃ (k : Nat) (LJ : List UInt8), k ≤ gn.length ∧ i = .int .i64 k ∧ Hid (LJ = L9 ++ (gn.take k).flatMap dotB) ∧ LJ.length ≤ b.length + 309 + 18 * k ∧ wr.ownsRow w.heap.size 5 1 v LJ.length (bys LJ) ∧ Below w.heap.size w wr) (fun _ i _ => gn.length - (RowKit.intOf i).toNat)
  case atStart => exact ⟨0, L9, Nat.zero_le _, rfl, Lib.hid (by simp), by omega, O9.out, B9.out⟩
  case round =>
    obtain ⟨k, LJ, hk, rfl, HJ, hj, hown, hb⟩ := hrel
    have BB := Lib.hid hb
    have hL4 : gn.length ≤ 120 := N120.out
    by_cases hkl : k < gn.length
    · have hkl' : (k : Int) < gn.length := by omega
      obtain ⟨p0, c0, rfl, hg0⟩ := own_given hown
      clear hown hb
      obtain ⟨b9, o9, rfl, hq⟩ := drow_at (HX.out.1.below BB.out) hkl
      have hvl := (vl_iff _).1 (HD.out _ (List.getElem_mem hkl))
      have HJ2 : Hid (LJ ++ dotB gn[k] = L9 ++ (gn.take (k + 1)).flatMap dotB) := Lib.hid (by rw [dots_take gn k hkl, HJ.out, List.append_assoc])
      obtain ⟨d1, hd1⟩ : ∃ z, gn[k].1 = z := ⟨_, rfl⟩
      obtain ⟨d2, hd2⟩ : ∃ z, gn[k].2 = z := ⟨_, rfl⟩
      have hgk : gn[k] = (d1, d2) := Prod.ext hd1 hd2
      rw [hgk] at hq hvl HJ2
      simp only at hq hvl
      have d0 := hq 0 _ rfl
      have dd1 := hq 1 _ rfl
      rw [Nat.add_zero] at d0
      have nd := dotB_len (d1, d2)
      have ba := below_alloc wr (.cells #[.int .i64 d1, .int .i64 d2] 52)
      have B5 := Lib.hid (thenBelow BB.out ba); have G5 := Lib.hid (hg0.below ba)
      clear hgk hd1 hd2 hq HJ ba hg0
      go_wp2_with fail
      refine (refPutDot_is p0 c0 LJ d1 d2 _ G5.out ⟨⟨by omega, by omega⟩, by omega, by omega⟩ (by omega)).mono ?_
      intro e w9' hr
      obtain ⟨LK, hLK⟩ : ∃ X, LJ ++ dotB (d1, d2) = X := ⟨_, rfl⟩
      have nK : Hid (LK.length ≤ b.length + 309 + 18 * (k + 1)) := Lib.hid (by rw [← hLK, List.length_append]; omega)
      rw [hLK] at hr HJ2
      obtain ⟨v7, rfl, hO7, hB7⟩ := hr.after B5.out
      have O7 := Lib.hid hO7; have B7 := Lib.hid hB7
      have HE : Hid (LK = L9 ++ (gn.take (k + 1)).flatMap dotB) := HJ2
      clear hLK hr hO7 hB7 d0 dd1 G5 B5 HJ2
      go_wp2
      go_roundw
      case rel => exact ⟨k + 1, LK, by omega, by go_num, HE, nK.out, O7.out, B7.out⟩
      case measure => simp [RowKit.intOf]; omega
    · obtain rfl : k = gn.length := by omega
      have hkl' : ¬ ((gn.length : Nat) : Int) < gn.length := by omega
      have HJ2 : Hid (LJ = X) := Lib.hid (by rw [HJ.out, List.take_length]; exact HB9.out)
      have FO : Hid (RetOwn w 5 X (.returned u5) wr) := Lib.hid (by rw [← HJ2.out]; exact ⟨u5, rfl, hown, BB.out⟩)
      clear HJ HJ2 hown hb hj
      go_wp2
      go_ret
      exact FO.out
end Go.Proofs.YtapbeokocfmlpaaDoor
