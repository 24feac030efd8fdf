/- The statement WireDecodes, proved for every input that its row reads: part 42 of 54. -/
import Derived.Test.YtapmbankpbiglaaGreatDoorPackWireDecodes37
import Derived.Test.YtapmbankpbiglaaGreatDoorPackWireDecodes33
import Derived.Test.YtapmbankpbiglaaGreatDoorPackWireDecodes41
import Derived.Test.YtapmbankpbiglaaGreatDoorMemWide
import Derived.Test.YtapmbankpbiglaaGreatDoorPackWireDecodes36
import Derived.Test.YtapmbankpbiglaaGreatDoorPackWireDecodes40
/- A state's bytes behind others. -/
namespace Go.Proofs.YtapmbankpbiglaaGreatDoor
open Go Go.RowKit
set_option linter.unusedVariables false
set_option maxRecDepth 1000000

/-- a state's bytes -/
def stB (F : Nat → Int) (L : List Wr) : List UInt8 := vbytes F ++ (Cod.enc L.length ++ L.flatMap wtB)
theorem wts_take (L : List Wr) (k : Nat) (h : k < L.length) : (L.take (k + 1)).flatMap wtB = (L.take k).flatMap wtB ++ wtB L[k] := by
  rw [List.take_succ_eq_append_getElem h, List.flatMap_append]; simp
set_option maxHeartbeats 8000000 in
theorem docPut_is (p : Option Addr) (c : Nat) (b : List UInt8) (F : Nat → Int) (q : Option Addr) (d : Nat) (L : List Wr) (w : World) (hb : Given w p c b) (hL : WrsAt w q L) (hc : canB F L = true) (hT : Shapes w) (hlen : b.length ≤ 140737488352000) :
    Calls Tryz.prog 51 #[.slice p b.length c, .agg (scs F (.slice q L.length d))] w (RetOwn w 5 (b ++ stB F L)) := by
  have HW := Lib.hid hL; have HT := Lib.hid hT; have HG := Lib.hid hb
  have CP := can_iff.1 hc
  have SM : Hid (∀ y ∈ L, Small1 y) := Lib.hid fun y hy => small_of (CP.fine y hy).1
  have L4 : Hid (L.length ≤ 4096) := Lib.hid CP.len
  have CC : Hid (canB F L = true) := Lib.hid hc
  have VL := Lib.hid (vbytes_len F)
  have EL := Lib.hid (enc_len L.length)
  have WN : Hid ((Lit.int .i64 (L.length : Int)).wf = true) := Lib.hid (wf_ok (by have := L4.out; omega))
  clear hb hL hc hT CP
  obtain ⟨X, hX⟩ : ∃ X, b ++ stB F L = X := ⟨_, rfl⟩
  rw [hX]
  have HX : Hid (b ++ vbytes F ++ Cod.enc L.length ++ L.flatMap wtB = X) := Lib.hid (by rw [← hX]; unfold stB; simp only [List.append_assoc])
  clear hX
  go_enter Tryz.func51, Tryz.ntmps51
  go_wp2_with (refine wpList_gbox rfl _ rfl (scs F (.slice q L.length d)) rfl ?_)
  intro g3 w1 l1 h1 hb1
  have S1 : Hid (Sx w1 g3 F (.slice q L.length d)) := Lib.hid h1
  have B1 := Lib.hid hb1
  clear h1 hb1
  have SW := Lib.hid (S1.out.whole)
  have CN : Hid (Calls Tryz.prog 57 #[.agg (scs F (.slice q L.length d))] w1 (RetBool w1 true)) := Lib.hid (by have := docCan_is F q d L w1 (HW.out.below B1.out) (HT.out.below B1.out); rw [CC.out] at this; exact this)
  go_wp2_with (refine wpList_gload rfl _ rfl g3 0 rfl _ SW.out _ Tryz.underlying29 rfl (sizeStl _ _) ?_)
  refine CN.out.mono ?_
  rintro e w2 ⟨rfl, hb2⟩
  have S2 := Lib.hid (S1.out.later hb2); have B2 := Lib.hid (thenBelow B1.out hb2)
  clear hb2 S1 SW CN
  go_wp2_with fail
  rename_i K2 hK2
  have m0 : Below w2.heap.size w2 w2.drew := (Below.refl _ _).drew
  refine rg_calm (by kernel_rfl) rfl (S := fun U => Below w2.heap.size w2 U) ?_
  refine rgd_pure 0 (some 12) rfl rfl (.slice p b.length c) (by kernel_rfl) (by kernel_rfl) (by kernel_rfl) (fun _ _ _ _ h => h) (by kernel_rfl) (fun w => by kernel_rfl) m0 ?_
  refine rgd_pure 1 (some 13) rfl rfl (.pointer (some ⟨g3, 0, none⟩)) (by kernel_rfl) (by kernel_rfl) (by kernel_rfl) (fun _ _ _ _ h => h) (by kernel_rfl) (fun w => by kernel_rfl) m0 ?_
  refine rgd_pureS 2 (some 14) rfl rfl (.agg (vf F)) (by kernel_rfl) (by kernel_rfl) (by kernel_rfl) (fun _ _ _ _ h => h) (by kernel_rfl) (fun U hU => exec_gload 25 _ rfl g3 0 (by kernel_rfl) _ (S2.out.later hU).vec Tryz.underlying25 rfl (sizeVcl F)) m0 ?_
  refine rgd_pure 4 (some 16) rfl rfl (.pointer (some ⟨g3, 64, none⟩)) (by kernel_rfl) (by kernel_rfl) (by kernel_rfl) (fun _ _ _ _ h => h) (by kernel_rfl) (fun w => by kernel_rfl) m0 ?_
  refine rgd_pureS 5 (some 17) rfl rfl (.slice q L.length d) (by kernel_rfl) (by kernel_rfl) (by kernel_rfl) (fun _ _ _ _ h => h) (by kernel_rfl) (fun U hU => exec_load1 _ _ rfl Tryz.underlying27 rfl ⟨g3, 64, none⟩ _ (by kernel_rfl) (S2.out.later hU).slot) m0 ?_
  refine rgd_pure 6 (some 18) rfl rfl (.int .i64 (L.length : Int)) (by kernel_rfl) (by kernel_rfl) (by kernel_rfl) (fun _ _ _ _ h => h) (by kernel_rfl) (fun w => by kernel_rfl) m0 ?_
  refine rgd_call 3 (some 15) (by kernel_rfl) rfl rfl (by kernel_rfl) 49 (#[.slice p b.length c, .agg (vf F)]) (by kernel_rfl) (vput_is p c b F _ (HG.out.below (thenBelow B2.out m0)) (by omega)) ?_
  rintro e U1 hr1
  obtain ⟨LA, hLA⟩ : ∃ X, b ++ vbytes F = X := ⟨_, rfl⟩
  have nA : LA.length ≤ 140737488353200 := by rw [← hLA]; have := VL.out; simp only [List.length_append]; omega
  rw [hLA] at hr1
  have HLA := Lib.hid hLA
  clear hLA
  obtain ⟨p1, q1, rfl, k1, b1⟩ := hr1.given
  have m1 := thenBelow m0 b1
  refine ⟨_, rfl, m1, ?_⟩
  refine rgd_call 7 (some 19) (by kernel_rfl) rfl rfl (by kernel_rfl) 48 (#[.slice p1 LA.length q1, .int .i64 (L.length : Int)]) (by kernel_rfl) (num_any p1 q1 LA (L.length : Int) _ k1.lies (fun e => (k1.none e).1) k1.le WN.out (by omega)) ?_
  rintro e U2 hr2
  obtain ⟨LB, hLB⟩ : ∃ X, LA ++ Cod.enc (L.length : Int).toNat = X := ⟨_, rfl⟩
  have nB : LB.length ≤ 140737488354000 := by rw [← hLB]; have := EL.out; simp only [List.length_append, Int.toNat_natCast]; omega
  rw [hLB] at hr2
  have HLB := Lib.hid hLB
  clear hLB
  obtain ⟨p2, q2, rfl, k2, b2⟩ := hr2.given
  have m2 := thenBelow m1 b2
  refine ⟨_, rfl, m2, ?_⟩
  refine rgd_pure 8 (some 0) rfl rfl (.slice p2 LB.length q2) (by kernel_rfl) (by kernel_rfl) (by kernel_rfl) (fun _ _ _ _ h => h) (by kernel_rfl) (fun w => by kernel_rfl) m2 ?_
  have KE : K2 { tmps := #[.slice p2 LB.length q2, .agg (scs F (.slice q L.length d)), undef, .pointer (some ⟨g3, 0, none⟩), .slice none 0 0, undef, undef, .agg (scs F (.slice q L.length d)), .bool true, .bool false, undef, undef, .slice p b.length c, .pointer (some ⟨g3, 0, none⟩), .agg (vf F), .slice p1 LA.length q1, .pointer (some ⟨g3, 64, none⟩), .slice q L.length d, .int .i64 (L.length : Int), .slice p2 LB.length q2, undef, undef, undef, undef, undef, undef, undef, undef, undef, undef, undef, undef, undef], defers := [] } U2 := by
    refine hK2 _ _ ?_
    have B4 := Lib.hid (thenBelow B2.out m2)
    obtain ⟨v2, e2, hO2, _⟩ := hr2.after (thenBelow B2.out m1)
    obtain rfl : _ = v2 := by injection e2
    have O2 := Lib.hid hO2
    have k64 := (S2.out.later m2).slot
    have HB : Hid (LB = b ++ vbytes F ++ Cod.enc L.length) := Lib.hid (by rw [← HLB.out, ← HLA.out]; simp only [Int.toNat_natCast])
    clear e2 hO2 hK2 m0 m1 m2 k1 k2 hr1 hr2 b1 b2 S2
    go_wp2
    clear k64
    go_loopw [0, 23] (fun v i wr => ∃ (k : Nat) (LJ : List UInt8), k ≤ L.length ∧ i = .int .i64 k ∧ Hid (LJ = LB ++ (L.take k).flatMap wtB) ∧ LJ.length ≤ 140737488354000 + 2100 * k ∧ wr.ownsRow w.heap.size 5 1 v LJ.length (bys LJ) ∧ Below w.heap.size w wr) (fun _ i _ => L.length - (RowKit.intOf i).toNat)
    case atStart => exact ⟨0, LB, Nat.zero_le _, rfl, Lib.hid (by simp), by omega, O2.out, B4.out⟩
    case round =>
      obtain ⟨k, LJ, hk, rfl, HJ, hj, hown, hb⟩ := hrel
      have BB := Lib.hid hb; have OO := Lib.hid hown
      have hL4 : L.length ≤ 4096 := L4.out
      clear hown hb
      by_cases hkl : k < L.length
      · have hkl' : (k : Int) < L.length := by omega
        have HWr := Lib.hid (HW.out.below BB.out)
        obtain ⟨b9, o9, rfl, hlt, hq⟩ := HWr.out.at hkl
        obtain ⟨y, hy⟩ : ∃ y, L[k] = y := ⟨_, rfl⟩
        rw [hy] at hq
        have YC := Lib.hid hy
        have YS : Small1 y := by rw [← hy]; exact SM.out _ (List.getElem_mem hkl)
        clear hy
        obtain ⟨c0, c1, c2, c3, c4, c5⟩ := wr_cells hq
        clear hq
        have yl := wtB_len YS
        obtain ⟨LW, hLW⟩ : ∃ X, wtB y = X := ⟨_, rfl⟩
        have DW := Lib.hid (fun V : World => docWritten_is y V YS)
        rw [hLW] at DW yl
        have HJ2 : Hid (LJ ++ LW = LB ++ (L.take (k + 1)).flatMap wtB) := Lib.hid (by rw [wts_take L k hkl, HJ.out, YC.out, hLW, List.append_assoc])
        clear hLW YS YC HJ
        obtain ⟨yr, yn, yt, yd, yf, ytx⟩ := y
        simp only at c0 c1 c2 c3 c4 c5
        have ba := below_alloc wr (.cells #[.int .i64 yr, .int .i64 yn, .int .i64 yt, .string yd, .int .i64 yf, .string ytx] 83)
        have na := heap_alloc_new wr (.cells #[.int .i64 yr, .int .i64 yn, .int .i64 yt, .string yd, .int .i64 yf, .string ytx] 83)
        have R4 : Hid ((wr.alloc (.cells #[.int .i64 yr, .int .i64 yn, .int .i64 yt, .string yd, .int .i64 yf, .string ytx] 83)).rangeAt wr.heap.size 0 (Wr.cells ⟨yr, yn, yt, yd, yf, ytx⟩)) := Lib.hid (range_of_block na)
        have B5 := Lib.hid (thenBelow BB.out ba); have O5 := Lib.hid (own_later OO.out ba)
        clear ba na OO
        go_wp2_with (refine wpList_gload rfl _ rfl wr.heap.size 0 rfl _ R4.out _ Tryz.underlying83 rfl (sizeWr ⟨yr, yn, yt, yd, yf, ytx⟩) ?_)
        refine (DW.out _).mono ?_
        intro e w6 hr6
        obtain ⟨p6, q6, rfl, g6, b6⟩ := hr6.given
        have G6 := Lib.hid g6; have B6 := Lib.hid (thenBelow B5.out b6); have O6 := Lib.hid (own_later O5.out b6)
        have hz := B6.out.size
        clear hr6 g6 b6 DW R4 O5 c0 c1 c2 c3 c4 c5
        go_wp2_with (at_builtin; refine wpList_bytesW isU8 _ rfl _ _ rfl w.heap.size LJ.length LJ _ rfl O6.out p6 LW.length q6 LW rfl G6.out.lies rfl (fun e => ⟨by rw [(G6.out.none e).1]; rfl, (G6.out.none e).2⟩) (by have := L4.out; omega) hz ?_)
        intro v7 w7 o7 b7
        have O7 : Hid (w7.ownsRow w.heap.size 5 1 v7 (LJ ++ LW).length (bys (LJ ++ LW))) := Lib.hid (by rw [List.length_append]; exact o7)
        have B7 := Lib.hid (B6.out.trans b7)
        have nJ : Hid ((LJ ++ LW).length ≤ 140737488354000 + 2100 * (k + 1)) := Lib.hid (by rw [List.length_append]; omega)
        clear o7 b7 hz
        go_wp2
        go_roundw
        case rel => exact ⟨k + 1, LJ ++ LW, by omega, by go_num, HJ2, nJ.out, O7.out, B7.out⟩
        case measure => simp [RowKit.intOf]; omega
      · obtain rfl : k = L.length := by omega
        have hkl' : ¬ ((L.length : Nat) : Int) < L.length := by omega
        have HJ2 : Hid (LJ = X) := Lib.hid (by rw [HJ.out, List.take_length, HB.out]; exact HX.out)
        have FO : Hid (RetOwn w 5 X (.returned u0) wr) := Lib.hid (by rw [← HJ2.out]; exact ⟨u0, rfl, OO.out, BB.out⟩)
        clear HJ HJ2 OO hj
        go_wp2
        go_ret
        exact FO.out
  exact wpAnyH_done (by kernel_rfl) (Eq.mp (by kernel_rfl) KE) _
end Go.Proofs.YtapmbankpbiglaaGreatDoor
/- docs: a state that was written is read. -/
namespace Go.Proofs.YtapmbankpbiglaaGreatDoor
open Go Go.RowKit
set_option linter.unusedVariables false
set_option maxRecDepth 1000000

/-- what reading a state comes to -/
def GotSt (w : World) (B : Nat) (F : Nat → Int) (L : List Wr) (l : List UInt8) (e : Ending) (w' : World) : Prop := ∃ p c, e = .returned (.agg (scs F (.slice p L.length c))) ∧ WrsAt w' p L ∧ (∀ a, p = some a → ∃ b o, a = ⟨b, o, none⟩) ∧ Rd w' B l ∧ w.grownBy w' (some B)
theorem RdA.live {w : World} {B : Nat} {m : List UInt8} (h : RdA w B (m, 0)) (hm : 0 < m.length) : Rd w B m := by
  rcases h with ⟨_, h⟩ | ⟨h, _⟩
  · exact h
  · have h' : m = [] := h
    subst h'; simp at hm
theorem wts_drop (L : List Wr) (k : Nat) (h : k < L.length) : (L.drop k).flatMap wtB = wtB L[k] ++ (L.drop (k + 1)).flatMap wtB := by
  rw [List.drop_eq_getElem_cons h, List.flatMap_cons]
theorem wcl_step (L : List Wr) (k : Nat) (h : k < L.length) : wcl (L.take (k + 1)) = wcl (L.take k) ++ L[k].cells := by
  rw [List.take_succ_eq_append_getElem h, wcl_append]; simp [wcl]
theorem wts_len (L : List Wr) (h : ∀ y ∈ L, Small1 y) : (L.flatMap wtB).length ≤ 2100 * L.length := by
  induction L with
  | nil => simp
  | cons y L ih =>
    have h1 := wtB_len (h y (by simp))
    have h2 := ih fun z hz => h z (by simp [hz])
    rw [List.flatMap_cons, List.length_append, List.length_cons]; omega
set_option maxHeartbeats 8000000 in
theorem readState_live (B : Nat) (F : Nat → Int) (L : List Wr) (l : List UInt8) (w : World) (h : Rd w B (stB F L ++ l)) (hc : canB F L = true) (hT : ∀ w', w.grownBy w' (some B) → Shapes w') (hl : l.length ≤ 141000000000000) :
    Calls Tryz.prog 33 #[.pointer (some ⟨B, 0, none⟩)] w (GotSt w B F L l) := by
  have CP := can_iff.1 hc
  have CC : Hid (canB F L = true) := Lib.hid hc
  have HB := Lib.hid h.lt'
  have HT := Lib.hid hT
  have hB := h.lt'
  have FG : Hid (∀ y ∈ L, chk (putE y) = 0) := Lib.hid fun y hy => (CP.fine y hy).1
  have SM : Hid (∀ y ∈ L, Small1 y) := Lib.hid fun y hy => small_of (FG.out y hy)
  have L4 : Hid (L.length ≤ 4096) := Lib.hid CP.len
  have HGd : Hid (goodB F = true) := Lib.hid CP.good
  clear hc hT CP
  have e6 := enc_len L.length
  have e7 : 0 < (Cod.enc L.length).length := by rw [Cod.enc_length]; omega
  obtain ⟨T2, q2⟩ : ∃ X, L.flatMap wtB ++ l = X := ⟨_, rfl⟩
  obtain ⟨T1, q1⟩ : ∃ X, Cod.enc L.length ++ T2 = X := ⟨_, rfl⟩
  have hR : stB F L ++ l = vbytes F ++ T1 := by rw [← q1, ← q2]; unfold stB; simp only [List.append_assoc]
  rw [hR] at h
  have n2 : T2.length ≤ l.length + 8700000 := by rw [← q2, List.length_append]; have := wts_len L SM.out; have := L4.out; omega
  have n1 : T1.length ≤ l.length + 8700010 := by rw [← q1, List.length_append]; omega
  have p1 : 0 < T1.length := by rw [← q1, List.length_append]; omega
  have Q2 := Lib.hid q2; have Q1 := Lib.hid q1
  have VB := Lib.hid (vec_back F HGd.out T1)
  have VL := vbytes_len F
  clear q2 q1 hR
  have H := Lib.hid h
  clear h
  go_enter Tryz.func33, Tryz.ntmps33
  go_wp2_with (refine wpList_galloc _ zeroSt rfl rfl ?_)
  intro g2 w1 l2 h2 hb1
  have K1 : Hid (Sx w1 g2 (fun _ => 0) (.slice none 0 0)) := Lib.hid h2
  have V1 := Lib.hid (vread_is B (vbytes F ++ T1, 0) w1 (.inl ⟨rfl, H.out.on hb1⟩) (by simp only [List.length_append]; omega))
  have G1 := Lib.hid (grown_less (R := some B) hb1)
  clear hb1 h2
  have VE : Hid (vf (outV (vbytes F ++ T1, 0)) = vf F) := Lib.hid (vf_congr VB.out.2)
  have SE : Hid (outS (vbytes F ++ T1, 0) = (T1, 0)) := Lib.hid VB.out.1
  have V2 : Hid (Calls Tryz.prog 31 #[.pointer (some ⟨B, 0, none⟩)] w1 fun e w' => e = .returned (.agg (vf F)) ∧ Rd w' B T1 ∧ w1.grownBy w' (some B)) := Lib.hid (V1.out.mono fun e w' ⟨h1, h2, h3⟩ => ⟨by rw [h1, VE.out], by rw [SE.out] at h2; exact h2.live p1, h3⟩)
  clear V1 VE SE VB
  go_wp2_with fail
  refine V2.out.mono ?_
  rintro e w2 ⟨rfl, hr, hg⟩
  have G2 := Lib.hid (grown_trans G1.out hg)
  have K2 : Hid (Sx w2 g2 (fun _ => 0) (.slice none 0 0)) := Lib.hid (grown_step G1.out hg HB.out l2 K1.out)
  have R2 := Lib.hid hr
  clear hr hg V2 K1
  go_wp2_with (first | refine wpList_pbuild (by rfl) _ rfl (scs F (.slice none 0 0)) (by simp only [List.map_toArray, List.map_cons, List.map_nil]; exact builtSt1 F _) ?_ | refine wpList_galloc _ zeroSt rfl rfl ?_)
  intro g3 w8 l8 h8 hb8
  have hl3 : w.heap.size ≤ g3 := Nat.le_trans G2.out.size l8
  have G8 := Lib.hid (grown_on G2.out (hb8.mono G2.out.size))
  have K8 : Hid (Sx w8 g2 (fun _ => 0) (.slice none 0 0)) := Lib.hid (K2.out.later hb8)
  have R8 := Lib.hid (R2.out.on hb8)
  have h23 : g2 ≠ g3 := by have := K2.out.lt; omega
  have H8 := Lib.hid h8
  clear hb8 h8 R2 K2 l8
  go_wp2_with (refine wpList_gstore rfl _ _ rfl g3 rfl (scs F (.slice none 0 0)) rfl _ _ H8.out (sizeSt _ _) (by rw [scs_size, scs_size]) (scs_one F rfl) ?_)
  intro w9 h9 g9
  have B9 : Below w.heap.size w8 w9 := grown_below g9 G8.out.size hl3
  have G9 := Lib.hid (grown_onE G8.out g9 hl3)
  have K9 : Hid (Sx w9 g2 (fun _ => 0) (.slice none 0 0)) := Lib.hid ((g9.block _ K8.out.lt (by simpa using h23)).trans K8.out)
  have R9 := Lib.hid (R8.out.under' HB.out B9)
  have H9 : Hid (Sx w9 g3 F (.slice none 0 0)) := Lib.hid h9
  clear h9 g9 B9 H8 K8 R8
  rw [← Q1.out] at R9
  have N9 := Lib.hid (numIn_live B L.length 4096 T2 w9 R9.out (by have := L4.out; omega) (by omega) (by simp only [List.length_append]; omega))
  obtain ⟨AG, hAG⟩ : ∃ v, Value.agg (scs F (.slice none 0 0)) = v := ⟨_, rfl⟩
  rw [hAG]
  clear hAG
  go_wp2_with fail
  refine N9.out.mono ?_
  rintro e w10 ⟨rfl, hr, hg⟩
  have G10 := Lib.hid (grown_trans G9.out hg)
  have K10 : Hid (Sx w10 g2 (fun _ => 0) (.slice none 0 0)) := Lib.hid (grown_step G9.out hg HB.out l2 K9.out)
  have H10 : Hid (Sx w10 g3 F (.slice none 0 0)) := Lib.hid (grown_step G9.out hg HB.out hl3 H9.out)
  have R10 := Lib.hid hr
  clear hr hg N9 K9 H9 R9
  go_wp2
  go_loopw [9] (fun i wr => ∃ (j : Nat) (u : Value) (xs : List Value) (TJ : List UInt8), j ≤ L.length ∧ i = .int .i64 j ∧ Hid (xs = wcl (L.take j)) ∧ Hid (TJ = (L.drop j).flatMap wtB ++ l) ∧ Sx wr g3 F u ∧ wr.ownsRow w.heap.size 83 6 u j xs ∧ Rd wr B TJ ∧ w.grownBy wr (some B) ∧ Sx wr g2 (fun _ => 0) (.slice none 0 0)) (fun i _ => L.length - (intOf i).toNat)
  case atStart => exact ⟨0, _, [], T2, Nat.zero_le _, rfl, Lib.hid rfl, Lib.hid (by simpa using Q2.out.symm), H10.out, World.ownsRow_nil _ _ _ _, R10.out, G10.out, K10.out⟩
  case round =>
    clear Q2 H10 R10 G10 K10
    obtain ⟨j, u, xs, TJ, hj, rfl, HXS, HTJ, hh, hown, hrd, hgr, hk⟩ := hrel
    have H0 := Lib.hid hh; have OW := Lib.hid hown; have RD := Lib.hid hrd; have GR := Lib.hid hgr; have KK := Lib.hid hk
    clear hh hown hrd hgr hk
    by_cases hjk : j < L.length
    · have hjk' : (j : Int) < L.length := by omega
      have hL4 : L.length ≤ 4096 := L4.out
      have nT : TJ.length ≤ l.length + 8700000 := by
        rw [HTJ.out, List.length_append]
        have := wts_len (L.drop j) fun y hy => SM.out y (List.mem_of_mem_drop hy)
        have h1 : (L.drop j).length ≤ L.length := by rw [List.length_drop]; omega
        have := L4.out
        omega
      have FD := Lib.hid (wts_drop L j hjk); have DT := Lib.hid (wcl_step L j hjk)
      have hvl := FG.out _ (List.getElem_mem hjk)
      obtain ⟨y, hz⟩ : ∃ z, L[j] = z := ⟨_, rfl⟩
      rw [hz] at FD DT hvl
      clear hz
      obtain ⟨TK, hTK⟩ : ∃ X, (L.drop (j + 1)).flatMap wtB ++ l = X := ⟨_, rfl⟩
      have HTK := Lib.hid hTK.symm
      have hTJ : TJ = wtB y ++ TK := by rw [HTJ.out, FD.out, List.append_assoc, hTK]
      clear hTK
      have nK : TK.length ≤ l.length + 8700000 := by rw [hTJ, List.length_append] at nT; omega
      have HTJ2 := Lib.hid hTJ
      clear hTJ
      have RDT : Hid (∀ W, Below wr.heap.size wr W → Calls Tryz.prog 56 #[.pointer (some ⟨B, 0, none⟩)] W (GotW W B (.agg y.cells.toArray) TK)) := Lib.hid fun W hW => readWrite_live B y TK W (by rw [← HTJ2.out]; exact RD.out.on hW) hvl (by omega)
      have XN : Hid (xs ++ y.cells = wcl (L.take (j + 1))) := Lib.hid (by rw [HXS.out, DT.out])
      have YO : ∀ v ∈ y.cells, v.oneCell' = true := y.cells_one
      obtain ⟨yr, yn, yt, yd, yf, ytx⟩ := y
      have RDT : Hid (∀ W, Below wr.heap.size wr W → Calls Tryz.prog 56 #[.pointer (some ⟨B, 0, none⟩)] W (GotW W B (.agg #[.int .i64 yr, .int .i64 yn, .int .i64 yt, .string yd, .int .i64 yf, .string ytx]) TK)) := RDT
      have XN : Hid (xs ++ [.int .i64 yr, .int .i64 yn, .int .i64 yt, .string yd, .int .i64 yf, .string ytx] = wcl (L.take (j + 1))) := XN
      have YO : Hid (∀ v ∈ ([.int .i64 yr, .int .i64 yn, .int .i64 yt, .string yd, .int .i64 yf, .string ytx] : List Value), v.oneCell' = true) := Lib.hid YO
      go_wp2_with fail
      rename_i K2 hK2
      have SZ : ∀ w : World, (sizeOf 27).run Tryz.prog w = .ok 1 w := fun w => by kernel_rfl
      have FIN : ∀ (X15 v' : Value) (W : World), Sx W g3 F v' → W.ownsRow w.heap.size 83 6 v' (j + 1) (xs ++ [.int .i64 yr, .int .i64 yn, .int .i64 yt, .string yd, .int .i64 yf, .string ytx]) → Rd W B TK → w.grownBy W (some B) → Sx W g2 (fun _ => 0) (.slice none 0 0) → K2 { tmps := #[.pointer (some ⟨B, 0, none⟩), undef, .pointer (some ⟨g2, 0, none⟩), .pointer (some ⟨g3, 0, none⟩), .pointer (some ⟨B, 0, none⟩), .agg (vf F), AG, .pointer (some ⟨B, 0, none⟩), .int .i64 (L.length : Int), .int .i64 (j : Int), .bool true, .pointer (some ⟨g3, 64, none⟩), u, .pointer (some ⟨B, 0, none⟩), .agg #[.int .i64 yr, .int .i64 yn, .int .i64 yt, .string yd, .int .i64 yf, .string ytx], X15, v', .pointer (some ⟨g3, 64, none⟩), u18, undef, undef, undef, undef, undef, undef, undef, undef, undef, undef, undef, undef, undef, undef, undef], defers := [] } W := by
        intro X15 v' W q1 q2 q3 q4 q5
        refine hK2 _ _ ?_
        clear hK2
        have P1 := Lib.hid q1; have P2 := Lib.hid q2; have P3 := Lib.hid q3; have P4 := Lib.hid q4; have P5 := Lib.hid q5
        clear q1 q2 q3 q4 q5 RDT
        go_wp2
        go_roundw
        case rel => exact ⟨j + 1, v', _, TK, by omega, by go_num, XN, HTK, P1.out, P2.out, P3.out, P4.out, P5.out⟩
        case measure => simp [intOf]; omega
      have GD := Lib.hid (grown_on GR.out (to_drew (Below.refl w.heap.size wr)))
      have HD : Hid (Sx wr.drew g3 F u) := Lib.hid H0.out
      have KD : Hid (Sx wr.drew g2 (fun _ => 0) (.slice none 0 0)) := Lib.hid KK.out
      have OD := Lib.hid (own_later OW.out (to_drew (Below.refl wr.heap.size wr)))
      obtain ⟨i0, hi, hz0, hz1, hz2⟩ := info_parts infoWr
      refine rg_last (by kernel_rfl) rfl (S := fun _ => True) ?_
      refine rgd_pure 0 (some 11) rfl rfl (.pointer (some ⟨g3, 64, none⟩)) (by kernel_rfl) (by kernel_rfl) (by kernel_rfl) (fun _ _ _ _ h => h) (by kernel_rfl) (fun w => by kernel_rfl) trivial ?_
      refine rgd_pure 2 (some 13) rfl rfl (.pointer (some ⟨B, 0, none⟩)) (by kernel_rfl) (by kernel_rfl) (by kernel_rfl) (fun _ _ _ _ h => h) (by kernel_rfl) (fun w => by kernel_rfl) trivial ?_
      refine rgd_two 1 3 (some 12) (some 14) (by kernel_rfl) rfl rfl (by kernel_rfl) u wr.drew (exec_load1 _ _ rfl Tryz.underlying27 rfl ⟨g3, 64, none⟩ u (by kernel_rfl) (Sx.slot HD.out)) rfl rfl (by kernel_rfl) 56 #[.pointer (some ⟨B, 0, none⟩)] (by kernel_rfl) (RDT.out wr.drew (to_drew (Below.refl _ _))) trivial ?_ ?_
      · refine rgd_call 3 (some 14) (by kernel_rfl) rfl rfl (by kernel_rfl) 56 #[.pointer (some ⟨B, 0, none⟩)] (by kernel_rfl) (RDT.out wr.drew (to_drew (Below.refl _ _))) ?_
        rintro e U1 ⟨rfl, r1, g1⟩
        refine ⟨_, rfl, trivial, ?_⟩
        have hU : Sx U1 g3 F u := grown_step GD.out g1 HB.out hl3 HD.out
        have kU : Sx U1 g2 (fun _ => 0) (.slice none 0 0) := grown_step GD.out g1 HB.out l2 KD.out
        have oU := own_keep OD.out g1 (own_above OD.out HB.out)
        have gU := grown_trans GD.out g1
        have bA := below_alloc U1 (.cells #[.int .i64 yr, .int .i64 yn, .int .i64 yt, .string yd, .int .i64 yf, .string ytx] 83)
        have rA := r1.on bA
        have hA : Sx (U1.alloc (.cells #[.int .i64 yr, .int .i64 yn, .int .i64 yt, .string yd, .int .i64 yf, .string ytx] 83)) g3 F u := hU.later bA
        have kA : Sx (U1.alloc (.cells #[.int .i64 yr, .int .i64 yn, .int .i64 yt, .string yd, .int .i64 yf, .string ytx] 83)) g2 (fun _ => 0) (.slice none 0 0) := kU.later bA
        have oA := own_later oU bA
        have gA := grown_on gU (bA.mono gU.size)
        have nA := heap_alloc_new U1 (.cells #[.int .i64 yr, .int .i64 yn, .int .i64 yt, .string yd, .int .i64 yf, .string ytx] 83)
        obtain ⟨v1, w1', hrun, o1, q1, _⟩ := run_append_own (P := Tryz.prog) (w := U1.alloc (.cells #[.int .i64 yr, .int .i64 yn, .int .i64 yt, .string yd, .int .i64 yf, .string ytx] 83)) w.heap.size 27 27 83 i0 _ 6 64 Tryz.underlying27 hi hz0 hz1 hz2 rfl (by decide) u j xs oA ⟨U1.heap.size, 0, none⟩ 1 1 [.int .i64 yr, .int .i64 yn, .int .i64 yt, .string yd, .int .i64 yf, .string ytx] rfl (fun k y hy => by rw [Addr.add_lit, Nat.zero_add, cell_of_row _ U1.heap.size k _ _ _ nA]; simpa using hy) YO.out (by unfold maxLen; have := L4.out; omega) (by have := L4.out; omega) gA.size
        have bW : Below w.heap.size (U1.alloc (.cells #[.int .i64 yr, .int .i64 yn, .int .i64 yt, .string yd, .int .i64 yf, .string ytx] 83)) w1' := (Below.refl _ _).grown q1 gA.size (fun k hk => (oA.lt k hk).1)
        have hW : Sx w1' g3 F u := (q1.block g3 hA.lt (own_not oA hA (by decide))).trans hA
        have kW : Sx w1' g2 (fun _ => 0) (.slice none 0 0) := (q1.block g2 kA.lt (own_not oA kA (by decide))).trans kA
        have rW := rA.under' HB.out bW
        have gW := grown_on gA bW
        obtain ⟨pv, cv, hv1⟩ := own_slice o1
        subst hv1
        have gS := grown_cell w1' g3 64 (.slice pv (j + 1) cv)
        have hS := hW.setSlot (.slice pv (j + 1) cv)
        have kS : Sx _ g2 (fun _ => 0) (.slice none 0 0) := (gS.block g2 kW.lt (by simpa using h23)).trans kW
        have oS := own_keep o1 gS (.inr fun e => own_not o1 hW (by decide) e.symm)
        have rS := rW.under' HB.out (grown_below gS gW.size hl3)
        have gE := grown_onE gW gS hl3
        have KE := FIN (.slice (some ⟨U1.heap.size, 0, none⟩) 1 1) (.slice pv (j + 1) cv) _ hS oS rS gE kS
        refine rgd_run 4 (some 15) (by kernel_rfl) rfl rfl (by kernel_rfl) (.slice (some ⟨U1.heap.size, 0, none⟩) 1 1) (U1.alloc (.cells #[.int .i64 yr, .int .i64 yn, .int .i64 yt, .string yd, .int .i64 yf, .string ytx] 83)) (by kernel_rfl) trivial ?_
        refine rgd_run 5 (some 16) (by kernel_rfl) rfl rfl (by kernel_rfl) (.slice pv (j + 1) cv) w1' (exec_appendV _ _ rfl _ _ (by kernel_rfl) (by kernel_rfl) hrun) trivial ?_
        refine rgd_pure 6 (some 17) rfl rfl (.pointer (some ⟨g3, 64, none⟩)) (by kernel_rfl) (by kernel_rfl) (by kernel_rfl) (fun _ _ _ _ h => h) (by kernel_rfl) (fun w => by kernel_rfl) trivial ?_
        refine rgd_do 7 none (by kernel_rfl) rfl rfl (by kernel_rfl) _ (exec_storeV _ _ _ rfl SZ ⟨g3, 64, none⟩ pv (j + 1) cv u (by kernel_rfl) (by kernel_rfl) hW.slot (frozen_of_row _ g3 64 _ _ hW)) trivial ?_
        exact wpAnyH_done (by kernel_rfl) (Eq.mp (by kernel_rfl) KE) _
      · rintro e U1 ⟨rfl, r1, g1⟩
        refine ⟨_, rfl, trivial, ?_⟩
        have hU : Sx U1 g3 F u := grown_step GD.out g1 HB.out hl3 HD.out
        have kU : Sx U1 g2 (fun _ => 0) (.slice none 0 0) := grown_step GD.out g1 HB.out l2 KD.out
        have oU := own_keep OD.out g1 (own_above OD.out HB.out)
        have gU := grown_trans GD.out g1
        have bA := below_alloc U1 (.cells #[.int .i64 yr, .int .i64 yn, .int .i64 yt, .string yd, .int .i64 yf, .string ytx] 83)
        have rA := r1.on bA
        have hA : Sx (U1.alloc (.cells #[.int .i64 yr, .int .i64 yn, .int .i64 yt, .string yd, .int .i64 yf, .string ytx] 83)) g3 F u := hU.later bA
        have kA : Sx (U1.alloc (.cells #[.int .i64 yr, .int .i64 yn, .int .i64 yt, .string yd, .int .i64 yf, .string ytx] 83)) g2 (fun _ => 0) (.slice none 0 0) := kU.later bA
        have oA := own_later oU bA
        have gA := grown_on gU (bA.mono gU.size)
        have nA := heap_alloc_new U1 (.cells #[.int .i64 yr, .int .i64 yn, .int .i64 yt, .string yd, .int .i64 yf, .string ytx] 83)
        obtain ⟨v1, w1', hrun, o1, q1, _⟩ := run_append_own (P := Tryz.prog) (w := U1.alloc (.cells #[.int .i64 yr, .int .i64 yn, .int .i64 yt, .string yd, .int .i64 yf, .string ytx] 83)) w.heap.size 27 27 83 i0 _ 6 64 Tryz.underlying27 hi hz0 hz1 hz2 rfl (by decide) u j xs oA ⟨U1.heap.size, 0, none⟩ 1 1 [.int .i64 yr, .int .i64 yn, .int .i64 yt, .string yd, .int .i64 yf, .string ytx] rfl (fun k y hy => by rw [Addr.add_lit, Nat.zero_add, cell_of_row _ U1.heap.size k _ _ _ nA]; simpa using hy) YO.out (by unfold maxLen; have := L4.out; omega) (by have := L4.out; omega) gA.size
        have bW : Below w.heap.size (U1.alloc (.cells #[.int .i64 yr, .int .i64 yn, .int .i64 yt, .string yd, .int .i64 yf, .string ytx] 83)) w1' := (Below.refl _ _).grown q1 gA.size (fun k hk => (oA.lt k hk).1)
        have hW : Sx w1' g3 F u := (q1.block g3 hA.lt (own_not oA hA (by decide))).trans hA
        have kW : Sx w1' g2 (fun _ => 0) (.slice none 0 0) := (q1.block g2 kA.lt (own_not oA kA (by decide))).trans kA
        have rW := rA.under' HB.out bW
        have gW := grown_on gA bW
        obtain ⟨pv, cv, hv1⟩ := own_slice o1
        subst hv1
        have gS := grown_cell w1' g3 64 (.slice pv (j + 1) cv)
        have hS := hW.setSlot (.slice pv (j + 1) cv)
        have kS : Sx _ g2 (fun _ => 0) (.slice none 0 0) := (gS.block g2 kW.lt (by simpa using h23)).trans kW
        have oS := own_keep o1 gS (.inr fun e => own_not o1 hW (by decide) e.symm)
        have rS := rW.under' HB.out (grown_below gS gW.size hl3)
        have gE := grown_onE gW gS hl3
        have KE := FIN (.slice (some ⟨U1.heap.size, 0, none⟩) 1 1) (.slice pv (j + 1) cv) _ hS oS rS gE kS
        refine rgd_acts 1 4 (some 12) (some 15) (by kernel_rfl) rfl rfl (by kernel_rfl) u U1 (exec_load1 _ _ rfl Tryz.underlying27 rfl ⟨g3, 64, none⟩ u (by kernel_rfl) (Sx.slot hU)) trivial rfl rfl (by kernel_rfl) (.slice (some ⟨U1.heap.size, 0, none⟩) 1 1) (U1.alloc (.cells #[.int .i64 yr, .int .i64 yn, .int .i64 yt, .string yd, .int .i64 yf, .string ytx] 83)) (by kernel_rfl) trivial ?_ ?_
        · refine rgd_run 4 (some 15) (by kernel_rfl) rfl rfl (by kernel_rfl) (.slice (some ⟨U1.heap.size, 0, none⟩) 1 1) (U1.alloc (.cells #[.int .i64 yr, .int .i64 yn, .int .i64 yt, .string yd, .int .i64 yf, .string ytx] 83)) (by kernel_rfl) trivial ?_
          refine rgd_run 5 (some 16) (by kernel_rfl) rfl rfl (by kernel_rfl) (.slice pv (j + 1) cv) w1' (exec_appendV _ _ rfl _ _ (by kernel_rfl) (by kernel_rfl) hrun) trivial ?_
          refine rgd_pure 6 (some 17) rfl rfl (.pointer (some ⟨g3, 64, none⟩)) (by kernel_rfl) (by kernel_rfl) (by kernel_rfl) (fun _ _ _ _ h => h) (by kernel_rfl) (fun w => by kernel_rfl) trivial ?_
          refine rgd_do 7 none (by kernel_rfl) rfl rfl (by kernel_rfl) _ (exec_storeV _ _ _ rfl SZ ⟨g3, 64, none⟩ pv (j + 1) cv u (by kernel_rfl) (by kernel_rfl) hW.slot (frozen_of_row _ g3 64 _ _ hW)) trivial ?_
          exact wpAnyH_done (by kernel_rfl) (Eq.mp (by kernel_rfl) KE) _
        · refine rgd_run 1 (some 12) (by kernel_rfl) rfl rfl (by kernel_rfl) u _ (exec_load1 _ _ rfl Tryz.underlying27 rfl ⟨g3, 64, none⟩ u (by kernel_rfl) (Sx.slot hA)) trivial ?_
          refine rgd_run 5 (some 16) (by kernel_rfl) rfl rfl (by kernel_rfl) (.slice pv (j + 1) cv) w1' (exec_appendV _ _ rfl _ _ (by kernel_rfl) (by kernel_rfl) hrun) trivial ?_
          refine rgd_pure 6 (some 17) rfl rfl (.pointer (some ⟨g3, 64, none⟩)) (by kernel_rfl) (by kernel_rfl) (by kernel_rfl) (fun _ _ _ _ h => h) (by kernel_rfl) (fun w => by kernel_rfl) trivial ?_
          refine rgd_do 7 none (by kernel_rfl) rfl rfl (by kernel_rfl) _ (exec_storeV _ _ _ rfl SZ ⟨g3, 64, none⟩ pv (j + 1) cv u (by kernel_rfl) (by kernel_rfl) hW.slot (frozen_of_row _ g3 64 _ _ hW)) trivial ?_
          exact wpAnyH_done (by kernel_rfl) (Eq.mp (by kernel_rfl) KE) _
    · obtain rfl : j = L.length := by omega
      have hjk' : ¬ ((L.length : Nat) : Int) < L.length := by omega
      have hTL : TJ = l := by rw [HTJ.out]; simp
      have hXL : xs = wcl L := by rw [HXS.out, List.take_length]
      subst hTL
      subst hXL
      obtain ⟨pu, cu, hu, _, wat, off⟩ := own_wat OW.out
      subst hu
      have WA := Lib.hid wat; have OF := Lib.hid off
      clear wat off
      have ER := Lib.hid (err_live B TJ wr RD.out)
      have R0 := Lib.hid (H0.out.whole)
      have CK : Hid (Calls Tryz.prog 57 #[.agg (scs F (.slice pu L.length cu))] wr (RetBool wr true)) := Lib.hid (by have := docCan_is F pu cu L wr WA.out (HT.out wr GR.out); rw [CC.out] at this; exact this)
      clear HXS HTJ
      go_wp2_with fail
      refine ER.out.mono ?_
      rintro e w11 ⟨rfl, rfl⟩
      go_wp2_with (refine wpList_gloadG (by rfl) _ rfl g3 0 rfl _ R0.out _ Tryz.underlying29 rfl (sizeStl _ _) ?_)
      refine CK.out.mono ?_
      rintro e w12 ⟨rfl, hb12⟩
      have E12 := Lib.hid (err_live B TJ w12 (RD.out.on hb12))
      have R12 := Lib.hid (range_below R0.out hb12)
      have K12 : Hid (Sx w12 g2 (fun _ => 0) (.slice none 0 0)) := Lib.hid (KK.out.later hb12)
      have G12 := Lib.hid (grown_on GR.out (hb12.mono GR.out.size))
      have RD12 := Lib.hid (RD.out.on hb12)
      have OW12 := Lib.hid (own_later OW.out hb12)
      clear hb12
      go_wp2_with fail
      refine E12.out.mono ?_
      rintro e w13 ⟨rfl, rfl⟩
      go_wp2_with (first | refine wpList_gload rfl _ rfl g3 0 rfl _ R12.out _ Tryz.underlying29 rfl (sizeStl _ _) ?_ | refine wpList_gstore rfl _ _ rfl g2 rfl (scs F (.slice pu L.length cu)) rfl _ _ K12.out (sizeSt _ _) (by rw [scs_size, scs_size]) (scs_one F rfl) ?_)
      intro w14 h14 g14
      have H14 := Lib.hid h14
      have G14 := Lib.hid (grown_onE G12.out g14 l2)
      have B14 := grown_below g14 G12.out.size l2
      have R14 := Lib.hid (RD12.out.under' HB.out B14)
      have O14 := own_keep OW12.out g14 (.inr fun e => own_not OW12.out K12.out (by decide) e.symm)
      obtain ⟨p9, c9, e9, _, wat9, _⟩ := own_wat O14
      injection e9 with e9 _ _
      subst e9
      have W14 := Lib.hid wat9
      clear h14 g14 B14 O14 wat9
      go_wp2
      exact bodyPost_ret (v := .agg (scs F (.slice pu L.length cu))) (results_cell_row rfl _ w14 g2 _ _ (0, 0) _ rfl H14.out Tryz.underlying29 rfl (sizeSt _ _)) rfl ⟨pu, cu, rfl, W14.out, OF.out, R14.out, G14.out⟩
end Go.Proofs.YtapmbankpbiglaaGreatDoor
