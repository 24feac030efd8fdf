/- The statement WireTold, proved for every input that its row reads: part 44 of 54. -/
import Derived.Test.YtgcbeeokddaihaaDoorPackWireTold29
import Derived.Test.YtgcbeeokddaihaaDoorPackWireTold32
import Derived.Test.YtgcbeeokddaihaaDoorPackWireTold43
import Derived.Test.YtgcbeeokddaihaaDoorMemWide
import Derived.Test.YtgcbeeokddaihaaDoorPackWireTold22
import Derived.Test.YtgcbeeokddaihaaDoorPackWireTold39
import Derived.Test.YtgcbeeokddaihaaDoorPackWireTold8
/- A state's bytes behind others. -/
namespace Go.Proofs.YtgcbeeokddaihaaDoor
open Go Go.RowKit
set_option linter.unusedVariables false
set_option maxRecDepth 1000000

/-- a state's bytes -/
def stB (F : Nat → Int) (L : List Wr) : List UInt8 := vbytes F ++ (Cod.enc L.length ++ L.flatMap wtB)
theorem wts_take (L : List Wr) (k : Nat) (h : k < L.length) : (L.take (k + 1)).flatMap wtB = (L.take k).flatMap wtB ++ wtB L[k] := by
  rw [List.take_succ_eq_append_getElem h, List.flatMap_append]; simp
set_option maxHeartbeats 8000000 in
theorem docPut_is (p : Option Addr) (c : Nat) (b : List UInt8) (F : Nat → Int) (q : Option Addr) (d : Nat) (L : List Wr) (w : World) (hb : Given w p c b) (hL : WrsAt w q L) (hc : canB F L = true) (hT : Shapes w) (hlen : b.length ≤ 140737488352000) :
    Calls Tryd.prog 31 #[.slice p b.length c, .agg (scs F (.slice q L.length d))] w (RetOwn w 5 (b ++ stB F L)) := by
  have HW := Lib.hid hL; have HT := Lib.hid hT; have HG := Lib.hid hb
  have CP := can_iff.1 hc
  have SM : Hid (∀ y ∈ L, Small1 y) := Lib.hid fun y hy => small_of (CP.fine y hy).1
  have L4 : Hid (L.length ≤ 4096) := Lib.hid CP.len
  have CC : Hid (canB F L = true) := Lib.hid hc
  have VL := Lib.hid (vbytes_len F)
  have EL := Lib.hid (enc_len L.length)
  have WN : Hid ((Lit.int .i64 (L.length : Int)).wf = true) := Lib.hid (wf_ok (by have := L4.out; omega))
  clear hb hL hc hT CP
  obtain ⟨X, hX⟩ : ∃ X, b ++ stB F L = X := ⟨_, rfl⟩
  rw [hX]
  have HX : Hid (b ++ vbytes F ++ Cod.enc L.length ++ L.flatMap wtB = X) := Lib.hid (by rw [← hX]; unfold stB; simp only [List.append_assoc])
  clear hX
  go_enter Tryd.func31, Tryd.ntmps31
  go_wp2_with (refine wpList_gbox rfl _ rfl (scs F (.slice q L.length d)) rfl ?_)
  intro g3 w1 l1 h1 hb1
  have S1 : Hid (Sx w1 g3 F (.slice q L.length d)) := Lib.hid h1
  have B1 := Lib.hid hb1
  clear h1 hb1
  have SW := Lib.hid (S1.out.whole)
  have CN : Hid (Calls Tryd.prog 44 #[.agg (scs F (.slice q L.length d))] w1 (RetBool w1 true)) := Lib.hid (by have := docCan_is F q d L w1 (HW.out.below B1.out) (HT.out.below B1.out); rw [CC.out] at this; exact this)
  go_wp2_with (refine wpList_gload rfl _ rfl g3 0 rfl _ SW.out _ Tryd.underlying27 rfl (sizeStl _ _) ?_)
  refine CN.out.mono ?_
  rintro e w2 ⟨rfl, hb2⟩
  have S2 := Lib.hid (S1.out.later hb2); have B2 := Lib.hid (thenBelow B1.out hb2)
  clear hb2 S1 SW CN
  go_wp2_with fail
  rename_i K2 hK2
  have m0 : Below w2.heap.size w2 w2.drew := (Below.refl _ _).drew
  refine rg_calm (by kernel_rfl) rfl (S := fun U => Below w2.heap.size w2 U) ?_
  refine rgd_pure 0 (some 12) rfl rfl (.slice p b.length c) (by kernel_rfl) (by kernel_rfl) (by kernel_rfl) (fun _ _ _ _ h => h) (by kernel_rfl) (fun w => by kernel_rfl) m0 ?_
  refine rgd_pure 1 (some 13) rfl rfl (.pointer (some ⟨g3, 0, none⟩)) (by kernel_rfl) (by kernel_rfl) (by kernel_rfl) (fun _ _ _ _ h => h) (by kernel_rfl) (fun w => by kernel_rfl) m0 ?_
  refine rgd_pureS 2 (some 14) rfl rfl (.agg (vf F)) (by kernel_rfl) (by kernel_rfl) (by kernel_rfl) (fun _ _ _ _ h => h) (by kernel_rfl) (fun U hU => exec_gload 23 _ rfl g3 0 (by kernel_rfl) _ (S2.out.later hU).vec Tryd.underlying23 rfl (sizeVcl F)) m0 ?_
  refine rgd_pure 4 (some 16) rfl rfl (.pointer (some ⟨g3, 64, none⟩)) (by kernel_rfl) (by kernel_rfl) (by kernel_rfl) (fun _ _ _ _ h => h) (by kernel_rfl) (fun w => by kernel_rfl) m0 ?_
  refine rgd_pureS 5 (some 17) rfl rfl (.slice q L.length d) (by kernel_rfl) (by kernel_rfl) (by kernel_rfl) (fun _ _ _ _ h => h) (by kernel_rfl) (fun U hU => exec_load1 _ _ rfl Tryd.underlying25 rfl ⟨g3, 64, none⟩ _ (by kernel_rfl) (S2.out.later hU).slot) m0 ?_
  refine rgd_pure 6 (some 18) rfl rfl (.int .i64 (L.length : Int)) (by kernel_rfl) (by kernel_rfl) (by kernel_rfl) (fun _ _ _ _ h => h) (by kernel_rfl) (fun w => by kernel_rfl) m0 ?_
  refine rgd_call 3 (some 15) (by kernel_rfl) rfl rfl (by kernel_rfl) 29 (#[.slice p b.length c, .agg (vf F)]) (by kernel_rfl) (vput_is p c b F _ (HG.out.below (thenBelow B2.out m0)) (by omega)) ?_
  rintro e U1 hr1
  obtain ⟨LA, hLA⟩ : ∃ X, b ++ vbytes F = X := ⟨_, rfl⟩
  have nA : LA.length ≤ 140737488353200 := by rw [← hLA]; have := VL.out; simp only [List.length_append]; omega
  rw [hLA] at hr1
  have HLA := Lib.hid hLA
  clear hLA
  obtain ⟨p1, q1, rfl, k1, b1⟩ := hr1.given
  have m1 := thenBelow m0 b1
  refine ⟨_, rfl, m1, ?_⟩
  refine rgd_call 7 (some 19) (by kernel_rfl) rfl rfl (by kernel_rfl) 28 (#[.slice p1 LA.length q1, .int .i64 (L.length : Int)]) (by kernel_rfl) (num_any p1 q1 LA (L.length : Int) _ k1.lies (fun e => (k1.none e).1) k1.le WN.out (by omega)) ?_
  rintro e U2 hr2
  obtain ⟨LB, hLB⟩ : ∃ X, LA ++ Cod.enc (L.length : Int).toNat = X := ⟨_, rfl⟩
  have nB : LB.length ≤ 140737488354000 := by rw [← hLB]; have := EL.out; simp only [List.length_append, Int.toNat_natCast]; omega
  rw [hLB] at hr2
  have HLB := Lib.hid hLB
  clear hLB
  obtain ⟨p2, q2, rfl, k2, b2⟩ := hr2.given
  have m2 := thenBelow m1 b2
  refine ⟨_, rfl, m2, ?_⟩
  refine rgd_pure 8 (some 0) rfl rfl (.slice p2 LB.length q2) (by kernel_rfl) (by kernel_rfl) (by kernel_rfl) (fun _ _ _ _ h => h) (by kernel_rfl) (fun w => by kernel_rfl) m2 ?_
  have KE : K2 { tmps := #[.slice p2 LB.length q2, .agg (scs F (.slice q L.length d)), undef, .pointer (some ⟨g3, 0, none⟩), .slice none 0 0, undef, undef, .agg (scs F (.slice q L.length d)), .bool true, .bool false, undef, undef, .slice p b.length c, .pointer (some ⟨g3, 0, none⟩), .agg (vf F), .slice p1 LA.length q1, .pointer (some ⟨g3, 64, none⟩), .slice q L.length d, .int .i64 (L.length : Int), .slice p2 LB.length q2, undef, undef, undef, undef, undef, undef, undef, undef, undef, undef, undef, undef, undef], defers := [] } U2 := by
    refine hK2 _ _ ?_
    have B4 := Lib.hid (thenBelow B2.out m2)
    obtain ⟨v2, e2, hO2, _⟩ := hr2.after (thenBelow B2.out m1)
    obtain rfl : _ = v2 := by injection e2
    have O2 := Lib.hid hO2
    have k64 := (S2.out.later m2).slot
    have HB : Hid (LB = b ++ vbytes F ++ Cod.enc L.length) := Lib.hid (by rw [← HLB.out, ← HLA.out]; simp only [Int.toNat_natCast])
    clear e2 hO2 hK2 m0 m1 m2 k1 k2 hr1 hr2 b1 b2 S2
    go_wp2
    clear k64
    go_loopw [0, 23] (fun v i wr => ∃ (k : Nat) (LJ : List UInt8), k ≤ L.length ∧ i = .int .i64 k ∧ Hid (LJ = LB ++ (L.take k).flatMap wtB) ∧ LJ.length ≤ 140737488354000 + 2100 * k ∧ wr.ownsRow w.heap.size 5 1 v LJ.length (bys LJ) ∧ Below w.heap.size w wr) (fun _ i _ => L.length - (RowKit.intOf i).toNat)
    case atStart => exact ⟨0, LB, Nat.zero_le _, rfl, Lib.hid (by simp), by omega, O2.out, B4.out⟩
    case round =>
      obtain ⟨k, LJ, hk, rfl, HJ, hj, hown, hb⟩ := hrel
      have BB := Lib.hid hb; have OO := Lib.hid hown
      have hL4 : L.length ≤ 4096 := L4.out
      clear hown hb
      by_cases hkl : k < L.length
      · have hkl' : (k : Int) < L.length := by omega
        have HWr := Lib.hid (HW.out.below BB.out)
        obtain ⟨b9, o9, rfl, hlt, hq⟩ := HWr.out.at hkl
        obtain ⟨y, hy⟩ : ∃ y, L[k] = y := ⟨_, rfl⟩
        rw [hy] at hq
        have YC := Lib.hid hy
        have YS : Small1 y := by rw [← hy]; exact SM.out _ (List.getElem_mem hkl)
        clear hy
        obtain ⟨c0, c1, c2, c3, c4, c5⟩ := wr_cells hq
        clear hq
        have yl := wtB_len YS
        obtain ⟨LW, hLW⟩ : ∃ X, wtB y = X := ⟨_, rfl⟩
        have DW := Lib.hid (fun V : World => docWritten_is y V YS)
        rw [hLW] at DW yl
        have HJ2 : Hid (LJ ++ LW = LB ++ (L.take (k + 1)).flatMap wtB) := Lib.hid (by rw [wts_take L k hkl, HJ.out, YC.out, hLW, List.append_assoc])
        clear hLW YS YC HJ
        obtain ⟨yr, yn, yt, yd, yf, ytx⟩ := y
        simp only at c0 c1 c2 c3 c4 c5
        have ba := below_alloc wr (.cells #[.int .i64 yr, .int .i64 yn, .int .i64 yt, .string yd, .int .i64 yf, .string ytx] 57)
        have na := heap_alloc_new wr (.cells #[.int .i64 yr, .int .i64 yn, .int .i64 yt, .string yd, .int .i64 yf, .string ytx] 57)
        have R4 : Hid ((wr.alloc (.cells #[.int .i64 yr, .int .i64 yn, .int .i64 yt, .string yd, .int .i64 yf, .string ytx] 57)).rangeAt wr.heap.size 0 (Wr.cells ⟨yr, yn, yt, yd, yf, ytx⟩)) := Lib.hid (range_of_block na)
        have B5 := Lib.hid (thenBelow BB.out ba); have O5 := Lib.hid (own_later OO.out ba)
        clear ba na OO
        go_wp2_with (refine wpList_gload rfl _ rfl wr.heap.size 0 rfl _ R4.out _ Tryd.underlying57 rfl (sizeWr ⟨yr, yn, yt, yd, yf, ytx⟩) ?_)
        refine (DW.out _).mono ?_
        intro e w6 hr6
        obtain ⟨p6, q6, rfl, g6, b6⟩ := hr6.given
        have G6 := Lib.hid g6; have B6 := Lib.hid (thenBelow B5.out b6); have O6 := Lib.hid (own_later O5.out b6)
        have hz := B6.out.size
        clear hr6 g6 b6 DW R4 O5 c0 c1 c2 c3 c4 c5
        go_wp2_with (at_builtin; refine wpList_bytesW isU8 _ rfl _ _ rfl w.heap.size LJ.length LJ _ rfl O6.out p6 LW.length q6 LW rfl G6.out.lies rfl (fun e => ⟨by rw [(G6.out.none e).1]; rfl, (G6.out.none e).2⟩) (by have := L4.out; omega) hz ?_)
        intro v7 w7 o7 b7
        have O7 : Hid (w7.ownsRow w.heap.size 5 1 v7 (LJ ++ LW).length (bys (LJ ++ LW))) := Lib.hid (by rw [List.length_append]; exact o7)
        have B7 := Lib.hid (B6.out.trans b7)
        have nJ : Hid ((LJ ++ LW).length ≤ 140737488354000 + 2100 * (k + 1)) := Lib.hid (by rw [List.length_append]; omega)
        clear o7 b7 hz
        go_wp2
        go_roundw
        case rel => exact ⟨k + 1, LJ ++ LW, by omega, by go_num, HJ2, nJ.out, O7.out, B7.out⟩
        case measure => simp [RowKit.intOf]; omega
      · obtain rfl : k = L.length := by omega
        have hkl' : ¬ ((L.length : Nat) : Int) < L.length := by omega
        have HJ2 : Hid (LJ = X) := Lib.hid (by rw [HJ.out, List.take_length, HB.out]; exact HX.out)
        have FO : Hid (RetOwn w 5 X (.returned u0) wr) := Lib.hid (by rw [← HJ2.out]; exact ⟨u0, rfl, OO.out, BB.out⟩)
        clear HJ HJ2 OO hj
        go_wp2
        go_ret
        exact FO.out
  exact wpAnyH_done (by kernel_rfl) (Eq.mp (by kernel_rfl) KE) _
end Go.Proofs.YtgcbeeokddaihaaDoor
/- What wire tells of a message: may it be, and its bytes. -/
namespace Go.Proofs.YtgcbeeokddaihaaDoor
open Go Go.RowKit
set_option linter.unusedVariables false
set_option maxRecDepth 1000000

/-- may a number be a replica's? -/
def repB (n : Int) : Bool := decide (n ≥ 0) && decide (n < 64)
def goM (m : Mg) : Bool := repB m.src && (repB m.dst && (!decide (m.src = m.dst) && (goodB m.ack && (goodB m.base && goodB m.floor))))
noncomputable def haveM (m : Mg) : Bool := decide (m.E.length ≤ 1024) && m.E.all fun x => decide (chk x.e = 0)
def noBaseM (m : Mg) : Bool := veq m.base (fun _ => 0)
def noFullM (m : Mg) : Bool := noState m.seen m.L && veq m.floor (fun _ => 0)
noncomputable def kindM (m : Mg) : Bool :=
  if m.kind = 1 then decide (m.E.length = 0) && (noBaseM m && noFullM m) else if m.kind = 2 then decide (m.E.length > 0) && noFullM m else if m.kind = 3 then canB m.seen m.L && noBaseM m else false
/-- may it be? -/
noncomputable def mayM (m : Mg) : Bool := goM m && (haveM m && kindM m)
/-- events' bytes -/
noncomputable def evsB (E : List EvP) : List UInt8 := Cod.enc E.length ++ E.flatMap fun x => wrB x.e
theorem evs_take (E : List EvP) (k : Nat) (h : k < E.length) : (E.take (k + 1)).flatMap (fun x => wrB x.e) = (E.take k).flatMap (fun x => wrB x.e) ++ wrB E[k].e := by
  rw [List.take_succ_eq_append_getElem h, List.flatMap_append]; simp
theorem evs_len (E : List EvP) : (E.flatMap fun x => wrB x.e).length ≤ 3000 * E.length := by
  induction E with
  | nil => simp
  | cons x E ih => rw [List.flatMap_cons, List.length_append, List.length_cons]; have := wrB_len x.e; omega
theorem evsB_len (E : List EvP) : (evsB E).length ≤ 9 + 3000 * E.length := by
  unfold evsB
  have h1 := enc_len E.length; have h2 := evs_len E
  rw [List.length_append]; omega
/-- a message's bytes, not sealed -/
noncomputable def mgB (m : Mg) : List UInt8 :=
  Cod.enc m.kind.toNat ++ Cod.enc m.src.toNat ++ Cod.enc m.dst.toNat ++ vbytes m.ack ++ (if m.kind = 2 then vbytes m.base ++ evsB m.E else if m.kind = 3 then stB m.seen m.L ++ vbytes m.floor ++ evsB m.E else [])
theorem may_parts {m : Mg} (h : mayM m = true) : (0 ≤ m.src ∧ m.src < 64) ∧ (0 ≤ m.dst ∧ m.dst < 64) ∧ (m.kind = 1 ∨ m.kind = 2 ∨ (m.kind = 3 ∧ canB m.seen m.L = true)) := by
  unfold mayM goM repB at h
  simp only [Bool.and_eq_true, decide_eq_true_eq] at h
  obtain ⟨⟨h1, h2, _⟩, _, h3⟩ := h
  refine ⟨by omega, by omega, ?_⟩
  unfold kindM at h3
  by_cases k1 : m.kind = 1
  · exact .inl k1
  rw [if_neg k1] at h3
  by_cases k2 : m.kind = 2
  · exact .inr (.inl k2)
  rw [if_neg k2] at h3
  by_cases k3 : m.kind = 3
  · rw [if_pos k3] at h3
    simp only [Bool.and_eq_true] at h3
    exact .inr (.inr ⟨k3, h3.1⟩)
  · rw [if_neg k3] at h3; cases h3
end Go.Proofs.YtgcbeeokddaihaaDoor
/- A message in a variable of its own; how wire tells whether it may go, and have its events. -/
namespace Go.Proofs.YtgcbeeokddaihaaDoor
open Go Go.RowKit
set_option linter.unusedVariables false
set_option maxRecDepth 1000000

/-- a message in a block of its own -/
def Mx (w : World) (g : Nat) (m : Mg) : Prop := w.heap[g]? = some (.cells m.cells.toArray 29 (0, 0))
theorem Mx.lt {w : World} {g : Nat} {m : Mg} (h : Mx w g m) : g < w.heap.size := (Array.getElem?_eq_some_iff.1 h).1
theorem Mx.later {w w' : World} {g : Nat} {m : Mg} (h : Mx w g m) (hb : Below w.heap.size w w') : Mx w' g m := (hb.block g h.lt).trans h
theorem Mx.whole {w : World} {g : Nat} {m : Mg} (h : Mx w g m) : w.rangeAt g 0 m.cells := by simpa using range_of_block h
/-- its cells, one by one -/
structure M0 (w : World) (g : Nat) (m : Mg) : Prop where
  kind : w.cell? ⟨g, 0, none⟩ = some (.int .i64 m.kind)
  src : w.cell? ⟨g, 1, none⟩ = some (.int .i64 m.src)
  dst : w.cell? ⟨g, 2, none⟩ = some (.int .i64 m.dst)
  ack : w.rangeAt g 3 (vf m.ack).toList
  base : w.rangeAt g 67 (vf m.base).toList
  evs : w.cell? ⟨g, 131, none⟩ = some (.slice m.ep m.E.length m.ec)
  st : w.rangeAt g 132 m.st.toList
  floor : w.rangeAt g 197 (vf m.floor).toList
theorem Mx.parts {w : World} {g : Nat} {m : Mg} (h : Mx w g m) : M0 w g m := by
  have k := mat_of h.whole
  obtain ⟨a, b, c, d, e, f, i, j⟩ := k
  simp only [Nat.zero_add] at a b c d e f i j
  exact ⟨a, b, c, d, e, f, i, j⟩

theorem replica_is (n : Int) (w : World) : Calls Tryd.prog 41 #[.int .i64 n] w (RetBool w (repB n)) := by
  unfold repB
  by_cases h0 : n ≥ 0
  · by_cases h1 : n < 64
    · have e : (decide (n ≥ 0) && decide (n < 64)) = true := by simp [h0, h1]
      rw [e]
      go_enter Tryd.func41, Tryd.ntmps41
      go_wp2
      go_ret
      exact ⟨rfl, Below.refl _ _⟩
    · have e : (decide (n ≥ 0) && decide (n < 64)) = false := by simp [h1]
      rw [e]
      go_enter Tryd.func41, Tryd.ntmps41
      go_wp2
      go_ret
      exact ⟨rfl, Below.refl _ _⟩
  · have e : (decide (n ≥ 0) && decide (n < 64)) = false := by simp [h0]
    rw [e]
    go_enter Tryd.func41, Tryd.ntmps41
    go_wp2
    go_ret
    exact ⟨rfl, Below.refl _ _⟩

set_option maxHeartbeats 8000000 in
theorem wireGo_is (m : Mg) (w : World) : Calls Tryd.prog 24 #[.agg m.cells.toArray] w (RetBool w (goM m)) := by
  obtain ⟨R1, h1⟩ : ∃ X, repB m.src = X := ⟨_, rfl⟩
  obtain ⟨R2, h2⟩ : ∃ X, repB m.dst = X := ⟨_, rfl⟩
  obtain ⟨G1, h3⟩ : ∃ X, goodB m.ack = X := ⟨_, rfl⟩
  obtain ⟨G2, h4⟩ : ∃ X, goodB m.base = X := ⟨_, rfl⟩
  obtain ⟨G3, h5⟩ : ∃ X, goodB m.floor = X := ⟨_, rfl⟩
  have P1 : Hid (∀ V : World, Calls Tryd.prog 41 #[.int .i64 m.src] V (RetBool V R1)) := Lib.hid fun V => by rw [← h1]; exact replica_is _ V
  have P2 : Hid (∀ V : World, Calls Tryd.prog 41 #[.int .i64 m.dst] V (RetBool V R2)) := Lib.hid fun V => by rw [← h2]; exact replica_is _ V
  have Q1 : Hid (∀ V : World, Calls Tryd.prog 42 #[.agg (vf m.ack)] V (RetBool V G1)) := Lib.hid fun V => by rw [← h3]; exact good_is _ V
  have Q2 : Hid (∀ V : World, Calls Tryd.prog 42 #[.agg (vf m.base)] V (RetBool V G2)) := Lib.hid fun V => by rw [← h4]; exact good_is _ V
  have Q3 : Hid (∀ V : World, Calls Tryd.prog 42 #[.agg (vf m.floor)] V (RetBool V G3)) := Lib.hid fun V => by rw [← h5]; exact good_is _ V
  have HR : Hid (goM m = (R1 && (R2 && (!decide (m.src = m.dst) && (G1 && (G2 && G3)))))) := Lib.hid (by unfold goM; rw [h1, h2, h3, h4, h5])
  clear h1 h2 h3 h4 h5
  go_enter Tryd.func24, Tryd.ntmps24
  go_wp2_with (refine wpList_gbox rfl _ rfl m.cells.toArray rfl ?_)
  intro g w1 l1 h1 hb1
  have X1 : Hid (Mx w1 g m) := Lib.hid h1
  have B1 := Lib.hid hb1
  clear h1 hb1
  have k1 := X1.out.parts.src
  go_wp2_with fail
  refine (P1.out w1).mono ?_
  rintro e w2 ⟨rfl, hb2⟩
  have X2 := Lib.hid (X1.out.later hb2); have B2 := Lib.hid (thenBelow B1.out hb2)
  clear hb2 P1 X1 B1 k1
  cases R1 with
  | false =>
    go_wp2
    go_ret
    exact ⟨by rw [HR.out]; rfl, B2.out⟩
  | true =>
  have k2 := X2.out.parts.dst
  go_wp2_with fail
  refine (P2.out w2).mono ?_
  rintro e w3 ⟨rfl, hb3⟩
  have X3 := Lib.hid (X2.out.later hb3); have B3 := Lib.hid (thenBelow B2.out hb3)
  clear hb3 P2 X2 B2 k2
  cases R2 with
  | false =>
    go_wp2
    go_ret
    exact ⟨by rw [HR.out]; rfl, B3.out⟩
  | true =>
  have k1 := X3.out.parts.src
  have k2 := X3.out.parts.dst
  have A3 := Lib.hid X3.out.parts.ack
  by_cases hsd : m.src = m.dst
  · have hne : (m.src != m.dst) = false := by simp [hsd]
    have HF : Hid (goM m = false) := Lib.hid (by rw [HR.out, decide_eq_true hsd]; rfl)
    clear hsd
    go_wp2
    go_ret
    exact ⟨by rw [HF.out]; rfl, B3.out⟩
  have hne : (m.src != m.dst) = true := by simp [hsd]
  have HR2 : Hid (goM m = (G1 && (G2 && G3))) := Lib.hid (by rw [HR.out, decide_eq_false hsd]; rfl)
  clear HR hsd
  go_wp2_with (refine wpList_gloadG (by rfl) _ rfl g 3 rfl _ A3.out _ Tryd.underlying23 rfl (sizeVcl m.ack) ?_)
  refine (Q1.out w3).mono ?_
  rintro e w4 ⟨rfl, hb4⟩
  have X4 := Lib.hid (X3.out.later hb4); have B4 := Lib.hid (thenBelow B3.out hb4)
  clear hb4 Q1 X3 B3 k1 k2 hne A3
  cases G1 with
  | false =>
    go_wp2
    go_ret
    exact ⟨by rw [HR2.out]; rfl, B4.out⟩
  | true =>
  have A4 := Lib.hid X4.out.parts.base
  go_wp2_with (refine wpList_gloadG (by rfl) _ rfl g 67 rfl _ A4.out _ Tryd.underlying23 rfl (sizeVcl m.base) ?_)
  refine (Q2.out w4).mono ?_
  rintro e w5 ⟨rfl, hb5⟩
  have X5 := Lib.hid (X4.out.later hb5); have B5 := Lib.hid (thenBelow B4.out hb5)
  clear hb5 Q2 X4 B4 A4
  cases G2 with
  | false =>
    go_wp2
    go_ret
    exact ⟨by rw [HR2.out]; rfl, B5.out⟩
  | true =>
  have A5 := Lib.hid X5.out.parts.floor
  go_wp2_with (refine wpList_gloadG (by rfl) _ rfl g 197 rfl _ A5.out _ Tryd.underlying23 rfl (sizeVcl m.floor) ?_)
  refine (Q3.out w5).mono ?_
  rintro e w6 ⟨rfl, hb6⟩
  have B6 := Lib.hid (thenBelow B5.out hb6)
  clear hb6 Q3 X5 B5 A5
  go_wp2
  go_ret
  exact ⟨by rw [HR2.out]; cases G3 <;> rfl, B6.out⟩

set_option maxHeartbeats 8000000 in
theorem mayHave_is (m : Mg) (w : World) (hE : EvsAt w m.ep m.E) (hT : Shapes w) : Calls Tryd.prog 25 #[.agg m.cells.toArray] w (RetBool w (haveM m)) := by
  have HE := Lib.hid hE; have HT := Lib.hid hT
  clear hE hT
  have HY : Hid (m.E.length ≤ 1024 → (∀ x ∈ m.E, chk x.e = 0) → haveM m = true) := Lib.hid fun h1 h2 => by unfold haveM; rw [decide_eq_true h1, Bool.true_and, List.all_eq_true]; exact fun x hx => decide_eq_true (h2 x hx)
  have HB : Hid (1024 < m.E.length → haveM m = false) := Lib.hid fun h1 => by unfold haveM; rw [decide_eq_false (by omega)]; rfl
  have HN : Hid ((∃ x ∈ m.E, chk x.e ≠ 0) → haveM m = false) := Lib.hid fun ⟨x, h1, h2⟩ => by
    unfold haveM
    have : (m.E.all fun x => decide (chk x.e = 0)) = false := by
      cases q : m.E.all fun x => decide (chk x.e = 0) with
      | false => rfl
      | true => exact absurd (of_decide_eq_true (List.all_eq_true.1 q x h1)) h2
    rw [this, Bool.and_false]
  obtain ⟨HM, hHM⟩ : ∃ X, haveM m = X := ⟨_, rfl⟩
  rw [hHM] at HY HB HN ⊢
  clear hHM
  go_enter Tryd.func25, Tryd.ntmps25
  go_wp2_with (refine wpList_gbox rfl _ rfl m.cells.toArray rfl ?_)
  intro g w1 l1 h1 hb1
  have X1 : Hid (Mx w1 g m) := Lib.hid h1
  have B1 := Lib.hid hb1
  clear h1 hb1
  have k1 := X1.out.parts.evs
  obtain ⟨mk, ms, md, ma, mb, ep, ec, E, msn, msp, msc, mL, mf⟩ := m
  simp only at HE HY HB HN k1
  by_cases hbig : 1024 < E.length
  · have hbig' : (E.length : Int) > 1024 := by omega
    have hf : HM = false := HB.out hbig
    subst hf
    clear hbig
    go_wp2
    go_ret
    exact ⟨rfl, B1.out⟩
  have hbig' : ¬ (E.length : Int) > 1024 := by omega
  go_wp2
  clear k1
  go_loopw [12] (fun i wr => ∃ k : Nat, k ≤ E.length ∧ i = .int .i64 k ∧ (∀ i (h : i < E.length), i < k → chk E[i].e = 0) ∧ Below w.heap.size w wr) (fun i _ => E.length - (RowKit.intOf i).toNat)
  case atStart => exact ⟨0, Nat.zero_le _, rfl, fun i _ h => by omega, B1.out⟩
  case round =>
    obtain ⟨k, hk, rfl, hall, hb⟩ := hrel
    have BB := Lib.hid hb; have HA := Lib.hid hall
    clear hall hb
    by_cases hkl : k < E.length
    · have hkl' : (k : Int) < E.length := by omega
      have HEr := Lib.hid (HE.out.below BB.out)
      obtain ⟨b, o, rfl, hlt, hq⟩ := HEr.out.at hkl
      have OK := Lib.hid (HEr.out.ok _ (List.getElem_mem hkl))
      obtain ⟨x, hx⟩ : ∃ x, E[k] = x := ⟨_, rfl⟩
      rw [hx] at hq OK
      have XC := Lib.hid hx
      have XM : Hid (x ∈ E) := Lib.hid (by rw [← hx]; exact List.getElem_mem hkl)
      clear hx
      obtain ⟨c0, c1, c2, c3, c4, c5, c6, c7⟩ := ev_cells hq
      clear hq
      obtain ⟨C, hC⟩ : ∃ C, chk x.e = C := ⟨_, rfl⟩
      have CK : Hid (∀ V : World, Below wr.heap.size wr V → Calls Tryd.prog 43 #[.agg x.cells.toArray] V (Check1 V C)) := Lib.hid fun V hV => by rw [← hC]; exact check_is x V (OK.out.below hV) (HT.out.below (thenBelow BB.out hV))
      have HC := Lib.hid hC
      clear hC OK
      obtain ⟨⟨r, n, t, kd, dd, fl, tx, gg⟩, gp, gc⟩ := x
      simp only at c0 c1 c2 c3 c4 c5 c6 c7
      have ba := below_alloc wr (.cells #[.int .i64 r, .int .i64 n, .int .i64 t, .int .i64 kd, .string dd, .int .i64 fl, .string tx, .slice gp gg.length gc] 61)
      have na := heap_alloc_new wr (.cells #[.int .i64 r, .int .i64 n, .int .i64 t, .int .i64 kd, .string dd, .int .i64 fl, .string tx, .slice gp gg.length gc] 61)
      have R4 : Hid ((wr.alloc (.cells #[.int .i64 r, .int .i64 n, .int .i64 t, .int .i64 kd, .string dd, .int .i64 fl, .string tx, .slice gp gg.length gc] 61)).rangeAt wr.heap.size 0 (EvP.cells ⟨⟨r, n, t, kd, dd, fl, tx, gg⟩, gp, gc⟩)) := Lib.hid (range_of_block na)
      have BA := Lib.hid ba
      have B5 := Lib.hid (thenBelow BB.out ba)
      clear ba na
      go_wp2_with (refine wpList_gload rfl _ rfl wr.heap.size 0 rfl _ R4.out _ Tryd.underlying61 rfl (sizeEv _) ?_)
      refine (CK.out _ BA.out).mono ?_
      rintro e w6 ⟨rfl, hb6⟩
      have B6 := Lib.hid (thenBelow B5.out hb6)
      clear hb6 c0 c1 c2 c3 c4 c5 c6 c7 CK R4 BA
      by_cases h0 : C = 0
      · subst h0
        have NA : Hid (∀ i (h : i < E.length), i < k + 1 → chk E[i].e = 0) := Lib.hid fun i h hi => by
          rcases Nat.lt_or_ge i k with h3 | h3
          · exact HA.out i h h3
          · obtain rfl : i = k := by omega
            rw [XC.out]; exact HC.out
        go_wp2
        go_roundw
        case rel => exact ⟨k + 1, by omega, by go_num, NA.out, B6.out⟩
        case measure => simp [RowKit.intOf]; omega
      · have hn : (C != 0) = true := by simpa using h0
        have hf : HM = false := HN.out ⟨_, XM.out, by rw [HC.out]; exact h0⟩
        subst hf
        clear h0
        go_wp2
        go_ret
        exact ⟨rfl, B6.out⟩
    · obtain rfl : k = E.length := by omega
      have hkl' : ¬ ((E.length : Nat) : Int) < E.length := by omega
      have ht : HM = true := HY.out (by omega) fun x hx => by
        obtain ⟨i, hi, rfl⟩ := List.getElem_of_mem hx
        exact HA.out i hi hi
      subst ht
      go_wp2
      go_ret
      exact ⟨rfl, BB.out⟩
end Go.Proofs.YtgcbeeokddaihaaDoor
