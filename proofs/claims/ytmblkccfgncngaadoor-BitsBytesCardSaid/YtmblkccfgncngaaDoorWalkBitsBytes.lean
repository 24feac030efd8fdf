/- The walk of BitsBytes. -/
import Derived.Test.YtmblkccfgncngaaDoorBitsAny
import Derived.Test.YtmblkccfgncngaaDoorCoderRef3
namespace Go.Proofs.YtmblkccfgncngaaDoor
open Go Go.RowKit
set_option linter.unusedVariables false

theorem int_range5 {n : Int} (h : (Lit.int .i64 n).wf = true) : -9223372036854775808 ≤ n ∧ n ≤ 9223372036854775807 := by
  simp [Lit.wf, IntKind.min, IntKind.max, IntKind.bits, IntKind.signed] at h; omega
theorem RdA.other {w w' : World} {B A : Nat} {s : Cod.S} (h : RdA w B s) (hg : w.grownBy w' (some A)) (hA : B < A) : RdA w' B s := by
  have hlt := h.lt
  have hB : w'.heap[B]? = w.heap[B]? := hg.block B hlt (fun e => by have e2 : B = A := Option.some.inj e; omega)
  rcases h with ⟨h1, b, o, c, h2, h3, h4, h5⟩ | ⟨h1, h2⟩
  · exact .inl ⟨h1, b, o, c, hB.trans h2, fun i hi => hg.cell (h3 i hi) (fun e => by have e2 : b = A := Option.some.inj e; omega), h4, h5⟩
  · exact .inr ⟨h1, hB.trans h2⟩
set_option maxHeartbeats 1000000 in
/-- bytes.Clone: of the call's own -/
theorem cloneOwn_any (p : Option Addr) (c : Nat) (l : List UInt8) (w : World) (h : Lies w p l) (hp : p = none → l = []) (hbig : l.length ≤ 140737488355328) :
    Calls Tryd.prog 30 #[.slice p l.length c] w (RetOwn w 5 l) := by
  have q : ∀ (w : World) (a : Option Addr) (n c n' c' : Nat), (binOp .eql 38 (.slice a n c) (.slice none n' c')).run Tryd.prog w = .ok (.bool a.isNone) w := fun w a n c n' c' => Lib.run_eql_slice_nil w _ _ a n c n' c' Tryd.underlying38
  cases p with
  | none =>
    obtain rfl := hp rfl
    go_enter Tryd.func30, Tryd.ntmps30
    go_wp2
    go_ret
    exact ⟨_, rfl, World.ownsRow_nil _ _ _ _, Below.refl _ _⟩
  | some a =>
    obtain ⟨i0, hi, hz0, hz1, hz2⟩ := info_parts infoU8
    have H : Hid (∀ j u, (bys l)[j]? = some u → w.cell? (a.add j) = some u) := by
      by_cases h0 : l = []
      · subst h0; intro j u hu; simp [bys] at hu
      · obtain ⟨b, o, e, hc⟩ := h h0
        obtain rfl := Option.some.inj e
        exact Lies.news hc
    clear h hp
    go_enter Tryd.func30, Tryd.ntmps30
    go_wp2_with (at_builtin; refine wpList_append_own _ rfl _ _ 38 rfl w.heap.size 5 i0 (.int .u8 0) 1 1 Tryd.underlying38 hi hz0 hz1 hz2 rfl (by decide) _ _ _ rfl (World.ownsRow_made w #[] 0 (Nat.le_refl _) (Nat.zero_le _) rfl) a l.length c (bys l) rfl ?qc1 ?qc2 ?qc3 ?qc4 ?qc5 ?qc6 ?_)
    case qc1 => simp [bys]
    case qc2 => exact fun j u hj => cell_alloc _ (H.out j u hj)
    case qc3 => exact bys_one l
    case qc4 => unfold maxLen; omega
    case qc5 => omega
    case qc6 => simp
    intro v' w1 hown hgrow hnil
    go_wp2
    go_ret
    exact RetOwn.of_own (by simpa using hown) rfl (((Below.refl _ w).alloc (Nat.le_refl _) _).grown hgrow (by simp) (by intro k hk; simp [Value.ownBlock] at hk; omega))
theorem rrd_new {w : World} {lo : Nat} {v : Value} {l : List UInt8} (h : w.ownsRow lo 5 1 v l.length (bys l)) (h0 : lo ≤ w.heap.size) : RRd (w.alloc (rObj v 0)) w.heap.size lo (l, 0) := by
  have hnew : (w.alloc (rObj v 0)).heap[w.heap.size]? = some (rObj v 0) := heap_alloc_new w _
  have h' := h
  rcases h.2 with ⟨rfl, hn⟩ | ⟨g, cap, cur, rfl, hg, hcur, hnc, _⟩
  · have : l = [] := List.eq_nil_of_length_eq_zero hn
    subst this
    exact ⟨none, 0, hnew, Nat.le_refl _, fun _ => rfl, .inl ⟨rfl, rfl⟩⟩
  · refine ⟨some ⟨g, 0, none⟩, cap, hnew, hnc, fun e => absurd rfl e, .inr ⟨g, 0, rfl, fun i hi => ?_, hg, (Array.getElem?_eq_some_iff.1 hcur).1⟩⟩
    have := (own_cell h' i hi).1
    rw [Nat.zero_add]
    exact cell_alloc _ (by simpa using this)
set_option maxHeartbeats 1000000 in
theorem refBytesSet_is (a G n : Nat) (f : Nat → Bool) (w : World) (h : RSt w a G n f) : Calls Tryd.prog 33 #[.pointer (some ⟨a, 0, none⟩)] w (RetOwn w 5 (setBytes n f)) := by
  have hle := h.le
  have c0 := h.c0
  have NM := Lib.hid (refNum_any none 0 [] n w ⟨Lies.nil _ _, Nat.le_refl _, fun _ => ⟨rfl, rfl⟩⟩ (by simp [Lit.wf, IntKind.min, IntKind.max, IntKind.bits, IntKind.signed]; omega) (by simp))
  have H := Lib.hid h
  have hcl := Bit.cnt_le f n
  clear h
  go_enter Tryd.func33, Tryd.ntmps33
  go_wp2_with fail
  refine NM.out.mono ?_
  intro e w1 hr1
  obtain ⟨p, c, rfl, hg1, hb1⟩ := hr1.given
  have G1 := Lib.hid hg1; have B1 := Lib.hid hb1
  have L := Lib.hid (refList_is a G n f w1 (H.out.below hb1))
  clear hr1 hg1 hb1 NM
  go_wp2_with fail
  refine L.out.mono ?_
  rintro e w2 ⟨v2, rfl, ho2, hb2⟩
  obtain ⟨_, q, d, rfl, hd, hl2, _⟩ := own_liesI ho2
  have R := Lib.hid (refRising_any p q c d ([] ++ Cod.enc (n : Int).toNat) (castsN (Bit.nums f n)) w2 (G1.out.below hb2) hl2 (nums_in f n hle) (by
    have := enc_len (n : Int).toNat
    rw [castsN_len, Bit.nums_len]
    simp only [List.nil_append]
    omega))
  have B2 := Lib.hid (thenBelow B1.out hb2)
  clear ho2 hb2 hl2 L
  go_wp2_with fail
  refine R.out.mono ?_
  intro e w3 hr3
  have R3 := Lib.hid (hr3.after B2.out)
  obtain ⟨v3, rfl, ho3, hb3⟩ := hr3
  clear ho3 hb3
  go_wp2
  go_ret
  have := R3.out
  simp only [List.nil_append, Int.toNat_natCast] at this
  exact this

set_option maxHeartbeats 8000000 in
set_option maxRecDepth 100000 in
theorem bitsBytes_walk (x : Int) (p : Option Addr) (c : Nat) (dl : List (Int × Int)) (q : Option Addr) (d : Nat) (l : List UInt8) (W : World) (hx : (Lit.int .i64 x).wf = true) (h : CameD W p c dl) (hq : Came W q d l) (hT : DeB W) :
    Calls Tryd.prog 6 #[.int .i64 x, .slice p dl.length c, .slice q l.length d] W (Yes W) := by
  obtain ⟨x1, x2⟩ := int_range5 hx
  obtain ⟨n, hn⟩ : ∃ n : Nat, (n : Int) = min (max x 0) 2000 := ⟨(min (max x 0) 2000).toNat, by omega⟩
  have hre := h.reach
  have M := Lib.hid (made_is x n p c dl W x1 x2 hn h.lies h.le (by omega))
  have HT := Lib.hid hT
  have hn6 : n ≤ 2000 := by omega
  have GQ : Given W q d l := ⟨hq.lies, hq.le, hq.none⟩
  have hl47 : l.length ≤ 140737488355328 := by have h1 := hq.reach; have h2 := hq.le; omega
  have GG := Lib.hid GQ
  clear hx h hT hn x1 x2 hq GQ
  go_enter Tryd.func6, Tryd.ntmps6
  go_wp2_with fail
  refine M.out.mono ?_
  rintro e w1 ⟨a, G, a2, G2, f, rfl, hG, hG2, hst, hrs, hb⟩
  have B1 := Lib.hid hb; have S1 := Lib.hid hst; have R1 := Lib.hid hrs
  have RD := Lib.hid (read_all q d l w1 (GG.out.below hb) hl47)
  clear hst hb hrs M hG hG2
  go_wp2_with fail
  refine RD.out.mono ?_
  rintro e w2 ⟨B, rfl, hB, hrd, hb2⟩
  have B2 := Lib.hid (thenBelow B1.out hb2); have S2 := Lib.hid (S1.out.below hb2); have R2 := Lib.hid (R1.out.below hb2); have D2 := Lib.hid hrd
  have hBW : W.heap.size ≤ B := Nat.le_trans B1.out.size hB
  have hB2 : B < w2.heap.size := hrd.lt
  have CL := Lib.hid (cloneOwn_any q d l w2 (GG.out.below B2.out).lies (fun e => ((GG.out.none e).1)) hl47)
  clear hrd hb2 RD S1 R1 B1 hB
  go_wp2_with fail
  refine CL.out.mono ?_
  rintro e w3 ⟨v3, rfl, ho3, hb3⟩
  have B3 := Lib.hid (thenBelow B2.out hb3); have S3 := Lib.hid (S2.out.below hb3); have R3 := Lib.hid (R2.out.below hb3); have D3 := Lib.hid (D2.out.below hb3)
  have T3 := Lib.hid (rrd_new ho3 hb3.size)
  have hz3 := hb3.size
  obtain ⟨hkk, pv, cv, rfl, hcv, _, _, _⟩ := own_lies ho3
  clear hkk ho3 hb3 CL S2 R2 D2
  obtain ⟨lo, hlo⟩ : ∃ lo, lo = w2.heap.size := ⟨_, rfl⟩
  rw [← hlo] at T3 hz3 hB2
  obtain ⟨A, hA⟩ : ∃ A, A = w3.heap.size := ⟨_, rfl⟩
  have hz2 := B2.out.size
  rw [← hlo] at hz2
  have T4 : Hid (RRd (w3.alloc (.cells #[.slice pv l.length cv, .int .i64 0] 45)) A lo (l, 0)) := by rw [hA]; exact T3.out
  have al : Below w3.heap.size w3 (w3.alloc (.cells #[.slice pv l.length cv, .int .i64 0] 45)) := (Below.refl _ _).alloc (Nat.le_refl _) _
  have B4 := Lib.hid (thenBelow B3.out al); have S4 := Lib.hid (S3.out.below al); have R4 := Lib.hid (R3.out.below al); have D4 := Lib.hid (D3.out.below al)
  have hBlo : B < lo := hB2
  have hloA : lo ≤ A := by rw [hA]; exact hz3
  have HA := Lib.hid hA
  have HZ2 := Lib.hid hz2; have HBL := Lib.hid hBlo; have HLA := Lib.hid hloA
  clear T3 al S3 R3 D3 hlo B2 hB2 hz3 hA hz2 hBlo hloA
  go_wp2
  generalize (w3.alloc (.cells #[.slice pv l.length cv, .int .i64 0] 45)) = wq at T4 B4 S4 R4 D4 ⊢
  rw [← HA.out]
  have hBlo := HBL.out; have hloA := HLA.out; have hz2 := HZ2.out
  have b0 : Below W.heap.size W wq.drew := B4.out.drew
  have S0 : St wq.drew a G n f := S4.out.below (Below.refl _ _).drew
  have X0 : RSt wq.drew a2 G2 n f := R4.out.below (Below.refl _ _).drew
  have D0 : RdA wq.drew B (l, 0) := D4.out.below (Below.refl _ _).drew
  have T0 : RRd wq.drew A lo (l, 0) := T4.out.below (Below.refl _ _).drew
  refine rg_start (n := 38) (S := fun _ => True) (by kernel_rfl) rfl trivial ?_
  generalize wq.drew = w0 at b0 S0 X0 D0 T0 ⊢
  clear B4 S4 R4 D4 T4
  refine rgd_pure 0 (some 25) rfl rfl (.bool true) (by kernel_rfl) (by kernel_rfl) (by kernel_rfl) (fun _ _ _ _ h => h) (by kernel_rfl) (fun _ => by kernel_rfl) trivial ?_
  refine rgd_pure 1 (some 26) rfl rfl (.bool true) (by kernel_rfl) (by kernel_rfl) (by kernel_rfl) (fun _ _ _ _ h => h) (by kernel_rfl) (fun _ => by kernel_rfl) trivial ?_
  refine rgd_pure 2 (some 27) rfl rfl (.pointer (some ⟨a, 0, none⟩)) (by kernel_rfl) (by kernel_rfl) (by kernel_rfl) (fun _ _ _ _ h => h) (by kernel_rfl) (fun _ => by kernel_rfl) trivial ?_
  refine rgd_pure 4 (some 29) rfl rfl (.pointer (some ⟨a2, 0, none⟩)) (by kernel_rfl) (by kernel_rfl) (by kernel_rfl) (fun _ _ _ _ h => h) (by kernel_rfl) (fun _ => by kernel_rfl) trivial ?_
  refine rg_call 3 (by kernel_rfl) rfl (by kernel_rfl) 32 #[.pointer (some ⟨a, 0, none⟩)] (by kernel_rfl) (bytes_is a G n f w0 S0 (HT.out.below b0)) ?_
  intro e w5 hr5
  obtain ⟨p5, c5, rfl, hg5, hb5⟩ := hr5.given
  have b5 := thenBelow b0 hb5
  have X5 := X0.below hb5; have D5 := D0.below hb5; have T5 := T0.below hb5
  refine ⟨_, rfl, trivial, ?_⟩
  refine rg_call 5 (by kernel_rfl) rfl (by kernel_rfl) 33 #[.pointer (some ⟨a2, 0, none⟩)] (by kernel_rfl) (refBytesSet_is a2 G2 n f w5 X5) ?_
  intro e w6 hr6
  obtain ⟨p6, c6, rfl, hg6, hb6⟩ := hr6.given
  have b6 := thenBelow b5 hb6
  have D6 := D5.below hb6; have T6 := T5.below hb6
  refine ⟨_, rfl, trivial, ?_⟩
  refine rg_call 6 (by kernel_rfl) rfl (by kernel_rfl) 31 #[.slice p5 (setBytes n f).length c5, .slice p6 (setBytes n f).length c6] (by kernel_rfl) (equal_any p5 p6 _ _ c5 c6 (setBytes n f) (setBytes n f) w6 (hg5.lies.below hb6) hg6.lies rfl rfl) ?_
  rintro e w7 ⟨he7, hw7⟩
  subst hw7
  have he8 : e = .returned (.bool true) := by rw [he7]; simp
  refine ⟨.bool true, he8, trivial, ?_⟩
  refine rgd_pure 7 (some 32) rfl rfl (.bool true) (by kernel_rfl) (by kernel_rfl) (by kernel_rfl) (fun _ _ _ _ h => h) (by kernel_rfl) (fun _ => by kernel_rfl) trivial ?_
  refine rgd_pure 8 (some 33) rfl rfl (.bool true) (by kernel_rfl) (by kernel_rfl) (by kernel_rfl) (fun _ _ _ _ h => h) (by kernel_rfl) (fun _ => by kernel_rfl) trivial ?_
  refine rgd_pure 9 (some 34) rfl rfl (.pointer (some ⟨B, 0, none⟩)) (by kernel_rfl) (by kernel_rfl) (by kernel_rfl) (fun _ _ _ _ h => h) (by kernel_rfl) (fun _ => by kernel_rfl) trivial ?_
  refine rgd_pure 11 (some 36) rfl rfl (.pointer (some ⟨A, 0, none⟩)) (by kernel_rfl) (by kernel_rfl) (by kernel_rfl) (fun _ _ _ _ h => h) (by kernel_rfl) (fun _ => by kernel_rfl) trivial ?_
  refine rg_call 10 (by kernel_rfl) rfl (by kernel_rfl) 34 #[.pointer (some ⟨B, 0, none⟩)] (by kernel_rfl) (readSet_all B (l, 0) w6 D6 hl47) ?_
  rintro e w8 ⟨t, H, rfl, ht, hH, hst8, hrd8, hg8⟩
  have b8 : Below W.heap.size W w8 := b6.grown hg8 b6.size (fun k hk => by have e2 : k = B := (Option.some.inj hk).symm; omega)
  have T8 := T6.other hg8 hBlo hloA
  refine ⟨_, rfl, trivial, ?_⟩
  refine rg_call 12 (by kernel_rfl) rfl (by kernel_rfl) 35 #[.pointer (some ⟨A, 0, none⟩)] (by kernel_rfl) (refRead_all A lo (l, 0) w8 T8 hl47) ?_
  rintro e w9 ⟨t2, H2, rfl, ht2, hH2, hst9, hrd9, hg9⟩
  have b9 : Below W.heap.size W w9 := b8.grown hg9 b8.size (fun k hk => by have e2 : k = A := (Option.some.inj hk).symm; omega)
  have hA6 := T6.lt
  have S9 := hst8.kept hg9 (fun e => by have e2 : t = A := Option.some.inj e; omega) (fun e => by have e2 : H = A := Option.some.inj e; omega)
  have D9 := hrd8.other hg9 (Nat.lt_of_lt_of_le hBlo hloA)
  refine ⟨_, rfl, trivial, ?_⟩
  refine rg_call 13 (by kernel_rfl) rfl (by kernel_rfl) 11 #[.pointer (some ⟨t, 0, none⟩), .pointer (some ⟨t2, 0, none⟩)] (by kernel_rfl) (same_is t H t2 H2 _ _ w9 S9 hst9 (HT.out.below b9)) ?_
  rintro e w10 ⟨rfl, hb10⟩
  have b10 := thenBelow b9 hb10
  have D10 := D9.below hb10; have T10 := hrd9.below hb10
  generalize Cod.setS (l, 0) = s2 at D10 T10
  have ce := T10.err
  obtain ⟨pr, cr, hrr, _⟩ := T10
  have cl := (r_cells hrr).1
  have hAlt : A < w10.heap.size := (Array.getElem?_eq_some_iff.1 hrr).1
  refine ⟨_, rfl, trivial, ?_⟩
  refine rgd_pure 14 (some 39) rfl rfl (.bool true) (by kernel_rfl) (by kernel_rfl) (by kernel_rfl) (fun _ _ _ _ h => h) (by kernel_rfl) (fun _ => by kernel_rfl) trivial ?_
  refine rgd_pure 15 (some 40) rfl rfl (.bool true) (by kernel_rfl) (by kernel_rfl) (by kernel_rfl) (fun _ _ _ _ h => h) (by kernel_rfl) (fun _ => by kernel_rfl) trivial ?_
  refine rgd_pure 16 (some 41) rfl rfl (.pointer (some ⟨B, 0, none⟩)) (by kernel_rfl) (by kernel_rfl) (by kernel_rfl) (fun _ _ _ _ h => h) (by kernel_rfl) (fun _ => by kernel_rfl) trivial ?_
  refine rgd_pure 18 (some 43) rfl rfl (.pointer (some ⟨A, 0, none⟩)) (by kernel_rfl) (by kernel_rfl) (by kernel_rfl) (fun _ _ _ _ h => h) (by kernel_rfl) (fun _ => by kernel_rfl) trivial ?_
  refine rgd_pure 19 (some 44) rfl rfl (.pointer (some ⟨A, 0, none⟩)) (by kernel_rfl) (by kernel_rfl) (by kernel_rfl) (fun _ _ _ _ h => h) (by kernel_rfl) (fun _ => by kernel_rfl) trivial ?_
  refine rgd_pure 20 (some 45) rfl rfl (.pointer (some ⟨A, 1, none⟩)) (by kernel_rfl) (by kernel_rfl) (by kernel_rfl) (fun _ _ _ _ h => h) (by kernel_rfl) (fun _ => by kernel_rfl) trivial ?_
  refine rg_two2 17 21 (by kernel_rfl) rfl (by kernel_rfl) 36 #[.pointer (some ⟨B, 0, none⟩)] (by kernel_rfl) (err_any B s2 w10 D10) rfl (by kernel_rfl) (.int .i64 (s2.2 : Int)) w10 (exec_load1 _ _ rfl Tryd.underlying43 rfl _ _ (by kernel_rfl) ce) trivial ?_ ?_
  · rintro e w' ⟨rfl, rfl⟩
    refine ⟨_, rfl, trivial, ?_⟩
    refine rg_run 21 (by kernel_rfl) rfl (by kernel_rfl) (.int .i64 (s2.2 : Int)) w10 (exec_load1 _ _ rfl Tryd.underlying43 rfl _ _ (by kernel_rfl) ce) trivial ?_
    refine rgd_pure 22 (some 47) rfl rfl (.bool true) (by kernel_rfl) (by kernel_rfl) (by kernel_rfl) (fun _ _ _ _ h => h) (by kernel_rfl) (exec_eqlI _ _ _ _ rfl (s2.2 : Int) (by kernel_rfl) (by kernel_rfl)) trivial ?_
    refine rgd_pure 23 (some 48) rfl rfl (.bool true) (by kernel_rfl) (by kernel_rfl) (by kernel_rfl) (fun _ _ _ _ h => h) (by kernel_rfl) (fun _ => by kernel_rfl) trivial ?_
    refine rgd_pure 24 (some 49) rfl rfl (.bool true) (by kernel_rfl) (by kernel_rfl) (by kernel_rfl) (fun _ _ _ _ h => h) (by kernel_rfl) (fun _ => by kernel_rfl) trivial ?_
    refine rgd_pure 25 (some 50) rfl rfl (.pointer (some ⟨B, 0, none⟩)) (by kernel_rfl) (by kernel_rfl) (by kernel_rfl) (fun _ _ _ _ h => h) (by kernel_rfl) (fun _ => by kernel_rfl) trivial ?_
    refine rgd_pure 27 (some 52) rfl rfl (.pointer (some ⟨A, 0, none⟩)) (by kernel_rfl) (by kernel_rfl) (by kernel_rfl) (fun _ _ _ _ h => h) (by kernel_rfl) (fun _ => by kernel_rfl) trivial ?_
    refine rgd_pure 28 (some 53) rfl rfl (.pointer (some ⟨A, 0, none⟩)) (by kernel_rfl) (by kernel_rfl) (by kernel_rfl) (fun _ _ _ _ h => h) (by kernel_rfl) (fun _ => by kernel_rfl) trivial ?_
    refine rgd_pure 29 (some 54) rfl rfl (.pointer (some ⟨A, 0, none⟩)) (by kernel_rfl) (by kernel_rfl) (by kernel_rfl) (fun _ _ _ _ h => h) (by kernel_rfl) (fun _ => by kernel_rfl) trivial ?_
    refine rg_two2 26 30 (by kernel_rfl) rfl (by kernel_rfl) 37 #[.pointer (some ⟨B, 0, none⟩)] (by kernel_rfl) (left_any B s2 w10 D10) rfl (by kernel_rfl) (.slice pr s2.1.length cr) w10 (exec_load1 _ _ rfl Tryd.underlying38 rfl _ _ (by kernel_rfl) cl) trivial ?_ ?_
    · rintro e w' ⟨rfl, rfl⟩
      refine ⟨_, rfl, trivial, ?_⟩
      refine rg_run 30 (by kernel_rfl) rfl (by kernel_rfl) (.slice pr s2.1.length cr) w10 (exec_load1 _ _ rfl Tryd.underlying38 rfl _ _ (by kernel_rfl) cl) trivial ?_
      refine rgd_pure 31 (some 56) rfl rfl (.int .i64 (s2.1.length : Int)) (by kernel_rfl) (by kernel_rfl) (by kernel_rfl) (fun _ _ _ _ h => h) (by kernel_rfl) (fun _ => by kernel_rfl) trivial ?_
      refine rgd_pure 32 (some 57) rfl rfl (.bool true) (by kernel_rfl) (by kernel_rfl) (by kernel_rfl) (fun _ _ _ _ h => h) (by kernel_rfl) (exec_eqlI _ _ _ _ rfl (s2.1.length : Int) (by kernel_rfl) (by kernel_rfl)) trivial ?_
      refine rgd_pure 33 (some 58) rfl rfl (.bool true) (by kernel_rfl) (by kernel_rfl) (by kernel_rfl) (fun _ _ _ _ h => h) (by kernel_rfl) (fun _ => by kernel_rfl) trivial ?_
      refine rgd_pure 34 (some 59) rfl rfl (.bool true) (by kernel_rfl) (by kernel_rfl) (by kernel_rfl) (fun _ _ _ _ h => h) (by kernel_rfl) (fun _ => by kernel_rfl) trivial ?_
      refine rg_call 35 (by kernel_rfl) rfl (by kernel_rfl) 18 #[] (by kernel_rfl) (awake5 w10 (HT.out.below b10)) ?_
      rintro e w11 ⟨rfl, hb11⟩
      have b11 := Lib.hid (thenBelow b10 hb11)
      refine ⟨_, rfl, trivial, ?_⟩
      refine rgd_pure 36 (some 61) rfl rfl (.bool true) (by kernel_rfl) (by kernel_rfl) (by kernel_rfl) (fun _ _ _ _ h => h) (by kernel_rfl) (fun _ => by kernel_rfl) trivial ?_
      refine rgd_pure 37 (some 6) rfl rfl (.bool true) (by kernel_rfl) (by kernel_rfl) (by kernel_rfl) (fun _ _ _ _ h => h) (by kernel_rfl) (fun _ => by kernel_rfl) trivial ?_
      refine wpAnyH_done (by kernel_rfl) ?_ _
      clear hrr cl ce hb11 hb10 D10
      refine ‹∀ (a : Act) (w : World), Code.wp Tryd.prog Code.ret (bodyPost Tryd.prog Tryd.f6 (Yes W)) a w → _› _ _ ?_
      refine wp_ret ?_
      exact bodyPost_ret (v := .bool true) (by kernel_rfl) (by kernel_rfl) ⟨rfl, b11.out⟩
    · refine rgd_pure 31 (some 56) rfl rfl (.int .i64 (s2.1.length : Int)) (by kernel_rfl) (by kernel_rfl) (by kernel_rfl) (fun _ _ _ _ h => h) (by kernel_rfl) (fun _ => by kernel_rfl) trivial ?_
      refine rg_call 26 (by kernel_rfl) rfl (by kernel_rfl) 37 #[.pointer (some ⟨B, 0, none⟩)] (by kernel_rfl) (left_any B s2 w10 D10) ?_
      rintro e w' ⟨rfl, rfl⟩
      refine ⟨_, rfl, trivial, ?_⟩
      refine rgd_pure 32 (some 57) rfl rfl (.bool true) (by kernel_rfl) (by kernel_rfl) (by kernel_rfl) (fun _ _ _ _ h => h) (by kernel_rfl) (exec_eqlI _ _ _ _ rfl (s2.1.length : Int) (by kernel_rfl) (by kernel_rfl)) trivial ?_
      refine rgd_pure 33 (some 58) rfl rfl (.bool true) (by kernel_rfl) (by kernel_rfl) (by kernel_rfl) (fun _ _ _ _ h => h) (by kernel_rfl) (fun _ => by kernel_rfl) trivial ?_
      refine rgd_pure 34 (some 59) rfl rfl (.bool true) (by kernel_rfl) (by kernel_rfl) (by kernel_rfl) (fun _ _ _ _ h => h) (by kernel_rfl) (fun _ => by kernel_rfl) trivial ?_
      refine rg_call 35 (by kernel_rfl) rfl (by kernel_rfl) 18 #[] (by kernel_rfl) (awake5 w10 (HT.out.below b10)) ?_
      rintro e w11 ⟨rfl, hb11⟩
      have b11 := Lib.hid (thenBelow b10 hb11)
      refine ⟨_, rfl, trivial, ?_⟩
      refine rgd_pure 36 (some 61) rfl rfl (.bool true) (by kernel_rfl) (by kernel_rfl) (by kernel_rfl) (fun _ _ _ _ h => h) (by kernel_rfl) (fun _ => by kernel_rfl) trivial ?_
      refine rgd_pure 37 (some 6) rfl rfl (.bool true) (by kernel_rfl) (by kernel_rfl) (by kernel_rfl) (fun _ _ _ _ h => h) (by kernel_rfl) (fun _ => by kernel_rfl) trivial ?_
      refine wpAnyH_done (by kernel_rfl) ?_ _
      clear hrr cl ce hb11 hb10 D10
      refine ‹∀ (a : Act) (w : World), Code.wp Tryd.prog Code.ret (bodyPost Tryd.prog Tryd.f6 (Yes W)) a w → _› _ _ ?_
      refine wp_ret ?_
      exact bodyPost_ret (v := .bool true) (by kernel_rfl) (by kernel_rfl) ⟨rfl, b11.out⟩
  · refine rg_call 17 (by kernel_rfl) rfl (by kernel_rfl) 36 #[.pointer (some ⟨B, 0, none⟩)] (by kernel_rfl) (err_any B s2 w10 D10) ?_
    rintro e w' ⟨rfl, rfl⟩
    refine ⟨_, rfl, trivial, ?_⟩
    refine rgd_pure 22 (some 47) rfl rfl (.bool true) (by kernel_rfl) (by kernel_rfl) (by kernel_rfl) (fun _ _ _ _ h => h) (by kernel_rfl) (exec_eqlI _ _ _ _ rfl (s2.2 : Int) (by kernel_rfl) (by kernel_rfl)) trivial ?_
    refine rgd_pure 23 (some 48) rfl rfl (.bool true) (by kernel_rfl) (by kernel_rfl) (by kernel_rfl) (fun _ _ _ _ h => h) (by kernel_rfl) (fun _ => by kernel_rfl) trivial ?_
    refine rgd_pure 24 (some 49) rfl rfl (.bool true) (by kernel_rfl) (by kernel_rfl) (by kernel_rfl) (fun _ _ _ _ h => h) (by kernel_rfl) (fun _ => by kernel_rfl) trivial ?_
    refine rgd_pure 25 (some 50) rfl rfl (.pointer (some ⟨B, 0, none⟩)) (by kernel_rfl) (by kernel_rfl) (by kernel_rfl) (fun _ _ _ _ h => h) (by kernel_rfl) (fun _ => by kernel_rfl) trivial ?_
    refine rgd_pure 27 (some 52) rfl rfl (.pointer (some ⟨A, 0, none⟩)) (by kernel_rfl) (by kernel_rfl) (by kernel_rfl) (fun _ _ _ _ h => h) (by kernel_rfl) (fun _ => by kernel_rfl) trivial ?_
    refine rgd_pure 28 (some 53) rfl rfl (.pointer (some ⟨A, 0, none⟩)) (by kernel_rfl) (by kernel_rfl) (by kernel_rfl) (fun _ _ _ _ h => h) (by kernel_rfl) (fun _ => by kernel_rfl) trivial ?_
    refine rgd_pure 29 (some 54) rfl rfl (.pointer (some ⟨A, 0, none⟩)) (by kernel_rfl) (by kernel_rfl) (by kernel_rfl) (fun _ _ _ _ h => h) (by kernel_rfl) (fun _ => by kernel_rfl) trivial ?_
    refine rg_two2 26 30 (by kernel_rfl) rfl (by kernel_rfl) 37 #[.pointer (some ⟨B, 0, none⟩)] (by kernel_rfl) (left_any B s2 w10 D10) rfl (by kernel_rfl) (.slice pr s2.1.length cr) w10 (exec_load1 _ _ rfl Tryd.underlying38 rfl _ _ (by kernel_rfl) cl) trivial ?_ ?_
    · rintro e w' ⟨rfl, rfl⟩
      refine ⟨_, rfl, trivial, ?_⟩
      refine rg_run 30 (by kernel_rfl) rfl (by kernel_rfl) (.slice pr s2.1.length cr) w10 (exec_load1 _ _ rfl Tryd.underlying38 rfl _ _ (by kernel_rfl) cl) trivial ?_
      refine rgd_pure 31 (some 56) rfl rfl (.int .i64 (s2.1.length : Int)) (by kernel_rfl) (by kernel_rfl) (by kernel_rfl) (fun _ _ _ _ h => h) (by kernel_rfl) (fun _ => by kernel_rfl) trivial ?_
      refine rgd_pure 32 (some 57) rfl rfl (.bool true) (by kernel_rfl) (by kernel_rfl) (by kernel_rfl) (fun _ _ _ _ h => h) (by kernel_rfl) (exec_eqlI _ _ _ _ rfl (s2.1.length : Int) (by kernel_rfl) (by kernel_rfl)) trivial ?_
      refine rgd_pure 33 (some 58) rfl rfl (.bool true) (by kernel_rfl) (by kernel_rfl) (by kernel_rfl) (fun _ _ _ _ h => h) (by kernel_rfl) (fun _ => by kernel_rfl) trivial ?_
      refine rgd_pure 34 (some 59) rfl rfl (.bool true) (by kernel_rfl) (by kernel_rfl) (by kernel_rfl) (fun _ _ _ _ h => h) (by kernel_rfl) (fun _ => by kernel_rfl) trivial ?_
      refine rg_call 35 (by kernel_rfl) rfl (by kernel_rfl) 18 #[] (by kernel_rfl) (awake5 w10 (HT.out.below b10)) ?_
      rintro e w11 ⟨rfl, hb11⟩
      have b11 := Lib.hid (thenBelow b10 hb11)
      refine ⟨_, rfl, trivial, ?_⟩
      refine rgd_pure 36 (some 61) rfl rfl (.bool true) (by kernel_rfl) (by kernel_rfl) (by kernel_rfl) (fun _ _ _ _ h => h) (by kernel_rfl) (fun _ => by kernel_rfl) trivial ?_
      refine rgd_pure 37 (some 6) rfl rfl (.bool true) (by kernel_rfl) (by kernel_rfl) (by kernel_rfl) (fun _ _ _ _ h => h) (by kernel_rfl) (fun _ => by kernel_rfl) trivial ?_
      refine wpAnyH_done (by kernel_rfl) ?_ _
      clear hrr cl ce hb11 hb10 D10
      refine ‹∀ (a : Act) (w : World), Code.wp Tryd.prog Code.ret (bodyPost Tryd.prog Tryd.f6 (Yes W)) a w → _› _ _ ?_
      refine wp_ret ?_
      exact bodyPost_ret (v := .bool true) (by kernel_rfl) (by kernel_rfl) ⟨rfl, b11.out⟩
    · refine rgd_pure 31 (some 56) rfl rfl (.int .i64 (s2.1.length : Int)) (by kernel_rfl) (by kernel_rfl) (by kernel_rfl) (fun _ _ _ _ h => h) (by kernel_rfl) (fun _ => by kernel_rfl) trivial ?_
      refine rg_call 26 (by kernel_rfl) rfl (by kernel_rfl) 37 #[.pointer (some ⟨B, 0, none⟩)] (by kernel_rfl) (left_any B s2 w10 D10) ?_
      rintro e w' ⟨rfl, rfl⟩
      refine ⟨_, rfl, trivial, ?_⟩
      refine rgd_pure 32 (some 57) rfl rfl (.bool true) (by kernel_rfl) (by kernel_rfl) (by kernel_rfl) (fun _ _ _ _ h => h) (by kernel_rfl) (exec_eqlI _ _ _ _ rfl (s2.1.length : Int) (by kernel_rfl) (by kernel_rfl)) trivial ?_
      refine rgd_pure 33 (some 58) rfl rfl (.bool true) (by kernel_rfl) (by kernel_rfl) (by kernel_rfl) (fun _ _ _ _ h => h) (by kernel_rfl) (fun _ => by kernel_rfl) trivial ?_
      refine rgd_pure 34 (some 59) rfl rfl (.bool true) (by kernel_rfl) (by kernel_rfl) (by kernel_rfl) (fun _ _ _ _ h => h) (by kernel_rfl) (fun _ => by kernel_rfl) trivial ?_
      refine rg_call 35 (by kernel_rfl) rfl (by kernel_rfl) 18 #[] (by kernel_rfl) (awake5 w10 (HT.out.below b10)) ?_
      rintro e w11 ⟨rfl, hb11⟩
      have b11 := Lib.hid (thenBelow b10 hb11)
      refine ⟨_, rfl, trivial, ?_⟩
      refine rgd_pure 36 (some 61) rfl rfl (.bool true) (by kernel_rfl) (by kernel_rfl) (by kernel_rfl) (fun _ _ _ _ h => h) (by kernel_rfl) (fun _ => by kernel_rfl) trivial ?_
      refine rgd_pure 37 (some 6) rfl rfl (.bool true) (by kernel_rfl) (by kernel_rfl) (by kernel_rfl) (fun _ _ _ _ h => h) (by kernel_rfl) (fun _ => by kernel_rfl) trivial ?_
      refine wpAnyH_done (by kernel_rfl) ?_ _
      clear hrr cl ce hb11 hb10 D10
      refine ‹∀ (a : Act) (w : World), Code.wp Tryd.prog Code.ret (bodyPost Tryd.prog Tryd.f6 (Yes W)) a w → _› _ _ ?_
      refine wp_ret ?_
      exact bodyPost_ret (v := .bool true) (by kernel_rfl) (by kernel_rfl) ⟨rfl, b11.out⟩
end Go.Proofs.YtmblkccfgncngaaDoor
