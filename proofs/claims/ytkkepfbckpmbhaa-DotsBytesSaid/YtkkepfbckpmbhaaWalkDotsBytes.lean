/- The walk of DotsBytes: a vector's bytes behind any others, and a vector of any bytes. -/
import Derived.Test.YtkkepfbckpmbhaaWalkDotsBack
namespace Go.Proofs.Ytkkepfbckpmbhaa
open Go Go.RowKit
set_option linter.unusedVariables false

set_option maxHeartbeats 1000000 in
/-- bytes.Clone: of the call's own -/
theorem cloneOwn_any (p : Option Addr) (c : Nat) (l : List UInt8) (w : World) (h : Lies w p l) (hp : p = none → l = []) (hbig : l.length ≤ 140737488355328) :
    Calls Try.prog 28 #[.slice p l.length c] w (RetOwn w 5 l) := by
  have q : ∀ (w : World) (a : Option Addr) (n c n' c' : Nat), (binOp .eql 37 (.slice a n c) (.slice none n' c')).run Try.prog w = .ok (.bool a.isNone) w := fun w a n c n' c' => Lib.run_eql_slice_nil w _ _ a n c n' c' Try.underlying37
  cases p with
  | none =>
    obtain rfl := hp rfl
    go_enter Try.func28, Try.ntmps28
    go_wp2
    go_ret
    exact ⟨_, rfl, World.ownsRow_nil _ _ _ _, Below.refl _ _⟩
  | some a =>
    obtain ⟨i0, hi, hz0, hz1, hz2⟩ := info_parts infoU8
    have H : Hid (∀ j u, (bys l)[j]? = some u → w.cell? (a.add j) = some u) := by
      by_cases h0 : l = []
      · subst h0; intro j u hu; simp [bys] at hu
      · obtain ⟨b, o, e, hc⟩ := h h0
        obtain rfl := Option.some.inj e
        exact Lies.news hc
    clear h hp
    go_enter Try.func28, Try.ntmps28
    go_wp2_with (at_builtin; refine wpList_append_own _ rfl _ _ 37 rfl w.heap.size 5 i0 (.int .u8 0) 1 1 Try.underlying37 hi hz0 hz1 hz2 rfl (by decide) _ _ _ rfl (World.ownsRow_made w #[] 0 (Nat.le_refl _) (Nat.zero_le _) rfl) a l.length c (bys l) rfl ?qc1 ?qc2 ?qc3 ?qc4 ?qc5 ?qc6 ?_)
    case qc1 => simp [bys]
    case qc2 => exact fun j u hj => cell_alloc _ (H.out j u hj)
    case qc3 => exact bys_one l
    case qc4 => unfold maxLen; omega
    case qc5 => omega
    case qc6 => simp
    intro v' w1 hown hgrow hnil
    go_wp2
    go_ret
    exact RetOwn.of_own (by simpa using hown) rfl (((Below.refl _ w).alloc (Nat.le_refl _) _).grown hgrow (by simp) (by intro k hk; simp [Value.ownBlock] at hk; omega))
theorem rrd_new {w : World} {lo : Nat} {v : Value} {l : List UInt8} (h : w.ownsRow lo 5 1 v l.length (bys l)) (h0 : lo ≤ w.heap.size) : RRd (w.alloc (rObj v 0)) w.heap.size lo (l, 0) := by
  have hnew : (w.alloc (rObj v 0)).heap[w.heap.size]? = some (rObj v 0) := heap_alloc_new w _
  have h' := h
  rcases h.2 with ⟨rfl, hn⟩ | ⟨g, cap, cur, rfl, hg, hcur, hnc, _⟩
  · have : l = [] := List.eq_nil_of_length_eq_zero hn
    subst this
    exact ⟨none, 0, hnew, Nat.le_refl _, fun _ => rfl, .inl ⟨rfl, rfl⟩⟩
  · refine ⟨some ⟨g, 0, none⟩, cap, hnew, hnc, fun e => absurd rfl e, .inr ⟨g, 0, rfl, fun i hi => ?_, hg, (Array.getElem?_eq_some_iff.1 hcur).1⟩⟩
    have := (own_cell h' i hi).1
    rw [Nat.zero_add]
    exact cell_alloc _ (by simpa using this)

set_option maxHeartbeats 8000000 in
set_option maxRecDepth 100000 in
theorem dotsBytes_walk (p : Option Addr) (c : Nat) (b : List UInt8) (f : Nat → Int) (q : Option Addr) (d : Nat) (l : List UInt8) (W : World) (h : Came W p c b) (hf : Wide f) (hq : Came W q d l) :
    Calls Try.prog 6 #[.slice p b.length c, .agg (vf f), .slice q l.length d] W (Yes W) := by
  clear hf
  have hre := h.reach
  have hle := h.le
  have GB := Lib.hid (show Given W p c b from ⟨h.lies, h.le, h.none⟩)
  have GQ : Given W q d l := ⟨hq.lies, hq.le, hq.none⟩
  have hl47 : l.length ≤ 140737488355328 := by have h1 := hq.reach; have h2 := hq.le; omega
  have GG := Lib.hid GQ
  clear h hq GQ
  go_enter Try.func6, Try.ntmps6
  go_wp2_with (refine wpList_vbox vecI rfl _ rfl f rfl ?_)
  intro ga w1 la ra hb1
  have B1 := Lib.hid hb1; have RA1 := Lib.hid ra
  clear hb1 ra
  have CB := Lib.hid (cloneOwn_any p c b w1 (GB.out.below B1.out).lies (fun e => ((GB.out.none e).1)) (by omega))
  go_wp2_with fail
  refine CB.out.mono ?_
  intro e w2 hr2
  obtain ⟨p1, c1, rfl, hg2, hb2⟩ := hr2.given
  have B2 := Lib.hid (thenBelow B1.out hb2); have R2 := Lib.hid (RA1.out.later hb2); have C2 := Lib.hid hg2
  have RD := Lib.hid (read_all q d l w2 (GG.out.below B2.out) hl47)
  clear hr2 hg2 hb2 CB RA1 B1
  go_wp2_with fail
  refine RD.out.mono ?_
  rintro e w3 ⟨B, rfl, hB, hrd, hb3⟩
  have B3 := Lib.hid (thenBelow B2.out hb3); have R3 := Lib.hid (R2.out.later hb3); have C3 := Lib.hid (C2.out.below hb3); have D3 := Lib.hid hrd
  have hgaB : ga < B := Nat.lt_of_lt_of_le R2.out.lt hB
  have hBW : W.heap.size ≤ B := Nat.le_trans B2.out.size hB
  have hB3 : B < w3.heap.size := hrd.lt
  have CL := Lib.hid (cloneOwn_any q d l w3 (GG.out.below B3.out).lies (fun e => ((GG.out.none e).1)) hl47)
  clear hrd hb3 RD R2 C2 B2 hB
  go_wp2_with fail
  refine CL.out.mono ?_
  rintro e w4 ⟨v4, rfl, ho4, hb4⟩
  have B4 := Lib.hid (thenBelow B3.out hb4); have R4 := Lib.hid (R3.out.later hb4); have C4 := Lib.hid (C3.out.below hb4); have D4 := Lib.hid (D3.out.below hb4)
  have T4 := Lib.hid (rrd_new ho4 hb4.size)
  have hz4 := hb4.size
  obtain ⟨hkk, pv, cv, rfl, hcv, _, _, _⟩ := own_lies ho4
  clear hkk ho4 hb4 CL R3 C3 D3
  obtain ⟨lo, hlo⟩ : ∃ lo, lo = w3.heap.size := ⟨_, rfl⟩
  rw [← hlo] at T4 hz4 hB3
  obtain ⟨A, hA⟩ : ∃ A, A = w4.heap.size := ⟨_, rfl⟩
  have hz3 := B3.out.size
  rw [← hlo] at hz3
  have T5 : Hid (RRd (w4.alloc (.cells #[.slice pv l.length cv, .int .i64 0] 44)) A lo (l, 0)) := by rw [hA]; exact T4.out
  have al : Below w4.heap.size w4 (w4.alloc (.cells #[.slice pv l.length cv, .int .i64 0] 44)) := (Below.refl _ _).alloc (Nat.le_refl _) _
  have B5 := Lib.hid (thenBelow B4.out al); have R5 := Lib.hid (R4.out.later al); have C5 := Lib.hid (C4.out.below al); have D5 := Lib.hid (D4.out.below al)
  have hBlo : B < lo := hB3
  have hloA : lo ≤ A := by rw [hA]; exact hz4
  have HA := Lib.hid hA
  have HZ3 := Lib.hid hz3; have HBL := Lib.hid hBlo; have HLA := Lib.hid hloA
  clear T4 al R4 C4 D4 hlo B3 B4 hB3 hz4 hA hz3 hBlo hloA
  go_wp2
  generalize (w4.alloc (.cells #[.slice pv l.length cv, .int .i64 0] 44)) = wq at T5 B5 R5 C5 D5 ⊢
  rw [← HA.out]
  have hBlo := HBL.out; have hloA := HLA.out; have hz3 := HZ3.out
  have T4 := T5; have B4 := B5; have R4 := R5; have C4 := C5; have D4 := D5
  clear T5 B5 R5 C5 D5
  refine rg_start (n := 42) (S := fun w' => Row w' ga 25 f) (by kernel_rfl) rfl (R4.out.later (Below.refl _ _).drew) ?_
  have b0 : Below W.heap.size W wq.drew := B4.out.drew
  have X0 : Row wq.drew ga 25 f := R4.out.later (Below.refl _ _).drew
  have C0 : Given wq.drew p1 c1 b := C4.out.below (Below.refl _ _).drew
  have D0 : RdA wq.drew B (l, 0) := D4.out.below (Below.refl _ _).drew
  have T0 : RRd wq.drew A lo (l, 0) := T4.out.below (Below.refl _ _).drew
  generalize wq.drew = w0 at b0 X0 C0 D0 T0 ⊢
  clear B4 R4 C4 D4 T4
  refine rgd_pure 0 (some 18) rfl rfl (.slice p b.length c) (by kernel_rfl) (by kernel_rfl) (by kernel_rfl) (fun _ _ _ _ h => h) (by kernel_rfl) (fun _ => by kernel_rfl) X0 ?_
  refine rg_vload vecI 1 (some 19) rfl rfl (by kernel_rfl) (by kernel_rfl) (by kernel_rfl) (fun _ _ _ _ h => h) (by kernel_rfl) _ rfl ga _ f (by kernel_rfl) (fun _ h => h) X0 ?_
  refine rgd_pure 3 (some 21) rfl rfl (.slice p1 b.length c1) (by kernel_rfl) (by kernel_rfl) (by kernel_rfl) (fun _ _ _ _ h => h) (by kernel_rfl) (fun _ => by kernel_rfl) X0 ?_
  refine rg_vload vecI 4 (some 22) rfl rfl (by kernel_rfl) (by kernel_rfl) (by kernel_rfl) (fun _ _ _ _ h => h) (by kernel_rfl) _ rfl ga _ f (by kernel_rfl) (fun _ h => h) X0 ?_
  refine rg_call 2 (by kernel_rfl) rfl (by kernel_rfl) 31 #[.slice p b.length c, .agg (vf f)] (by kernel_rfl) (vput_is p c b f w0 (GB.out.below b0) (by omega)) ?_
  intro e w5 hr5
  obtain ⟨p5, c5, rfl, hg5, hb5⟩ := hr5.given
  have b5 := thenBelow b0 hb5
  have X5 := X0.later hb5; have C5 := C0.below hb5; have D5 := D0.below hb5; have T5 := T0.below hb5
  refine ⟨_, rfl, X5, ?_⟩
  refine rg_call 5 (by kernel_rfl) rfl (by kernel_rfl) 32 #[.slice p1 b.length c1, .agg (vf f)] (by kernel_rfl) (refVput_is p1 c1 b f w5 C5 (by omega)) ?_
  intro e w6 hr6
  obtain ⟨p6, c6, rfl, hg6, hb6⟩ := hr6.given
  have b6 := thenBelow b5 hb6
  have X6 := X5.later hb6; have C6 := C5.below hb6; have D6 := D5.below hb6; have T6 := T5.below hb6
  refine ⟨_, rfl, X6, ?_⟩
  refine rg_call 6 (by kernel_rfl) rfl (by kernel_rfl) 30 #[.slice p5 (b ++ vbytes f).length c5, .slice p6 (b ++ vbytes f).length c6] (by kernel_rfl) (equal_any p5 p6 _ _ c5 c6 (b ++ vbytes f) (b ++ vbytes f) w6 (hg5.lies.below hb6) hg6.lies rfl rfl) ?_
  rintro e w7 ⟨he7, hw7⟩
  subst hw7
  have he8 : e = .returned (.bool true) := by rw [he7]; simp
  refine ⟨.bool true, he8, X6, ?_⟩
  refine rgd_pure 7 (some 25) rfl rfl (.bool true) (by kernel_rfl) (by kernel_rfl) (by kernel_rfl) (fun _ _ _ _ h => h) (by kernel_rfl) (fun _ => by kernel_rfl) X6 ?_
  refine rgd_pure 8 (some 26) rfl rfl (.slice p b.length c) (by kernel_rfl) (by kernel_rfl) (by kernel_rfl) (fun _ _ _ _ h => h) (by kernel_rfl) (fun _ => by kernel_rfl) X6 ?_
  refine rgd_pure 9 (some 27) rfl rfl (.slice p1 b.length c1) (by kernel_rfl) (by kernel_rfl) (by kernel_rfl) (fun _ _ _ _ h => h) (by kernel_rfl) (fun _ => by kernel_rfl) X6 ?_
  refine rg_call 10 (by kernel_rfl) rfl (by kernel_rfl) 30 #[.slice p b.length c, .slice p1 b.length c1] (by kernel_rfl) (equal_any p p1 _ _ c c1 b b w6 (GB.out.below b6).lies C6.lies rfl rfl) ?_
  rintro e w7 ⟨he7, hw7⟩
  subst hw7
  have he9 : e = .returned (.bool true) := by rw [he7]; simp
  refine ⟨.bool true, he9, X6, ?_⟩
  refine rgd_pure 11 (some 29) rfl rfl (.bool true) (by kernel_rfl) (by kernel_rfl) (by kernel_rfl) (fun _ _ _ _ h => h) (by kernel_rfl) (fun _ => by kernel_rfl) X6 ?_
  refine rgd_pure 12 (some 30) rfl rfl (.bool true) (by kernel_rfl) (by kernel_rfl) (by kernel_rfl) (fun _ _ _ _ h => h) (by kernel_rfl) (fun _ => by kernel_rfl) X6 ?_
  refine rgd_pure 13 (some 31) rfl rfl (.pointer (some ⟨B, 0, none⟩)) (by kernel_rfl) (by kernel_rfl) (by kernel_rfl) (fun _ _ _ _ h => h) (by kernel_rfl) (fun _ => by kernel_rfl) X6 ?_
  refine rgd_pure 15 (some 33) rfl rfl (.pointer (some ⟨A, 0, none⟩)) (by kernel_rfl) (by kernel_rfl) (by kernel_rfl) (fun _ _ _ _ h => h) (by kernel_rfl) (fun _ => by kernel_rfl) X6 ?_
  refine rg_call 14 (by kernel_rfl) rfl (by kernel_rfl) 33 #[.pointer (some ⟨B, 0, none⟩)] (by kernel_rfl) (vread_is B (l, 0) w6 D6 hl47) ?_
  rintro e w8 ⟨rfl, hrd8, hg8⟩
  have b8 : Below W.heap.size W w8 := b6.grown hg8 b6.size (fun k hk => by have e2 : k = B := (Option.some.inj hk).symm; omega)
  have T8 := T6.other hg8 hBlo hloA
  have X8 := X6.kept hg8 (fun e => by have e2 : ga = B := Option.some.inj e; omega)
  refine ⟨_, rfl, X8, ?_⟩
  refine rg_call 16 (by kernel_rfl) rfl (by kernel_rfl) 34 #[.pointer (some ⟨A, 0, none⟩)] (by kernel_rfl) (refVread_is A lo (l, 0) w8 T8 hl47) ?_
  rintro e w10 ⟨rfl, T10, hg9⟩
  have b10 : Below W.heap.size W w10 := b8.grown hg9 b8.size (fun k hk => by have e2 : k = A := (Option.some.inj hk).symm; omega)
  have D10 := hrd8.beside hg9 (Nat.lt_of_lt_of_le hBlo hloA)
  have R10 := X8.kept hg9 (fun e => by have e2 : ga = A := Option.some.inj e; omega)
  refine ⟨_, rfl, R10, ?_⟩
  generalize outV (l, 0) = ov
  generalize outS (l, 0) = s2 at D10 T10
  refine rgd_pure 17 (some 35) rfl rfl (.bool true) (by kernel_rfl) (by kernel_rfl) (by kernel_rfl) (fun _ _ _ _ h => h) (by kernel_rfl) (exec_veqT vecI _ _ _ rfl (by kernel_rfl) ov ov (veq_self ov) (by kernel_rfl) (by kernel_rfl)) R10 ?_
  have ce := T10.err
  obtain ⟨pr, cr, hrr, _⟩ := T10
  have cl := (r_cells hrr).1
  have hAlt : A < w10.heap.size := (Array.getElem?_eq_some_iff.1 hrr).1
  refine rgd_pure 18 (some 36) rfl rfl (.bool true) (by kernel_rfl) (by kernel_rfl) (by kernel_rfl) (fun _ _ _ _ h => h) (by kernel_rfl) (fun _ => by kernel_rfl) R10 ?_
  refine rgd_pure 19 (some 37) rfl rfl (.bool true) (by kernel_rfl) (by kernel_rfl) (by kernel_rfl) (fun _ _ _ _ h => h) (by kernel_rfl) (fun _ => by kernel_rfl) R10 ?_
  refine rgd_pure 20 (some 38) rfl rfl (.pointer (some ⟨B, 0, none⟩)) (by kernel_rfl) (by kernel_rfl) (by kernel_rfl) (fun _ _ _ _ h => h) (by kernel_rfl) (fun _ => by kernel_rfl) R10 ?_
  refine rgd_pure 22 (some 40) rfl rfl (.pointer (some ⟨A, 0, none⟩)) (by kernel_rfl) (by kernel_rfl) (by kernel_rfl) (fun _ _ _ _ h => h) (by kernel_rfl) (fun _ => by kernel_rfl) R10 ?_
  refine rgd_pure 23 (some 41) rfl rfl (.pointer (some ⟨A, 0, none⟩)) (by kernel_rfl) (by kernel_rfl) (by kernel_rfl) (fun _ _ _ _ h => h) (by kernel_rfl) (fun _ => by kernel_rfl) R10 ?_
  refine rgd_pure 24 (some 42) rfl rfl (.pointer (some ⟨A, 1, none⟩)) (by kernel_rfl) (by kernel_rfl) (by kernel_rfl) (fun _ _ _ _ h => h) (by kernel_rfl) (fun _ => by kernel_rfl) R10 ?_
  refine rg_two2 21 25 (by kernel_rfl) rfl (by kernel_rfl) 35 #[.pointer (some ⟨B, 0, none⟩)] (by kernel_rfl) (err_any B s2 w10 D10) rfl (by kernel_rfl) (.int .i64 (s2.2 : Int)) w10 (exec_load1 _ _ rfl Try.underlying42 rfl _ _ (by kernel_rfl) ce) R10 ?_ ?_
  · rintro e w' ⟨rfl, rfl⟩
    refine ⟨_, rfl, R10, ?_⟩
    refine rg_run 25 (by kernel_rfl) rfl (by kernel_rfl) (.int .i64 (s2.2 : Int)) w10 (exec_load1 _ _ rfl Try.underlying42 rfl _ _ (by kernel_rfl) ce) R10 ?_
    refine rgd_pure 26 (some 44) rfl rfl (.bool true) (by kernel_rfl) (by kernel_rfl) (by kernel_rfl) (fun _ _ _ _ h => h) (by kernel_rfl) (exec_eqlI _ _ _ _ rfl (s2.2 : Int) (by kernel_rfl) (by kernel_rfl)) R10 ?_
    refine rgd_pure 27 (some 45) rfl rfl (.bool true) (by kernel_rfl) (by kernel_rfl) (by kernel_rfl) (fun _ _ _ _ h => h) (by kernel_rfl) (fun _ => by kernel_rfl) R10 ?_
    refine rgd_pure 28 (some 46) rfl rfl (.bool true) (by kernel_rfl) (by kernel_rfl) (by kernel_rfl) (fun _ _ _ _ h => h) (by kernel_rfl) (fun _ => by kernel_rfl) R10 ?_
    refine rgd_pure 29 (some 47) rfl rfl (.pointer (some ⟨B, 0, none⟩)) (by kernel_rfl) (by kernel_rfl) (by kernel_rfl) (fun _ _ _ _ h => h) (by kernel_rfl) (fun _ => by kernel_rfl) R10 ?_
    refine rgd_pure 31 (some 49) rfl rfl (.pointer (some ⟨A, 0, none⟩)) (by kernel_rfl) (by kernel_rfl) (by kernel_rfl) (fun _ _ _ _ h => h) (by kernel_rfl) (fun _ => by kernel_rfl) R10 ?_
    refine rgd_pure 32 (some 50) rfl rfl (.pointer (some ⟨A, 0, none⟩)) (by kernel_rfl) (by kernel_rfl) (by kernel_rfl) (fun _ _ _ _ h => h) (by kernel_rfl) (fun _ => by kernel_rfl) R10 ?_
    refine rgd_pure 33 (some 51) rfl rfl (.pointer (some ⟨A, 0, none⟩)) (by kernel_rfl) (by kernel_rfl) (by kernel_rfl) (fun _ _ _ _ h => h) (by kernel_rfl) (fun _ => by kernel_rfl) R10 ?_
    refine rg_two2 30 34 (by kernel_rfl) rfl (by kernel_rfl) 36 #[.pointer (some ⟨B, 0, none⟩)] (by kernel_rfl) (left_any B s2 w10 D10) rfl (by kernel_rfl) (.slice pr s2.1.length cr) w10 (exec_load1 _ _ rfl Try.underlying37 rfl _ _ (by kernel_rfl) cl) R10 ?_ ?_
    · rintro e w' ⟨rfl, rfl⟩
      refine ⟨_, rfl, R10, ?_⟩
      refine rg_run 34 (by kernel_rfl) rfl (by kernel_rfl) (.slice pr s2.1.length cr) w10 (exec_load1 _ _ rfl Try.underlying37 rfl _ _ (by kernel_rfl) cl) R10 ?_
      refine rgd_pure 35 (some 53) rfl rfl (.int .i64 (s2.1.length : Int)) (by kernel_rfl) (by kernel_rfl) (by kernel_rfl) (fun _ _ _ _ h => h) (by kernel_rfl) (fun _ => by kernel_rfl) R10 ?_
      refine rgd_pure 36 (some 54) rfl rfl (.bool true) (by kernel_rfl) (by kernel_rfl) (by kernel_rfl) (fun _ _ _ _ h => h) (by kernel_rfl) (exec_eqlI _ _ _ _ rfl (s2.1.length : Int) (by kernel_rfl) (by kernel_rfl)) R10 ?_
      refine rgd_pure 37 (some 55) rfl rfl (.bool true) (by kernel_rfl) (by kernel_rfl) (by kernel_rfl) (fun _ _ _ _ h => h) (by kernel_rfl) (fun _ => by kernel_rfl) R10 ?_
      refine rgd_pure 38 (some 56) rfl rfl (.bool true) (by kernel_rfl) (by kernel_rfl) (by kernel_rfl) (fun _ _ _ _ h => h) (by kernel_rfl) (fun _ => by kernel_rfl) R10 ?_
      refine rg_call 39 (by kernel_rfl) rfl (by kernel_rfl) 19 #[] (by kernel_rfl) (awake8 w10) ?_
      rintro e w11 ⟨rfl, hb11⟩
      have b11 := Lib.hid (thenBelow b10 hb11)
      refine ⟨_, rfl, (R10.later hb11), ?_⟩
      refine rgd_pure 40 (some 58) rfl rfl (.bool true) (by kernel_rfl) (by kernel_rfl) (by kernel_rfl) (fun _ _ _ _ h => h) (by kernel_rfl) (fun _ => by kernel_rfl) (R10.later hb11) ?_
      refine rgd_pure 41 (some 6) rfl rfl (.bool true) (by kernel_rfl) (by kernel_rfl) (by kernel_rfl) (fun _ _ _ _ h => h) (by kernel_rfl) (fun _ => by kernel_rfl) (R10.later hb11) ?_
      refine wpAnyH_done (by kernel_rfl) ?_ _
      clear hrr cl ce hb11 D10
      refine ‹∀ (a : Act) (w : World), Code.wp Try.prog Code.ret (bodyPost Try.prog Try.f6 (Yes W)) a w → _› _ _ ?_
      refine wp_ret ?_
      exact bodyPost_ret (v := .bool true) (by kernel_rfl) (by kernel_rfl) ⟨rfl, b11.out⟩
    · refine rgd_pure 35 (some 53) rfl rfl (.int .i64 (s2.1.length : Int)) (by kernel_rfl) (by kernel_rfl) (by kernel_rfl) (fun _ _ _ _ h => h) (by kernel_rfl) (fun _ => by kernel_rfl) R10 ?_
      refine rg_call 30 (by kernel_rfl) rfl (by kernel_rfl) 36 #[.pointer (some ⟨B, 0, none⟩)] (by kernel_rfl) (left_any B s2 w10 D10) ?_
      rintro e w' ⟨rfl, rfl⟩
      refine ⟨_, rfl, R10, ?_⟩
      refine rgd_pure 36 (some 54) rfl rfl (.bool true) (by kernel_rfl) (by kernel_rfl) (by kernel_rfl) (fun _ _ _ _ h => h) (by kernel_rfl) (exec_eqlI _ _ _ _ rfl (s2.1.length : Int) (by kernel_rfl) (by kernel_rfl)) R10 ?_
      refine rgd_pure 37 (some 55) rfl rfl (.bool true) (by kernel_rfl) (by kernel_rfl) (by kernel_rfl) (fun _ _ _ _ h => h) (by kernel_rfl) (fun _ => by kernel_rfl) R10 ?_
      refine rgd_pure 38 (some 56) rfl rfl (.bool true) (by kernel_rfl) (by kernel_rfl) (by kernel_rfl) (fun _ _ _ _ h => h) (by kernel_rfl) (fun _ => by kernel_rfl) R10 ?_
      refine rg_call 39 (by kernel_rfl) rfl (by kernel_rfl) 19 #[] (by kernel_rfl) (awake8 w10) ?_
      rintro e w11 ⟨rfl, hb11⟩
      have b11 := Lib.hid (thenBelow b10 hb11)
      refine ⟨_, rfl, (R10.later hb11), ?_⟩
      refine rgd_pure 40 (some 58) rfl rfl (.bool true) (by kernel_rfl) (by kernel_rfl) (by kernel_rfl) (fun _ _ _ _ h => h) (by kernel_rfl) (fun _ => by kernel_rfl) (R10.later hb11) ?_
      refine rgd_pure 41 (some 6) rfl rfl (.bool true) (by kernel_rfl) (by kernel_rfl) (by kernel_rfl) (fun _ _ _ _ h => h) (by kernel_rfl) (fun _ => by kernel_rfl) (R10.later hb11) ?_
      refine wpAnyH_done (by kernel_rfl) ?_ _
      clear hrr cl ce hb11 D10
      refine ‹∀ (a : Act) (w : World), Code.wp Try.prog Code.ret (bodyPost Try.prog Try.f6 (Yes W)) a w → _› _ _ ?_
      refine wp_ret ?_
      exact bodyPost_ret (v := .bool true) (by kernel_rfl) (by kernel_rfl) ⟨rfl, b11.out⟩
  · refine rg_call 21 (by kernel_rfl) rfl (by kernel_rfl) 35 #[.pointer (some ⟨B, 0, none⟩)] (by kernel_rfl) (err_any B s2 w10 D10) ?_
    rintro e w' ⟨rfl, rfl⟩
    refine ⟨_, rfl, R10, ?_⟩
    refine rgd_pure 26 (some 44) rfl rfl (.bool true) (by kernel_rfl) (by kernel_rfl) (by kernel_rfl) (fun _ _ _ _ h => h) (by kernel_rfl) (exec_eqlI _ _ _ _ rfl (s2.2 : Int) (by kernel_rfl) (by kernel_rfl)) R10 ?_
    refine rgd_pure 27 (some 45) rfl rfl (.bool true) (by kernel_rfl) (by kernel_rfl) (by kernel_rfl) (fun _ _ _ _ h => h) (by kernel_rfl) (fun _ => by kernel_rfl) R10 ?_
    refine rgd_pure 28 (some 46) rfl rfl (.bool true) (by kernel_rfl) (by kernel_rfl) (by kernel_rfl) (fun _ _ _ _ h => h) (by kernel_rfl) (fun _ => by kernel_rfl) R10 ?_
    refine rgd_pure 29 (some 47) rfl rfl (.pointer (some ⟨B, 0, none⟩)) (by kernel_rfl) (by kernel_rfl) (by kernel_rfl) (fun _ _ _ _ h => h) (by kernel_rfl) (fun _ => by kernel_rfl) R10 ?_
    refine rgd_pure 31 (some 49) rfl rfl (.pointer (some ⟨A, 0, none⟩)) (by kernel_rfl) (by kernel_rfl) (by kernel_rfl) (fun _ _ _ _ h => h) (by kernel_rfl) (fun _ => by kernel_rfl) R10 ?_
    refine rgd_pure 32 (some 50) rfl rfl (.pointer (some ⟨A, 0, none⟩)) (by kernel_rfl) (by kernel_rfl) (by kernel_rfl) (fun _ _ _ _ h => h) (by kernel_rfl) (fun _ => by kernel_rfl) R10 ?_
    refine rgd_pure 33 (some 51) rfl rfl (.pointer (some ⟨A, 0, none⟩)) (by kernel_rfl) (by kernel_rfl) (by kernel_rfl) (fun _ _ _ _ h => h) (by kernel_rfl) (fun _ => by kernel_rfl) R10 ?_
    refine rg_two2 30 34 (by kernel_rfl) rfl (by kernel_rfl) 36 #[.pointer (some ⟨B, 0, none⟩)] (by kernel_rfl) (left_any B s2 w10 D10) rfl (by kernel_rfl) (.slice pr s2.1.length cr) w10 (exec_load1 _ _ rfl Try.underlying37 rfl _ _ (by kernel_rfl) cl) R10 ?_ ?_
    · rintro e w' ⟨rfl, rfl⟩
      refine ⟨_, rfl, R10, ?_⟩
      refine rg_run 34 (by kernel_rfl) rfl (by kernel_rfl) (.slice pr s2.1.length cr) w10 (exec_load1 _ _ rfl Try.underlying37 rfl _ _ (by kernel_rfl) cl) R10 ?_
      refine rgd_pure 35 (some 53) rfl rfl (.int .i64 (s2.1.length : Int)) (by kernel_rfl) (by kernel_rfl) (by kernel_rfl) (fun _ _ _ _ h => h) (by kernel_rfl) (fun _ => by kernel_rfl) R10 ?_
      refine rgd_pure 36 (some 54) rfl rfl (.bool true) (by kernel_rfl) (by kernel_rfl) (by kernel_rfl) (fun _ _ _ _ h => h) (by kernel_rfl) (exec_eqlI _ _ _ _ rfl (s2.1.length : Int) (by kernel_rfl) (by kernel_rfl)) R10 ?_
      refine rgd_pure 37 (some 55) rfl rfl (.bool true) (by kernel_rfl) (by kernel_rfl) (by kernel_rfl) (fun _ _ _ _ h => h) (by kernel_rfl) (fun _ => by kernel_rfl) R10 ?_
      refine rgd_pure 38 (some 56) rfl rfl (.bool true) (by kernel_rfl) (by kernel_rfl) (by kernel_rfl) (fun _ _ _ _ h => h) (by kernel_rfl) (fun _ => by kernel_rfl) R10 ?_
      refine rg_call 39 (by kernel_rfl) rfl (by kernel_rfl) 19 #[] (by kernel_rfl) (awake8 w10) ?_
      rintro e w11 ⟨rfl, hb11⟩
      have b11 := Lib.hid (thenBelow b10 hb11)
      refine ⟨_, rfl, (R10.later hb11), ?_⟩
      refine rgd_pure 40 (some 58) rfl rfl (.bool true) (by kernel_rfl) (by kernel_rfl) (by kernel_rfl) (fun _ _ _ _ h => h) (by kernel_rfl) (fun _ => by kernel_rfl) (R10.later hb11) ?_
      refine rgd_pure 41 (some 6) rfl rfl (.bool true) (by kernel_rfl) (by kernel_rfl) (by kernel_rfl) (fun _ _ _ _ h => h) (by kernel_rfl) (fun _ => by kernel_rfl) (R10.later hb11) ?_
      refine wpAnyH_done (by kernel_rfl) ?_ _
      clear hrr cl ce hb11 D10
      refine ‹∀ (a : Act) (w : World), Code.wp Try.prog Code.ret (bodyPost Try.prog Try.f6 (Yes W)) a w → _› _ _ ?_
      refine wp_ret ?_
      exact bodyPost_ret (v := .bool true) (by kernel_rfl) (by kernel_rfl) ⟨rfl, b11.out⟩
    · refine rgd_pure 35 (some 53) rfl rfl (.int .i64 (s2.1.length : Int)) (by kernel_rfl) (by kernel_rfl) (by kernel_rfl) (fun _ _ _ _ h => h) (by kernel_rfl) (fun _ => by kernel_rfl) R10 ?_
      refine rg_call 30 (by kernel_rfl) rfl (by kernel_rfl) 36 #[.pointer (some ⟨B, 0, none⟩)] (by kernel_rfl) (left_any B s2 w10 D10) ?_
      rintro e w' ⟨rfl, rfl⟩
      refine ⟨_, rfl, R10, ?_⟩
      refine rgd_pure 36 (some 54) rfl rfl (.bool true) (by kernel_rfl) (by kernel_rfl) (by kernel_rfl) (fun _ _ _ _ h => h) (by kernel_rfl) (exec_eqlI _ _ _ _ rfl (s2.1.length : Int) (by kernel_rfl) (by kernel_rfl)) R10 ?_
      refine rgd_pure 37 (some 55) rfl rfl (.bool true) (by kernel_rfl) (by kernel_rfl) (by kernel_rfl) (fun _ _ _ _ h => h) (by kernel_rfl) (fun _ => by kernel_rfl) R10 ?_
      refine rgd_pure 38 (some 56) rfl rfl (.bool true) (by kernel_rfl) (by kernel_rfl) (by kernel_rfl) (fun _ _ _ _ h => h) (by kernel_rfl) (fun _ => by kernel_rfl) R10 ?_
      refine rg_call 39 (by kernel_rfl) rfl (by kernel_rfl) 19 #[] (by kernel_rfl) (awake8 w10) ?_
      rintro e w11 ⟨rfl, hb11⟩
      have b11 := Lib.hid (thenBelow b10 hb11)
      refine ⟨_, rfl, (R10.later hb11), ?_⟩
      refine rgd_pure 40 (some 58) rfl rfl (.bool true) (by kernel_rfl) (by kernel_rfl) (by kernel_rfl) (fun _ _ _ _ h => h) (by kernel_rfl) (fun _ => by kernel_rfl) (R10.later hb11) ?_
      refine rgd_pure 41 (some 6) rfl rfl (.bool true) (by kernel_rfl) (by kernel_rfl) (by kernel_rfl) (fun _ _ _ _ h => h) (by kernel_rfl) (fun _ => by kernel_rfl) (R10.later hb11) ?_
      refine wpAnyH_done (by kernel_rfl) ?_ _
      clear hrr cl ce hb11 D10
      refine ‹∀ (a : Act) (w : World), Code.wp Try.prog Code.ret (bodyPost Try.prog Try.f6 (Yes W)) a w → _› _ _ ?_
      refine wp_ret ?_
      exact bodyPost_ret (v := .bool true) (by kernel_rfl) (by kernel_rfl) ⟨rfl, b11.out⟩
end Go.Proofs.Ytkkepfbckpmbhaa
