/- The walk of BoxPours. -/
import Derived.Test.YtlojmngolgonlaaBoxCat
import Derived.Test.YtlojmngolgonlaaBoxPour
import Derived.Test.YtlojmngolgonlaaBoxEqS
import Derived.Test.YtlojmngolgonlaaBoxFilled
import Derived.Test.YtlojmngolgonlaaBoxAwake
import Derived.Test.YtlojmngolgonlaaBoxRegion
namespace Go.Proofs.Ytlojmngolgonlaa
open Go Go.RowKit Go.Conc
set_option linter.unusedVariables false

theorem int_range7p {n : Int} (h : (Lit.int .i64 n).wf = true) : -9223372036854775808 ≤ n ∧ n ≤ 9223372036854775807 := by
  simp [Lit.wf, IntKind.min, IntKind.max, IntKind.bits, IntKind.signed] at h; omega

/-- a box poured into itself -/
theorem pourS_self (a C cap : Nat) (gs : List Nat) (w : World) (h : Bx w a C cap gs) :
    Calls Try.prog 19 #[.pointer (some ⟨a, 0, none⟩), .pointer (some ⟨a, 0, none⟩)] w fun e w' => e = .returned (.int .i64 0) ∧ w' = w := by
  have L := Lib.hid (lineS_is a _ w h.line)
  have hq := fun (w : World) => run_eql_chan (P := Try.prog) w Try.underlying68 (some C) (some C)
  have hb : ((some C : Option Nat) == some C) = true := by simp
  simp only [hb] at hq
  clear hb h
  go_enter Try.func19, Try.ntmps19
  go_wp2_with fail
  refine L.out.mono ?_
  rintro e w' ⟨rfl, rfl⟩
  go_wp2_with fail
  refine L.out.mono ?_
  rintro e w' ⟨rfl, rfl⟩
  go_wp2
  go_ret
  exact ⟨rfl, rfl⟩

theorem vals_drop {V : Type} {enc : V → Value} {w : World} : ∀ {gs : List Nat} {vs : List V} (n : Nat), Vals enc w gs vs → Vals enc w (gs.drop n) (vs.drop n)
  | [], [], n, _ => by simp [Vals]
  | _ :: _, _ :: _, 0, h => h
  | _ :: _, _ :: _, n + 1, h => vals_drop n h.2
  | [], _ :: _, _, h => h.elim
  | _ :: _, [], _, h => h.elim
theorem vals_take {V : Type} {enc : V → Value} {w : World} : ∀ {gs : List Nat} {vs : List V} (n : Nat), Vals enc w gs vs → Vals enc w (gs.take n) (vs.take n)
  | [], [], n, _ => by simp [Vals]
  | _ :: _, _ :: _, 0, h => trivial
  | _ :: _, _ :: _, n + 1, h => ⟨h.1, vals_take n h.2⟩
  | [], _ :: _, _, h => h.elim
  | _ :: _, [], _, h => h.elim

set_option maxHeartbeats 8000000 in
set_option maxRecDepth 100000 in
theorem boxPours_walk (a b : Int) (p1 : Option Addr) (c1 : Nat) (l : List ByteArray) (p2 : Option Addr) (c2 : Nat) (m : List ByteArray) (W : World) (ha : (Lit.int .i64 a).wf = true) (hb : (Lit.int .i64 b).wf = true) (h1 : CameS W p1 c1 l) (h2 : CameS W p2 c2 m) :
    Calls Try.prog 4 #[.int .i64 a, .int .i64 b, .slice p1 l.length c1, .slice p2 m.length c2] W (Yes W) := by
  have har := int_range7p ha
  have hbr := int_range7p hb
  clear ha hb
  have hle1 := h1.le; have hle2 := h2.le; have hr1 := h1.reach; have hr2 := h2.reach
  obtain ⟨R1, hR1⟩ : ∃ R : Nat, (R : Int) = min (max a 0) 100 := ⟨(min (max a 0) 100).toNat, by omega⟩
  obtain ⟨R2, hR2⟩ : ∃ R : Nat, (R : Int) = min (max b 0) 100 := ⟨(min (max b 0) 100).toNat, by omega⟩
  have hR1' : R1 ≤ 100 := by omega
  have hR2' : R2 ≤ 100 := by omega
  have F1 := Lib.hid (filledS a p1 c1 l W h1.lies h1.none hle1 (by omega) R1 hR1 har.1 har.2)
  have L1 := Lib.hid h1.lies; have L2 := Lib.hid h2.lies; have N1 := Lib.hid h1.none; have N2 := Lib.hid h2.none
  have T1 : Hid ((l.take R1).length = min l.length R1) := by show (l.take R1).length = _; rw [List.length_take, Nat.min_comm]
  have T2 : Hid ((m.take R2).length = min m.length R2) := by show (m.take R2).length = _; rw [List.length_take, Nat.min_comm]
  have HRB := Lib.hid hbr; have HLE2 := Lib.hid hle2; have HR2 := Lib.hid hR2; have HC2 := Lib.hid hr2
  have key : (b < 0 ∧ R2 = 0) ∨ ((0 ≤ b ∧ b ≤ 100) ∧ (R2 : Int) = b) ∨ (100 < b ∧ R2 = 100) := by omega
  obtain ⟨n, hn⟩ : ∃ n, n = min (min l.length R1) (R2 - min m.length R2) := ⟨_, rfl⟩
  have HN := Lib.hid hn
  obtain ⟨har1, har2⟩ := har
  obtain ⟨hbr1, hbr2⟩ := hbr
  have hX : min l.length R1 ≤ c1 := by omega
  have hY : min m.length R2 ≤ c2 := by omega
  have hX2 : min l.length R1 ≤ 100 := by omega
  have hY2 : min m.length R2 ≤ R2 := by omega
  have hc1 : c1 ≤ 9223372036854775807 := by omega
  have hc2 : c2 ≤ 9223372036854775807 := by omega
  clear h1 h2 hr1 hr2 hle1 hle2 hR1 hR2 hn
  generalize hA : min l.length R1 = A at T1 HN hX hX2 F1
  generalize hB : min m.length R2 = B at T2 HN hY hY2
  have HB := Lib.hid hB
  have HA := Lib.hid hA
  have G1 : Hid (Calls Try.prog 18 #[.int .i64 a, .slice p1 l.length c1] W fun e w' => ∃ x C gs, e = .returned (.tuple #[.pointer (some ⟨x, 0, none⟩), .slice p1 A c1]) ∧ W.heap.size ≤ x ∧ W.heap.size ≤ C ∧ Bx w' x C R1 gs ∧ Vals encS w' gs (l.take R1) ∧ Below W.heap.size W w') := by
    have := F1.out
    unfold FilledTo at this
    simp only [HA.out] at this
    exact this
  have G2 : Hid (∀ w, Below W.heap.size W w → Calls Try.prog 18 #[.int .i64 b, .slice p2 m.length c2] w fun e w' => ∃ x C gs, e = .returned (.tuple #[.pointer (some ⟨x, 0, none⟩), .slice p2 B c2]) ∧ w.heap.size ≤ x ∧ w.heap.size ≤ C ∧ Bx w' x C R2 gs ∧ Vals encS w' gs (m.take R2) ∧ Below w.heap.size w w') := by
    intro w hw
    have := filledS b p2 c2 m w (L2.out.below hw) N2.out HLE2.out (by have := HC2.out; omega) R2 HR2.out HRB.out.1 HRB.out.2
    unfold FilledTo at this
    simp only [HB.out] at this
    exact this
  have T1' : Hid ((l.take R1).length = A) := T1
  have T2' : Hid ((m.take R2).length = B) := T2
  clear hA hB F1 T1 T2
  go_enter Try.func4, Try.ntmps4
  go_wp2_with fail
  refine G1.out.mono ?_
  rintro e w1 ⟨x1, C1, gs1, rfl, hx1, hC1, hb1, hv1, hbel1⟩
  have X1 := Lib.hid hb1; have V1 := Lib.hid hv1; have B1 := Lib.hid hbel1
  clear hb1 hv1 hbel1 G1
  go_wp2_with fail
  refine (G2.out w1 B1.out).mono ?_
  rintro e w2 ⟨x2, C2, gs2, rfl, hx2, hC2, hb2, hv2, hbel2⟩
  have hne : C1 ≠ C2 := by have := X1.out.lt; omega
  have hg1 : gs1.length = A := V1.out.len.trans T1'.out
  have hg2 : gs2.length = B := Vals.len hv2 |>.trans T2'.out
  have B2 := Lib.hid (thenBelow B1.out hbel2)
  have PP := Lib.hid (pourS W.heap.size x1 C1 R1 x2 C2 R2 gs1 gs2 w2 (X1.out.below hbel2) hb2 hne hC1 (Nat.le_trans B1.out.size hC2) B2.out.size (by omega) (by omega) n (by rw [hg1, hg2]; exact HN.out))
  have V1b := Lib.hid (V1.out.below hbel2)
  have hWC2 : W.heap.size ≤ C2 := Nat.le_trans B1.out.size hC2
  have V2 := Lib.hid hv2
  have HG1 := Lib.hid hg1; have HG2 := Lib.hid hg2
  clear hb2 hv2 hbel2 hg1 hg2 X1 V1 B1 G2
  have hn2 : (A ≤ R2 - B ∧ n = A) ∨ (R2 - B < A ∧ n = R2 - B) := by have := HN.out; omega
  obtain ⟨D, hD⟩ : ∃ D, D = R2 - B := ⟨_, rfl⟩
  rw [← hD] at hn2
  rcases key with ⟨k1, k2⟩ | ⟨⟨k1, k2⟩, k3⟩ | ⟨k1, k2⟩
  all_goals
    rcases hn2 with ⟨k4, k5⟩ | ⟨k4, k5⟩
    all_goals
      go_wp2_with fail
      first
      | (have e : (A : Int) = n := by omega
         simp only [e])
      | (have e : b - (B : Int) = n := by omega
         simp only [e])
      | (have e : (100 : Int) - (B : Int) = n := by omega
         simp only [e])
      | (have e : -(B : Int) = n := by omega
         simp only [e])
      clear e
      have hnA : n ≤ A := by omega
      have hBn : B + n ≤ R2 := by omega
      clear k1 k2 k4 k5 hD
      refine PP.out.mono ?_
      rintro e w3 ⟨rfl, hx3, hy3, hb3, hcs3⟩
      have X3 := Lib.hid hx3; have Y3 := Lib.hid hy3; have B3 := Lib.hid (B2.out.trans hb3)
      have V3 := Lib.hid (vals_drop n (V1b.out.imp (fun g v hv => hcs3 _ _ _ hv)))
      have U3 := Lib.hid (Vals.append (vals_take n (V1b.out.imp (fun g v hv => hcs3 _ _ _ hv))) (V2.out.imp (fun g v hv => hcs3 _ _ _ hv)))
      have S := Lib.hid (pourS_self x1 C1 R1 (gs1.drop n) w3 X3.out)
      clear hx3 hy3 hb3 hcs3 PP
      go_wp2_with fail
      refine S.out.mono ?_
      rintro e w' ⟨rfl, hw'⟩
      subst w'
      clear S
      go_wp2
      have hz3 := B3.out.size
      have TX : Hid ((List.drop n (List.take R1 l)).length = A - n) := by show (List.drop n (List.take R1 l)).length = _; rw [List.length_drop, T1'.out]
      have TY : Hid ((List.take R2 m ++ List.take n (List.take R1 l)).length = B + n) := by show (List.take R2 m ++ List.take n (List.take R1 l)).length = _; rw [List.length_append, T2'.out, List.length_take, T1'.out]; omega
      generalize hXS : List.drop n (List.take R1 l) = XS at TX V3
      generalize hYS : List.take R2 m ++ List.take n (List.take R1 l) = YS at TY U3
      have B3d : Below W.heap.size W w3.drew := B3.out.drew
      have X3d := X3.out.below (Below.refl w3.heap.size w3).drew
      have Y3d := Y3.out.below (Below.refl w3.heap.size w3).drew
      have LX := listS x1 C1 R1 _ _ w3.drew X3d (V3.out.below (Below.refl w3.heap.size w3).drew) (by omega)
      have hxl : XS.length ≤ 9223372036854775806 := by have := TX.out; omega
      have hyl : YS.length ≤ 9223372036854775806 := by have := TY.out; omega
      have LF : Hid (LiesS W (fromAt p1 c1 n) XS) := by rw [← hXS]; exact liesS_from (liesS_take L1.out R1) c1 n (by rw [T1'.out]; exact hX)
      have LT : Hid (LiesS W p1 (List.take n (List.take R1 l))) := liesS_take (liesS_take L1.out R1) n
      have LU : Hid (LiesS W p2 (List.take R2 m)) := liesS_take L2.out R2
      have TN : Hid ((List.take n (List.take R1 l)).length = n) := by show (List.take n (List.take R1 l)).length = n; rw [List.length_take, T1'.out]; omega
      have NT : p1 = none → List.take n (List.take R1 l) = [] ∧ c1 = 0 := fun e => by obtain ⟨h1, h2⟩ := N1.out e; rw [h1]; simp [h2]
      have NU : p2 = none → List.take R2 m = [] ∧ c2 = 0 := fun e => by obtain ⟨h1, h2⟩ := N2.out e; rw [h1]; simp [h2]
      refine wp_region_free (n := 21) (by kernel_rfl) rfl ?_
      refine wpAnyH_pure (i := 0) rfl (.pointer (some ⟨x1, 0, none⟩)) (by kernel_rfl) (by kernel_rfl) (by kernel_rfl) (fun _ _ _ _ h => h) (by kernel_rfl) (fun _ => by kernel_rfl) ?_
      refine wpAnyH_pure (i := 2) rfl (.slice p1 A c1) (by kernel_rfl) (by kernel_rfl) (by kernel_rfl) (fun _ _ _ _ h => h) (by kernel_rfl) (fun _ => by kernel_rfl) ?_
      refine wpAnyH_pure (i := 3) rfl (.int .i64 (n : Int)) (by kernel_rfl) (by kernel_rfl) (by kernel_rfl) (fun _ _ _ _ h => h) (by kernel_rfl) (fun _ => by kernel_rfl) ?_
      refine wpAnyH_cutFrom (i := 4) rfl (by kernel_rfl) (by kernel_rfl) (by kernel_rfl) (fun _ _ _ _ h => h) (by kernel_rfl) _ _ rfl p1 A c1 n XS.length (by kernel_rfl) (by kernel_rfl) hnA TX.out ?_
      refine wpAnyH_call1 1 (by kernel_rfl) rfl (by kernel_rfl) 21 #[.pointer (some ⟨x1, 0, none⟩)] (by kernel_rfl) LX ?_
      rintro e w5 ⟨v5, rfl, ho5, hx5, hv5, hg5⟩
      obtain ⟨pv, cv, rfl, hcv, hlv, hL5⟩ := liesS_own (l := XS) ho5
      have b5 : Below W.heap.size W w5 := B3d.grown hg5 B3d.size (fun k hk => by have := Option.some.inj hk; omega)
      have Y5 := Y3d.kept hg5 (fun e => hne (Option.some.inj e).symm) (fun e => X3d.ne Y3d.line (Option.some.inj e))
      have U5 := (U3.out.below (Below.refl w3.heap.size w3).drew).cell X3d hg5
      refine ⟨_, rfl, ?_⟩
      refine wpAnyH_call1 5 (by kernel_rfl) rfl (by kernel_rfl) 20 #[.slice pv XS.length cv, .slice (fromAt p1 c1 n) XS.length (c1 - n)] (by kernel_rfl) (equalS_same pv (fromAt p1 c1 n) cv (c1 - n) XS w5 hL5 (LF.out.below b5) hxl) ?_
      rintro e w6 ⟨rfl, hb6⟩
      have b6 := thenBelow b5 hb6
      have Y6 := Y5.below hb6
      have U6 := U5.below hb6
      have hz6 := b6.size
      refine ⟨_, rfl, ?_⟩
      refine wpAnyH_pure (i := 6) rfl (.bool true) (by kernel_rfl) (by kernel_rfl) (by kernel_rfl) (fun _ _ _ _ h => h) (by kernel_rfl) (fun _ => by kernel_rfl) ?_
      refine wpAnyH_pure (i := 7) rfl (.pointer (some ⟨x2, 0, none⟩)) (by kernel_rfl) (by kernel_rfl) (by kernel_rfl) (fun _ _ _ _ h => h) (by kernel_rfl) (fun _ => by kernel_rfl) ?_
      refine wpAnyH_pure (i := 9) rfl (.slice p2 B c2) (by kernel_rfl) (by kernel_rfl) (by kernel_rfl) (fun _ _ _ _ h => h) (by kernel_rfl) (fun _ => by kernel_rfl) ?_
      refine wpAnyH_pure (i := 10) rfl (.slice p1 A c1) (by kernel_rfl) (by kernel_rfl) (by kernel_rfl) (fun _ _ _ _ h => h) (by kernel_rfl) (fun _ => by kernel_rfl) ?_
      refine wpAnyH_pure (i := 11) rfl (.int .i64 (n : Int)) (by kernel_rfl) (by kernel_rfl) (by kernel_rfl) (fun _ _ _ _ h => h) (by kernel_rfl) (fun _ => by kernel_rfl) ?_
      refine wpAnyH_cutTo (i := 12) rfl (by kernel_rfl) (by kernel_rfl) (by kernel_rfl) (fun _ _ _ _ h => h) (by kernel_rfl) _ _ rfl p1 A c1 n (by kernel_rfl) (by kernel_rfl) (Nat.le_trans hnA hX) ?_
      have LY := listS x2 C2 R2 _ _ w6 Y6 U6 (by omega)
      refine wpAnyH_two 8 13 (by kernel_rfl) rfl (by kernel_rfl) 21 #[.pointer (some ⟨x2, 0, none⟩)] (by kernel_rfl) LY rfl (by kernel_rfl) (.slice (some ⟨w6.heap.size, 0, none⟩) 2 2) (w6.alloc (.cells #[.slice p2 B c2, .slice p1 n c1] 40)) (by kernel_rfl) ?_ ?_
      · rintro e w7 ⟨v7, rfl, ho7, hy7, hu7, hg7⟩
        obtain ⟨pw, cw, rfl, hcw, hlw, hL7⟩ := liesS_own (l := YS) ho7
        have b7 : Below W.heap.size W w7 := b6.grown hg7 b6.size (fun k hk => by have := Option.some.inj hk; omega)
        refine ⟨_, rfl, ?_⟩
        refine wpAnyH_run1 13 (by kernel_rfl) rfl (by kernel_rfl) (.slice (some ⟨w7.heap.size, 0, none⟩) 2 2) (w7.alloc (.cells #[.slice p2 B c2, .slice p1 n c1] 40)) (by kernel_rfl) ?_
        have pr := pair_at w7 (.slice p2 B c2) (.slice p1 n c1) 40
        have a8 : Below w7.heap.size w7 (w7.alloc (.cells #[.slice p2 B c2, .slice p1 n c1] 40)) := (Below.refl _ _).alloc (Nat.le_refl _) _
        have b8 := thenBelow b7 a8
        have L8 := hL7.below a8
        generalize w7.alloc (.cells #[.slice p2 B c2, .slice p1 n c1] 40) = w8 at pr b8 L8 ⊢
        clear a8
        refine wpAnyH_call1 14 (by kernel_rfl) rfl (by kernel_rfl) 22 #[.slice (some ⟨w7.heap.size, 0, none⟩) 2 2] (by kernel_rfl) (concatS w7.heap.size 2 c2 c1 p2 p1 _ _ w8 (LU.out.below b8) (LT.out.below b8) NU NT (by rw [T2'.out]; omega) (by rw [TN.out]; omega) (by rw [T2'.out]; exact pr.1) (by rw [TN.out]; exact pr.2)) ?_
        rintro e w9 ⟨p9, c9, rfl, hL9, hb9⟩
        rw [hYS] at hL9
        have b9 := thenBelow b8 hb9
        refine ⟨.slice p9 YS.length c9, by rw [hYS], ?_⟩
        refine wpAnyH_call1 15 (by kernel_rfl) rfl (by kernel_rfl) 20 #[.slice pw YS.length cw, .slice p9 YS.length c9] (by kernel_rfl) (equalS_same pw p9 cw c9 YS w9 (L8.below hb9) hL9 hyl) ?_
        rintro e w10 ⟨rfl, hb10⟩
        have b10 := thenBelow b9 hb10
        refine ⟨_, rfl, ?_⟩
        refine wpAnyH_pure (i := 16) rfl (.bool true) (by kernel_rfl) (by kernel_rfl) (by kernel_rfl) (fun _ _ _ _ h => h) (by kernel_rfl) (fun _ => by kernel_rfl) ?_
        refine wpAnyH_pure (i := 17) rfl (.bool true) (by kernel_rfl) (by kernel_rfl) (by kernel_rfl) (fun _ _ _ _ h => h) (by kernel_rfl) (fun _ => by kernel_rfl) ?_
        refine wpAnyH_call1 18 (by kernel_rfl) rfl (by kernel_rfl) 17 #[] (by kernel_rfl) (awake7 w10) ?_
        rintro e w11 ⟨rfl, hb11⟩
        have b11 := thenBelow b10 hb11
        refine ⟨_, rfl, ?_⟩
        refine wpAnyH_pure (i := 19) rfl (.bool true) (by kernel_rfl) (by kernel_rfl) (by kernel_rfl) (fun _ _ _ _ h => h) (by kernel_rfl) (fun _ => by kernel_rfl) ?_
        refine wpAnyH_pure (i := 20) rfl (.bool true) (by kernel_rfl) (by kernel_rfl) (by kernel_rfl) (fun _ _ _ _ h => h) (by kernel_rfl) (fun _ => by kernel_rfl) ?_
        refine wpAnyH_done (by kernel_rfl) ?_ _
        clear ho7 hy7 hu7 hg7 hL7 hL9 L8
        go_wp2
        go_ret
        exact ⟨rfl, b11⟩
      · have pr := pair_at w6 (.slice p2 B c2) (.slice p1 n c1) 40
        have a7 : Below w6.heap.size w6 (w6.alloc (.cells #[.slice p2 B c2, .slice p1 n c1] 40)) := (Below.refl _ _).alloc (Nat.le_refl _) _
        have b7 := thenBelow b6 a7
        have Y7 := Y6.below a7
        have U7 := U6.below a7
        have hc7 : C2 < w6.heap.size := Y6.lt
        generalize w6.alloc (.cells #[.slice p2 B c2, .slice p1 n c1] 40) = w7 at pr b7 Y7 U7 ⊢
        clear a7
        have LY := listS x2 C2 R2 _ _ w7 Y7 U7 (by omega)
        refine wpAnyH_call1 8 (by kernel_rfl) rfl (by kernel_rfl) 21 #[.pointer (some ⟨x2, 0, none⟩)] (by kernel_rfl) LY ?_
        rintro e w8 ⟨v7, rfl, ho7, hy7, hu7, hg7⟩
        obtain ⟨pw, cw, rfl, hcw, hlw, hL7⟩ := liesS_own (l := YS) ho7
        have b8 : Below W.heap.size W w8 := b7.grown hg7 b7.size (fun k hk => by have := Option.some.inj hk; omega)
        have L8 := hL7
        have pr1 := Y7.cell hg7 pr.1
        have pr2 := Y7.cell hg7 pr.2
        refine ⟨_, rfl, ?_⟩
        refine wpAnyH_call1 14 (by kernel_rfl) rfl (by kernel_rfl) 22 #[.slice (some ⟨w6.heap.size, 0, none⟩) 2 2] (by kernel_rfl) (concatS w6.heap.size 2 c2 c1 p2 p1 _ _ w8 (LU.out.below b8) (LT.out.below b8) NU NT (by rw [T2'.out]; omega) (by rw [TN.out]; omega) (by rw [T2'.out]; exact pr1) (by rw [TN.out]; exact pr2)) ?_
        rintro e w9 ⟨p9, c9, rfl, hL9, hb9⟩
        rw [hYS] at hL9
        have b9 := thenBelow b8 hb9
        refine ⟨.slice p9 YS.length c9, by rw [hYS], ?_⟩
        refine wpAnyH_call1 15 (by kernel_rfl) rfl (by kernel_rfl) 20 #[.slice pw YS.length cw, .slice p9 YS.length c9] (by kernel_rfl) (equalS_same pw p9 cw c9 YS w9 (L8.below hb9) hL9 hyl) ?_
        rintro e w10 ⟨rfl, hb10⟩
        have b10 := thenBelow b9 hb10
        refine ⟨_, rfl, ?_⟩
        refine wpAnyH_pure (i := 16) rfl (.bool true) (by kernel_rfl) (by kernel_rfl) (by kernel_rfl) (fun _ _ _ _ h => h) (by kernel_rfl) (fun _ => by kernel_rfl) ?_
        refine wpAnyH_pure (i := 17) rfl (.bool true) (by kernel_rfl) (by kernel_rfl) (by kernel_rfl) (fun _ _ _ _ h => h) (by kernel_rfl) (fun _ => by kernel_rfl) ?_
        refine wpAnyH_call1 18 (by kernel_rfl) rfl (by kernel_rfl) 17 #[] (by kernel_rfl) (awake7 w10) ?_
        rintro e w11 ⟨rfl, hb11⟩
        have b11 := thenBelow b10 hb11
        refine ⟨_, rfl, ?_⟩
        refine wpAnyH_pure (i := 19) rfl (.bool true) (by kernel_rfl) (by kernel_rfl) (by kernel_rfl) (fun _ _ _ _ h => h) (by kernel_rfl) (fun _ => by kernel_rfl) ?_
        refine wpAnyH_pure (i := 20) rfl (.bool true) (by kernel_rfl) (by kernel_rfl) (by kernel_rfl) (fun _ _ _ _ h => h) (by kernel_rfl) (fun _ => by kernel_rfl) ?_
        refine wpAnyH_done (by kernel_rfl) ?_ _
        clear ho7 hy7 hu7 hg7 hL7 hL9 L8
        go_wp2
        go_ret
        exact ⟨rfl, b11⟩
end Go.Proofs.Ytlojmngolgonlaa
