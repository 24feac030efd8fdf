/- The walk of StandingThen. -/
import Derived.Test.YtnjopndkommjnaaDoorWalkStandingBack
import Derived.Test.YtnjopndkommjnaaDoorStdThen
import Derived.Test.YtnjopndkommjnaaDoorStdEqC
namespace Go.Proofs.YtnjopndkommjnaaDoor
open Go Go.RowKit
set_option linter.unusedVariables false
set_option maxRecDepth 1000000

theorem then_good {a b c : List Ht} (ha : GoodH a) (hb : GoodH b) (hc : GoodH c) : thenH a (diffL a b) (diffL b c) = some (diffL a c) := by
  unfold thenH
  rw [back_good ha hb]
  simp only
  rw [back_good hb hc]
def thenL (a : List Ht) : Option (List Ht) → Option (List Chg)
  | none => none
  | some z => some (diffL a z)
theorem then_nil {a : List Ht} (ha : GoodH a) (l : List Chg) : thenH a [] l = thenL a (patchH a l) := by
  unfold thenH
  rw [patch_nil ha]
  simp only
  cases patchH a l <;> rfl
theorem few_three (G : Nat) (p q r : Option Addr) (n m k c d e : Nat) (w : World) (h0 : w.cell? ⟨G, 0, none⟩ = some (.slice p n c)) (h1 : w.cell? ⟨G, 1, none⟩ = some (.slice q m d)) (h2 : w.cell? ⟨G, 2, none⟩ = some (.slice r k e)) :
    Calls Tryd.prog 7 #[.slice (some ⟨G, 0, none⟩) 3 3] w fun e w' => e = .returned (.bool (decide (n ≤ 40) && (decide (m ≤ 40) && decide (k ≤ 40)))) ∧ w = w' := by
  have := few_is G [(p, n, c), (q, m, d), (r, k, e)] w (fun i hi => by
    match i, hi with
    | 0, _ => exact h0
    | 1, _ => exact h1
    | 2, _ => exact h2) (by simp)
  simpa [fewB] using this
set_option maxHeartbeats 8000000 in
theorem standingThen_walk (pa : Option Addr) (ca : Nat) (a : List Ht) (pb : Option Addr) (cb : Nat) (b : List Ht) (pc : Option Addr) (cc : Nat) (c : List Ht) (pl : Option Addr) (cl : Nat) (l : List Chg) (w : World) (h1 : HtsAt w pa a) (n1 : a.length ≤ ca) (h2 : HtsAt w pb b) (n2 : b.length ≤ cb) (h3 : HtsAt w pc c) (n3 : c.length ≤ cc) (h4 : ChgsAt w pl l) (n4 : l.length ≤ cl) (hP : Pow w) :
    Calls Tryd.prog 6 #[.slice pa a.length ca, .slice pb b.length cb, .slice pc c.length cc, .slice pl l.length cl] w (RetBool w true) := by
  have HA := Lib.hid h1; have HB := Lib.hid h2; have HC := Lib.hid h3; have HL := Lib.hid h4; have HP := Lib.hid hP
  clear h1 h2 h3 h4 hP n1 n2 n3 n4
  go_enter Tryd.func6, Tryd.ntmps6
  have b1 := below_alloc w (.cells #[.slice pa a.length ca, .slice pb b.length cb, .slice pc c.length cc] 22)
  have k1 := heap_alloc_new w (.cells #[.slice pa a.length ca, .slice pb b.length cb, .slice pc c.length cc] 22)
  have FW := Lib.hid (few_three w.heap.size pa pb pc a.length b.length c.length ca cb cc _ (cell_of_row _ w.heap.size 0 _ _ _ k1) (cell_of_row _ w.heap.size 1 _ _ _ k1) (cell_of_row _ w.heap.size 2 _ _ _ k1))
  have B1 := Lib.hid b1
  clear b1 k1
  have AW : Hid (∀ V : World, Below w.heap.size w V → Calls Tryd.prog 8 #[] V (RetBool V true)) := Lib.hid fun V hV => awake34_is V (HP.out.later hV)
  go_wp2_with fail
  refine FW.out.mono ?_
  rintro e w1 ⟨rfl, rfl⟩
  clear FW
  dsimp only
  generalize w.alloc (.cells #[.slice pa a.length ca, .slice pb b.length cb, .slice pc c.length cc] 22) = w1 at B1 ⊢
  by_cases hf : a.length ≤ 40 ∧ b.length ≤ 40 ∧ c.length ≤ 40
  · obtain ⟨f1, f2, f3⟩ := hf
    rw [decide_eq_true f1, decide_eq_true f2, decide_eq_true f3]
    by_cases h4 : l.length ≤ 40
    · have h4' : ¬ ((40 : Int) < (l.length : Int)) := by omega
      have GA := Lib.hid (good_is pa ca a w1 (HA.out.below B1.out) (by omega))
      have GB := Lib.hid (fun (V : World) (hV : Below w.heap.size w V) => good_is pb cb b V (HB.out.below hV) (by omega))
      have GC := Lib.hid (fun (V : World) (hV : Below w.heap.size w V) => good_is pc cc c V (HC.out.below hV) (by omega))
      obtain ⟨ga, hga⟩ : ∃ g, goodB a = g := ⟨_, rfl⟩
      obtain ⟨gb, hgb⟩ : ∃ g, goodB b = g := ⟨_, rfl⟩
      obtain ⟨gc, hgc⟩ : ∃ g, goodB c = g := ⟨_, rfl⟩
      rw [hga] at GA
      rw [hgb] at GB
      rw [hgc] at GC
      have EA := Lib.hid hga; have EB := Lib.hid hgb; have EC := Lib.hid hgc
      clear hga hgb hgc
      go_wp2_with fail
      refine GA.out.mono ?_
      rintro e w2 ⟨rfl, b2⟩
      have B2 := Lib.hid (thenBelow B1.out b2)
      clear GA b2
      dsimp only
      cases ga with
      | false =>
        go_wp2_with fail
        refine (AW.out _ B2.out).mono ?_
        rintro e w77 ⟨rfl, b77⟩
        have B77 := Lib.hid (thenBelow B2.out b77)
        clear AW b77
        dsimp only
        go_wp2
        go_ret
        exact ⟨rfl, B77.out⟩
      | true =>
        go_wp2_with fail
        refine (GB.out _ B2.out).mono ?_
        rintro e w3 ⟨rfl, b3⟩
        have B3 := Lib.hid (thenBelow B2.out b3)
        clear GB b3
        dsimp only
        cases gb with
        | false =>
          go_wp2_with fail
          refine (AW.out _ B3.out).mono ?_
          rintro e w77 ⟨rfl, b77⟩
          have B77 := Lib.hid (thenBelow B3.out b77)
          clear AW b77
          dsimp only
          go_wp2
          go_ret
          exact ⟨rfl, B77.out⟩
        | true =>
          go_wp2_with fail
          refine (GC.out _ B3.out).mono ?_
          rintro e w4 ⟨rfl, b4⟩
          have B4 := Lib.hid (thenBelow B3.out b4)
          clear GC b4
          dsimp only
          cases gc with
          | false =>
            go_wp2_with fail
            refine (AW.out _ B4.out).mono ?_
            rintro e w77 ⟨rfl, b77⟩
            have B77 := Lib.hid (thenBelow B4.out b77)
            clear AW b77
            dsimp only
            go_wp2
            go_ret
            exact ⟨rfl, B77.out⟩
          | true =>
            have gA := goodB_true.1 EA.out
            have gB := goodB_true.1 EB.out
            have gC := goodB_true.1 EC.out
            have d1 := diffL_len a b; have d2 := diffL_len b c; have d3 := diffL_len a c
            have TG := Lib.hid (then_good gA gB gC)
            have TN := Lib.hid (then_nil gA l)
            have DI := Lib.hid (diff_is pa pb ca cb a b w4 (HA.out.below B4.out) (by omega) (HB.out.below B4.out) (by omega))
            clear gA gB gC EA EB EC
            go_wp2_with fail
            refine DI.out.mono ?_
            rintro e w5 ⟨v5, rfl, o5, b5⟩
            have B5 := Lib.hid (thenBelow B4.out b5)
            obtain ⟨p5, c5, rfl, _, C5, _⟩ := own_atC o5
            have C5 := Lib.hid C5
            have DJ := Lib.hid (diff_is pb pc cb cc b c w5 (HB.out.below B5.out) (by omega) (HC.out.below B5.out) (by omega))
            clear DI o5 b5
            dsimp only
            go_wp2_with fail
            refine DJ.out.mono ?_
            rintro e w6 ⟨v6, rfl, o6, b6⟩
            have B6 := Lib.hid (thenBelow B5.out b6)
            obtain ⟨p6, c6, rfl, _, C6, _⟩ := own_atC o6
            have TH := Lib.hid (then_is pa p5 p6 ca c5 c6 a (diffL a b) (diffL b c) w6 (HA.out.below B6.out) (by omega) (C5.out.below b6) (by omega) C6 (by omega))
            rw [TG.out] at TH
            clear DJ o6 b6 C6 C5
            dsimp only
            go_wp2_with fail
            refine TH.out.mono ?_
            rintro e w7 ⟨v7, rfl, o7, b7⟩
            have B7 := Lib.hid (thenBelow B6.out b7)
            obtain ⟨p7, c7, rfl, _, C7, _⟩ := own_atC o7
            have C7 := Lib.hid C7
            have DK := Lib.hid (diff_is pa pc ca cc a c w7 (HA.out.below B7.out) (by omega) (HC.out.below B7.out) (by omega))
            clear TH o7 b7
            dsimp only
            go_wp2_with fail
            refine DK.out.mono ?_
            rintro e w8 ⟨v8, rfl, o8, b8⟩
            have B8 := Lib.hid (thenBelow B7.out b8)
            obtain ⟨p8, c8, rfl, _, C8, _⟩ := own_atC o8
            have EQ := Lib.hid (equalC_is p7 p8 c7 c8 (diffL a c) w8 (C7.out.below b8) C8 (by omega))
            clear DK o8 b8 C8 C7
            dsimp only
            go_wp2_with fail
            refine EQ.out.mono ?_
            rintro e w9 ⟨rfl, b9⟩
            have B9 := Lib.hid (thenBelow B8.out b9)
            have TM := Lib.hid (then_is pa none pl ca 0 cl a [] l w9 (HA.out.below B9.out) (by omega) ⟨fun q => absurd rfl q, fun _ => rfl⟩ (by simp) (HL.out.below B9.out) (by omega))
            have PT := Lib.hid (fun (V : World) (hV : Below w.heap.size w V) => patch_is pa pl ca cl a l V (HA.out.below hV) (by omega) (HL.out.below hV) (by omega))
            have PL := Lib.hid (fun r => @patchH_len a l r)
            rw [TN.out] at TM
            generalize patchH a l = R at TM PT PL
            have TM : Hid (Calls Tryd.prog 19 #[.slice pa a.length ca, .slice none 0 0, .slice pl l.length cl] w9 (RetThen w9 (thenL a R))) := TM
            clear EQ b9 TN
            dsimp only
            cases R with
            | none =>
              go_wp2_with fail
              refine TM.out.mono ?_
              rintro e w10 ⟨rfl, b10⟩
              have B10 := Lib.hid (thenBelow B9.out b10)
              clear TM b10
              dsimp only
              go_wp2_with fail
              refine (PT.out _ B10.out).mono ?_
              rintro e w11 ⟨rfl, b11⟩
              have B11 := Lib.hid (thenBelow B10.out b11)
              clear PT b11
              dsimp only
              go_wp2_with fail
              refine (AW.out _ B11.out).mono ?_
              rintro e w77 ⟨rfl, b77⟩
              have B77 := Lib.hid (thenBelow B11.out b77)
              clear AW b77
              dsimp only
              go_wp2
              go_ret
              exact ⟨rfl, B77.out⟩
            | some z =>
              have hz := PL.out z rfl
              have d4 := diffL_len a z
              go_wp2_with fail
              refine TM.out.mono ?_
              rintro e w10 ⟨v10, rfl, o10, b10⟩
              have B10 := Lib.hid (thenBelow B9.out b10)
              obtain ⟨p10, c10, rfl, _, C10, _⟩ := own_atC o10
              have C10 := Lib.hid C10
              clear TM o10 b10
              dsimp only
              go_wp2_with fail
              refine (PT.out _ B10.out).mono ?_
              rintro e w11 ⟨v11, rfl, o11, b11⟩
              have B11 := Lib.hid (thenBelow B10.out b11)
              obtain ⟨p11, c11, rfl, _, C11, _⟩ := own_atH o11
              have C10 := Lib.hid (C10.out.below b11)
              have DZ := Lib.hid (diff_is pa p11 ca c11 a z w11 (HA.out.below B11.out) (by omega) C11 (by omega))
              clear PT o11 b11 C11
              dsimp only
              go_wp2_with fail
              refine DZ.out.mono ?_
              rintro e w12 ⟨v12, rfl, o12, b12⟩
              have B12 := Lib.hid (thenBelow B11.out b12)
              obtain ⟨p12, c12, rfl, _, C12, _⟩ := own_atC o12
              have EZ := Lib.hid (equalC_is p10 p12 c10 c12 (diffL a z) w12 (C10.out.below b12) C12 (by omega))
              clear DZ o12 b12 C12 C10
              dsimp only
              go_wp2_with fail
              refine EZ.out.mono ?_
              rintro e w13 ⟨rfl, b13⟩
              have B13 := Lib.hid (thenBelow B12.out b13)
              clear EZ b13
              dsimp only
              go_wp2_with fail
              refine (AW.out _ B13.out).mono ?_
              rintro e w77 ⟨rfl, b77⟩
              have B77 := Lib.hid (thenBelow B13.out b77)
              clear AW b77
              dsimp only
              go_wp2
              go_ret
              exact ⟨rfl, B77.out⟩
    · have h4' : (40 : Int) < (l.length : Int) := by omega
      go_wp2_with fail
      refine (AW.out _ B1.out).mono ?_
      rintro e w77 ⟨rfl, b77⟩
      have B77 := Lib.hid (thenBelow B1.out b77)
      clear AW b77
      dsimp only
      go_wp2
      go_ret
      exact ⟨rfl, B77.out⟩
  · have e1 : (decide (a.length ≤ 40) && (decide (b.length ≤ 40) && decide (c.length ≤ 40))) = false := by
      rw [Bool.eq_false_iff]; simpa using hf
    rw [e1]
    clear hf e1
    go_wp2_with fail
    refine (AW.out _ B1.out).mono ?_
    rintro e w77 ⟨rfl, b77⟩
    have B77 := Lib.hid (thenBelow B1.out b77)
    clear AW b77
    dsimp only
    go_wp2
    go_ret
    exact ⟨rfl, B77.out⟩
end Go.Proofs.YtnjopndkommjnaaDoor
