/- The walk of StandingBack. -/
import Derived.Test.YtnjopndkommjnaaDoorStdAwake
import Derived.Test.YtnjopndkommjnaaDoorStdFew
import Derived.Test.YtnjopndkommjnaaDoorStdGood
import Derived.Test.YtnjopndkommjnaaDoorStdPatch
import Derived.Test.YtnjopndkommjnaaDoorStdEqH
import Derived.Test.YtnjopndkommjnaaDoorStdOpen
namespace Go.Proofs.YtnjopndkommjnaaDoor
open Go Go.RowKit
set_option linter.unusedVariables false
set_option maxRecDepth 1000000

theorem cameL_len (old now : List Ht) : (cameL old now).length ≤ now.length := by
  induction now with
  | nil => exact Nat.le_refl _
  | cons h l ih =>
    have h1 : (cameOf old h).length ≤ 1 := by
      unfold cameOf
      split
      · simp
      · split <;> simp
    unfold cameL at ih ⊢
    rw [List.flatMap_cons, List.length_append, List.length_cons]
    omega
theorem diffL_len (old now : List Ht) : (diffL old now).length ≤ old.length + now.length := by
  unfold diffL
  rw [isrt_len, List.length_append]
  have := wentL_len old now
  have := cameL_len old now
  omega
set_option maxHeartbeats 4000000 in
theorem standingBack_walk (p : Option Addr) (c : Nat) (old : List Ht) (q : Option Addr) (d : Nat) (now : List Ht) (w : World) (h1 : HtsAt w p old) (n1 : old.length ≤ c) (h2 : HtsAt w q now) (n2 : now.length ≤ d) (hP : Pow w) :
    Calls Tryd.prog 5 #[.slice p old.length c, .slice q now.length d] w (RetBool w true) := by
  have H1 := Lib.hid h1; have H2 := Lib.hid h2; have HP := Lib.hid hP
  clear h1 h2 hP n1 n2
  go_enter Tryd.func5, Tryd.ntmps5
  have b1 := below_alloc w (.cells #[.slice p old.length c, .slice q now.length d] 22)
  have k1 := heap_alloc_new w (.cells #[.slice p old.length c, .slice q now.length d] 22)
  have FW := Lib.hid (few_two w.heap.size p q old.length now.length c d _ (cell_of_row _ w.heap.size 0 _ _ _ k1) (cell_of_row _ w.heap.size 1 _ _ _ k1))
  have B1 := Lib.hid b1
  clear b1 k1
  have AW : Hid (∀ V : World, Below w.heap.size w V → Calls Tryd.prog 8 #[] V (RetBool V true)) := Lib.hid fun V hV => awake34_is V (HP.out.later hV)
  go_wp2_with fail
  refine FW.out.mono ?_
  rintro e w1 ⟨rfl, rfl⟩
  clear FW
  dsimp only
  generalize w.alloc (.cells #[.slice p old.length c, .slice q now.length d] 22) = w1 at B1 ⊢
  by_cases hf : old.length ≤ 40 ∧ now.length ≤ 40
  · obtain ⟨f1, f2⟩ := hf
    rw [decide_eq_true f1, decide_eq_true f2]
    have GD := Lib.hid (good_is p c old w1 (H1.out.below B1.out) (by omega))
    have GN := Lib.hid (fun (V : World) (hV : Below w.heap.size w V) => good_is q d now V (H2.out.below hV) (by omega))
    obtain ⟨g1, hg1⟩ : ∃ g, goodB old = g := ⟨_, rfl⟩
    obtain ⟨g2, hg2⟩ : ∃ g, goodB now = g := ⟨_, rfl⟩
    rw [hg1] at GD
    rw [hg2] at GN
    have E1 := Lib.hid hg1; have E2 := Lib.hid hg2
    clear hg1 hg2
    go_wp2_with fail
    refine GD.out.mono ?_
    rintro e w2 ⟨rfl, b2⟩
    have B2 := Lib.hid (thenBelow B1.out b2)
    clear GD b2
    dsimp only
    cases g1 with
    | false =>
      go_wp2_with fail
      refine (AW.out _ B2.out).mono ?_
      rintro e w7 ⟨rfl, b7⟩
      have B7 := Lib.hid (thenBelow B2.out b7)
      clear AW b7
      dsimp only
      go_wp2
      go_ret
      exact ⟨rfl, B7.out⟩
    | true =>
      go_wp2_with fail
      refine (GN.out _ B2.out).mono ?_
      rintro e w3 ⟨rfl, b3⟩
      have B3 := Lib.hid (thenBelow B2.out b3)
      clear GN b3
      dsimp only
      cases g2 with
      | false =>
        go_wp2_with fail
        refine (AW.out _ B3.out).mono ?_
        rintro e w7 ⟨rfl, b7⟩
        have B7 := Lib.hid (thenBelow B3.out b7)
        clear AW b7
        dsimp only
        go_wp2
        go_ret
        exact ⟨rfl, B7.out⟩
      | true =>
        have GH1 := goodB_true.1 E1.out
        have GH2 := goodB_true.1 E2.out
        have hdl := diffL_len old now
        have BK := Lib.hid (back_good GH1 GH2)
        have SF := Lib.hid (diff_self GH1.ids)
        have DI := Lib.hid (diff_is p q c d old now w3 (H1.out.below B3.out) (by omega) (H2.out.below B3.out) (by omega))
        clear GH1 GH2
        go_wp2_with fail
        refine DI.out.mono ?_
        rintro e w4 ⟨v4, rfl, o4, b4⟩
        have B4 := Lib.hid (thenBelow B3.out b4)
        obtain ⟨p4, c4, rfl, _, C4, _⟩ := own_atC o4
        have PA := Lib.hid (patch_is p p4 c c4 old (diffL old now) w4 (H1.out.below B4.out) (by omega) C4 (by omega))
        rw [BK.out] at PA
        clear DI o4 b4 C4
        dsimp only
        go_wp2_with fail
        refine PA.out.mono ?_
        rintro e w5 ⟨v5, rfl, o5, b5⟩
        have B5 := Lib.hid (thenBelow B4.out b5)
        obtain ⟨p5, c5, rfl, _, C5, _⟩ := own_atH o5
        have EQ := Lib.hid (equalH_is p5 q c5 d now w5 C5 (H2.out.below B5.out) (by omega))
        clear PA o5 b5 C5
        dsimp only
        go_wp2_with fail
        refine EQ.out.mono ?_
        rintro e w6 ⟨rfl, b6⟩
        have B6 := Lib.hid (thenBelow B5.out b6)
        have DS := Lib.hid (diff_is p p c c old old w6 (H1.out.below B6.out) (by omega) (H1.out.below B6.out) (by omega))
        rw [SF.out] at DS
        clear EQ b6
        dsimp only
        go_wp2_with fail
        refine DS.out.mono ?_
        rintro e w7 ⟨v7, rfl, o7, b7⟩
        have B7 := Lib.hid (thenBelow B6.out b7)
        obtain ⟨p7, c7, hv7⟩ := own_slice o7
        have hv7 : v7 = .slice p7 0 c7 := by
          rcases o7.2 with ⟨h0, _⟩ | ⟨g, cap, cur, h0, _⟩
          · rw [h0] at hv7 ⊢; injection hv7 with a1 a2 a3; rw [← a1, ← a3]
          · rw [h0] at hv7 ⊢; injection hv7 with a1 a2 a3; rw [← a1, ← a3]; rfl
        subst hv7
        clear DS o7 b7
        dsimp only
        go_wp2_with fail
        refine (AW.out _ B7.out).mono ?_
        rintro e w8 ⟨rfl, b8⟩
        have B8 := Lib.hid (thenBelow B7.out b8)
        clear AW b8
        dsimp only
        go_wp2
        go_ret
        exact ⟨rfl, B8.out⟩
  · have e1 : (decide (old.length ≤ 40) && decide (now.length ≤ 40)) = false := by
      rw [Bool.eq_false_iff]; simpa using hf
    rw [e1]
    clear hf e1
    go_wp2_with fail
    refine (AW.out _ B1.out).mono ?_
    rintro e w7 ⟨rfl, b7⟩
    have B7 := Lib.hid (thenBelow B1.out b7)
    clear AW b7
    dsimp only
    go_wp2
    go_ret
    exact ⟨rfl, B7.out⟩
end Go.Proofs.YtnjopndkommjnaaDoor
