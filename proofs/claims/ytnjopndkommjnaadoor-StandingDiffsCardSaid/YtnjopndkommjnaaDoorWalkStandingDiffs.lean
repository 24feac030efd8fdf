/- The walk of StandingDiffs. -/
import Derived.Test.YtnjopndkommjnaaDoorStdAwake
import Derived.Test.YtnjopndkommjnaaDoorStdFew
import Derived.Test.YtnjopndkommjnaaDoorStdGood
import Derived.Test.YtnjopndkommjnaaDoorRfDiff
import Derived.Test.YtnjopndkommjnaaDoorRfGood
import Derived.Test.YtnjopndkommjnaaDoorStdEqC
import Derived.Test.YtnjopndkommjnaaDoorStdOpen
namespace Go.Proofs.YtnjopndkommjnaaDoor
open Go Go.RowKit
set_option linter.unusedVariables false
set_option maxRecDepth 1000000

theorem cameL_len (old now : List Ht) : (cameL old now).length ≤ now.length := by
  induction now with
  | nil => exact Nat.le_refl _
  | cons h l ih =>
    have h1 : (cameOf old h).length ≤ 1 := by
      unfold cameOf
      split
      · simp
      · split <;> simp
    unfold cameL at ih ⊢
    rw [List.flatMap_cons, List.length_append, List.length_cons]
    omega
set_option maxHeartbeats 4000000 in
theorem standingDiffs_walk (p : Option Addr) (c : Nat) (old : List Ht) (q : Option Addr) (d : Nat) (now : List Ht) (w : World) (h1 : HtsAt w p old) (n1 : old.length ≤ c) (h2 : HtsAt w q now) (n2 : now.length ≤ d) (hP : Pow w) :
    Calls Tryd.prog 3 #[.slice p old.length c, .slice q now.length d] w (RetBool w true) := by
  have H1 := Lib.hid h1; have H2 := Lib.hid h2; have HP := Lib.hid hP; have C1 := Lib.hid n1
  clear h1 h2 hP n1
  go_enter Tryd.func3, Tryd.ntmps3
  have b1 := below_alloc w (.cells #[.slice p old.length c, .slice q now.length d] 22)
  have k1 := heap_alloc_new w (.cells #[.slice p old.length c, .slice q now.length d] 22)
  have FW := Lib.hid (few_two w.heap.size p q old.length now.length c d _ (cell_of_row _ w.heap.size 0 _ _ _ k1) (cell_of_row _ w.heap.size 1 _ _ _ k1))
  have B1 := Lib.hid b1
  clear b1 k1
  go_wp2_with fail
  refine FW.out.mono ?_
  rintro e w1 ⟨rfl, rfl⟩
  clear FW
  dsimp only
  generalize w.alloc (.cells #[.slice p old.length c, .slice q now.length d] 22) = w1 at B1 ⊢
  by_cases hf : old.length ≤ 40 ∧ now.length ≤ 40
  · obtain ⟨f1, f2⟩ := hf
    rw [decide_eq_true f1, decide_eq_true f2]
    have DI := Lib.hid (diff_is p q c d old now w1 (H1.out.below B1.out) (by omega) (H2.out.below B1.out) (by omega))
    go_wp2_with fail
    refine DI.out.mono ?_
    rintro e w2 ⟨v2, rfl, o2, b2⟩
    have B2 := Lib.hid (thenBelow B1.out b2)
    obtain ⟨p2, c2, rfl, _, C2, _⟩ := own_atC o2
    have CC2 := Lib.hid C2
    clear DI o2 b2 C2
    have RD := Lib.hid (refDiff34_is p q c d old now w2 (H1.out.below B2.out) (by omega) (H2.out.below B2.out) (by omega))
    dsimp only
    go_wp2_with fail
    refine RD.out.mono ?_
    rintro e w3 ⟨v3, rfl, o3, b3⟩
    have B3 := Lib.hid (thenBelow B2.out b3)
    obtain ⟨p3, c3, rfl, _, C3, _⟩ := own_atC o3
    have l3 : (diffL old now).length ≤ 100000 := by
      unfold diffL
      rw [isrt_len, List.length_append]
      have := wentL_len old now
      have := cameL_len old now
      omega
    have EQ := Lib.hid (equalC_is p2 p3 c2 c3 (diffL old now) w3 (CC2.out.below b3) C3 l3)
    clear RD o3 b3 C3 CC2 l3
    dsimp only
    go_wp2_with fail
    refine EQ.out.mono ?_
    rintro e w4 ⟨rfl, b4⟩
    have B4 := Lib.hid (thenBelow B3.out b4)
    clear EQ b4
    have GD := Lib.hid (good_is p c old w4 (H1.out.below B4.out) (by omega))
    have RG := Lib.hid (fun (V : World) (hV : Below w.heap.size w V) => refGood_is p c old V (H1.out.below hV) (by omega) C1.out)
    generalize goodB old = g at GD RG
    dsimp only
    go_wp2_with fail
    refine GD.out.mono ?_
    rintro e w5 ⟨rfl, b5⟩
    have B5 := Lib.hid (thenBelow B4.out b5)
    clear GD b5
    dsimp only
    go_wp2_with fail
    refine (RG.out w5 B5.out).mono ?_
    rintro e w6 ⟨rfl, b6⟩
    have B6 := Lib.hid (thenBelow B5.out b6)
    clear RG b6
    have AW := Lib.hid (awake34_is w6 (HP.out.later B6.out))
    have hg : (g == g) = true := by cases g <;> rfl
    dsimp only
    go_wp2_with fail
    refine AW.out.mono ?_
    rintro e w7 ⟨rfl, b7⟩
    have B7 := Lib.hid (thenBelow B6.out b7)
    clear AW b7
    dsimp only
    go_wp2
    go_ret
    exact ⟨rfl, B7.out⟩
  · have e1 : (decide (old.length ≤ 40) && decide (now.length ≤ 40)) = false := by
      rw [Bool.eq_false_iff]; simpa using hf
    rw [e1]
    have AW := Lib.hid (awake34_is w1 (HP.out.later B1.out))
    clear hf e1
    go_wp2_with fail
    refine AW.out.mono ?_
    rintro e w7 ⟨rfl, b7⟩
    have B7 := Lib.hid (thenBelow B1.out b7)
    clear AW b7
    dsimp only
    go_wp2
    go_ret
    exact ⟨rfl, B7.out⟩
end Go.Proofs.YtnjopndkommjnaaDoor
