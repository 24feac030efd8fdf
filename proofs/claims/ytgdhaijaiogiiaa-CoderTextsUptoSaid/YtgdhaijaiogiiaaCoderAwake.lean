/- The example that each law of layer 1 ends with. -/
import Derived.Test.YtgdhaijaiogiiaaCoderRising
namespace Go.Proofs.Ytgdhaijaiogiiaa
open Go Go.RowKit

theorem enc300 : Cod.enc 300 = [129, 44] := by decide
theorem rising349 : Cod.rising [3, 4, 9] = [3, 3, 0, 4] := by decide
theorem givenNil (w : World) : Given w none 0 [] := ⟨Lies.nil _ _, Nat.le_refl _, fun _ => ⟨rfl, rfl⟩⟩

set_option maxHeartbeats 1000000 in
theorem awake_any (w : World) : Calls Try.prog 15 #[] w (Yes w) := by
  go_enter Try.func15, Try.ntmps15
  go_wp2_with fail
  refine (num_any none 0 [] 300 w (Lies.nil _ _) (fun _ => rfl) (Nat.le_refl _) (by decide) (by simp)).mono ?_
  intro e w1 hr1
  rw [show ([] : List UInt8) ++ Cod.enc (300 : Int).toNat = [129, 44] from enc300] at hr1
  obtain ⟨p1, c1, rfl, g1, b1⟩ := hr1.given
  have G1 := Lib.hid g1; have B1 := Lib.hid b1; clear hr1 g1 b1
  go_wp2_with fail
  refine (equal_any _ _ _ _ _ _ [129, 44] [129, 44] _ (G1.out.lies.alloc _) (lies_lit _ _ _ [129, 44] _ rfl) rfl rfl).mono ?_
  rintro e w' ⟨rfl, rfl⟩
  go_wp2_with fail
  have L2 : Hid (LiesI ((w1.alloc (.cells (bys [129, 44]).toArray 5)).alloc (.cells #[.int .i64 3, .int .i64 4, .int .i64 9] 3)) (some ⟨w1.heap.size + 1, 0, none⟩) [3, 4, 9]) := by
    have := liesI_lit (w1.alloc (.cells (bys [129, 44]).toArray 5)) 3 (0, 0) [3, 4, 9] #[.int .i64 3, .int .i64 4, .int .i64 9] rfl
    simpa [Hid] using this
  refine (rising_any none _ 0 3 [] [3, 4, 9] _ (givenNil _) L2.out (by intro i hi; match i, hi with | 0, _ => decide | 1, _ => decide | 2, _ => decide) (by simp)).mono ?_
  intro e w2 hr2
  rw [show ([] : List UInt8) ++ Cod.rising [3, 4, 9] = [3, 3, 0, 4] from rising349] at hr2
  obtain ⟨p2, c2, rfl, g2, b2⟩ := hr2.given
  have G2 := Lib.hid g2; have B2 := Lib.hid b2; clear hr2 g2 b2
  go_wp2_with fail
  refine (equal_any _ _ _ _ _ _ [3, 3, 0, 4] [3, 3, 0, 4] _ (G2.out.lies.alloc _) (lies_lit _ _ _ [3, 3, 0, 4] _ rfl) rfl rfl).mono ?_
  rintro e w' ⟨rfl, rfl⟩
  go_wp2_with fail
  go_ret
  exact ⟨rfl, thenBelow (thenBelow (B1.out) (((Below.refl _ _).alloc (Nat.le_refl _) _).alloc (by simp) _)) (thenBelow B2.out ((Below.refl _ _).alloc (Nat.le_refl _) _))⟩
end Go.Proofs.Ytgdhaijaiogiiaa
