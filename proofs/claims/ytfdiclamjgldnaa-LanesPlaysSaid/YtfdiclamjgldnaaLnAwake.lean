/- The example that each law of layer 26 ends with. -/
import Derived.Test.YtfdiclamjgldnaaLnNew
import Derived.Lib.SlBytesConst
namespace Go.Proofs.Ytfdiclamjgldnaa
open Go Go.RowKit Go.Conc
set_option linter.unusedVariables false

theorem in01 : InN ((2 : Nat) : Int) (0, 1) := by unfold InN; decide
set_option maxHeartbeats 1000000 in
theorem awake26 (w : World) : Calls Try.prog 8 #[] w (Yes w) := by
  have N := Lib.hid (lnNew 2 (by omega) (by omega) w)
  have hcv := fun (w : World) => Lib.run_convert_bytes_const (P := Try.prog) w 30 5 #[.int .u8 97, .int .u8 98] 2 2 Try.underlying30 Try.underlying5
  go_enter Try.func8, Try.ntmps8
  go_wp2_with fail
  refine N.out.mono ?_
  rintro e w1 ⟨A, rfl, hx, hb⟩
  have b2 : Below w.heap.size w (w1.alloc (.cells #[.int .u8 97, .int .u8 98] 5 (2, 3))) := hb.alloc hb.size _
  have x2 := hx.below ((Below.refl _ w1).alloc (Nat.le_refl _) (.cells #[.int .u8 97, .int .u8 98] 5 (2, 3)))
  have SE := Lib.hid (send_yes w.heap.size A _ _ 0 0 _ x2 0 1 in01 (some ⟨w1.heap.size, 0, none⟩) 2 [97, 98] (lies_lit w1 _ _ [97, 98] _ rfl) (by simp) (by simp) (by simp) (by omega))
  have B2 := Lib.hid b2
  clear hx hb b2 x2 N
  go_wp2_with fail
  refine SE.out.mono ?_
  rintro e w3 ⟨rfl, hx, hb⟩
  have B3 := Lib.hid (B2.out.trans hb.bel)
  have DB := Lib.hid (double_yes w.heap.size A _ _ _ _ w3 hx 0 1 in01 0 (by simp [updF]) (by simp [updF]))
  clear hx hb SE B2
  go_wp2_with fail
  refine DB.out.mono ?_
  rintro e w4 ⟨rfl, hx, hb⟩
  have B4 := Lib.hid (B3.out.trans hb.bel)
  have TK := Lib.hid (take_is w.heap.size A _ _ _ _ w4 hx 0 1 in01 1 (by simp [updF]))
  clear hx hb DB B3
  have e1 : seen ((updF (updF (fun _ => []) (0, 1) (([] : List Mg) ++ [⟨[97, 98], 0, 0⟩])) (0, 1) ((updF (fun _ => []) (0, 1) (([] : List Mg) ++ [⟨[97, 98], 0, 0⟩]) (0, 1)) ++ [(updF (fun _ => []) (0, 1) (([] : List Mg) ++ [⟨[97, 98], 0, 0⟩]) (0, 1)).getD 0 ⟨[], 0, 0⟩]) (0, 1)).getD 1 ⟨[], 0, 0⟩) = [97, 98] := by decide
  rw [e1] at TK
  go_wp2_with fail
  refine TK.out.mono ?_
  rintro e w5 ⟨v, rfl, ho, hx, hb⟩
  obtain ⟨_, p5, c5, rfl, _, _, hl5, _⟩ := own_lies ho
  have hst := hl5.convert (P := Try.prog) 2 rfl c5 30 5 9 Try.underlying30 Try.underlying5 Try.underlying9
  have CN := Lib.hid (lnCount w.heap.size A _ _ _ _ w5 hx 0 1 in01)
  have B5 := Lib.hid (B4.out.trans hb.bel)
  have e2 : (updF (updF (updF (fun _ => []) (0, 1) (([] : List Mg) ++ [⟨[97, 98], 0, 0⟩])) (0, 1) ((updF (fun _ => []) (0, 1) (([] : List Mg) ++ [⟨[97, 98], 0, 0⟩]) (0, 1)) ++ [(updF (fun _ => []) (0, 1) (([] : List Mg) ++ [⟨[97, 98], 0, 0⟩]) (0, 1)).getD 0 ⟨[], 0, 0⟩])) (0, 1) ((updF (updF (fun _ => []) (0, 1) (([] : List Mg) ++ [⟨[97, 98], 0, 0⟩])) (0, 1) ((updF (fun _ => []) (0, 1) (([] : List Mg) ++ [⟨[97, 98], 0, 0⟩]) (0, 1)) ++ [(updF (fun _ => []) (0, 1) (([] : List Mg) ++ [⟨[97, 98], 0, 0⟩]) (0, 1)).getD 0 ⟨[], 0, 0⟩]) (0, 1)).eraseIdx 1) (0, 1)).length = 1 := by decide
  rw [e2] at CN
  clear hx hb ho hl5 TK B4 e1 e2
  go_wp2_with fail
  refine CN.out.mono ?_
  rintro e w' ⟨rfl, rfl⟩
  go_wp2
  go_ret
  exact ⟨rfl, B5.out⟩
end Go.Proofs.Ytfdiclamjgldnaa
