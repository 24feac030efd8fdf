/- The walk of DotsVectors. -/
import Derived.Test.YtkejonihciliaaaDotQuiet
namespace Go.Proofs.Ytkejonihciliaaa
open Go Go.RowKit
set_option linter.unusedVariables false

set_option maxHeartbeats 4000000 in
set_option maxRecDepth 100000 in
theorem dotsVectors_walk (a b : Nat → Int) (W : World) (ha : Wide a) (hb : Wide b) : Calls Try.prog 4 #[.agg (vf a), .agg (vf b)] W (Yes W) := by
  clear ha hb
  go_enter Try.func4, Try.ntmps4
  go_wp2_with (refine wpList_vbox vecI rfl _ rfl a rfl ?_)
  intro ga w1 la ra hb1
  have B1 := Lib.hid hb1; have RA1 := Lib.hid ra
  clear hb1 ra
  go_wp2_with (refine wpList_vbox vecI rfl _ rfl b rfl ?_)
  intro gb w2 lb rb hb2
  have B2 := Lib.hid (thenBelow B1.out hb2); have RA2 := Lib.hid (RA1.out.later hb2); have RB2 := Lib.hid rb
  clear hb2 rb
  have c1 := quiet_call (w := w2) (ownJoin_is a b); have c2 := quiet_call (w := w2) (refJoin_is a b)
  have c3 := quiet_call (w := w2) (ownMeet_is a b); have c4 := quiet_call (w := w2) (refMeet_is a b)
  have e1 := vecI.equalIn 9998 (fun i => max (a i) (b i)) (fun i => max (a i) (b i)); have e2 := vecI.equalIn 9998 (fun i => min (a i) (b i)) (fun i => min (a i) (b i))
  have e3 := vecI.eql (fun i => max (a i) (b i)) (fun i => max (a i) (b i)); have e4 := vecI.eql (fun i => min (a i) (b i)) (fun i => min (a i) (b i))
  rw [veq_self] at e1 e2 e3 e4
  generalize hJ : (fun i => max (a i) (b i)) = J at c1 c2 e1 e3
  generalize hM : (fun i => min (a i) (b i)) = M at c3 c4 e2 e4
  clear hJ hM
  go_wp2
  refine wp_region_quiet_below (by kernel_rfl) (by kernel_rfl) ?_
  refine wpQuiet_vloadG vecI (by rfl) _ rfl ga rfl _ a (fun _ h => RA2.out.quiet h) ?_
  refine wpQuiet_vloadG vecI (by rfl) _ rfl gb rfl _ b (fun _ h => RB2.out.quiet h) ?_
  quiet_step (exact c1 _ _)
  refine wpQuiet_vloadG vecI (by rfl) _ rfl ga rfl _ a (fun _ h => RA2.out.quiet h) ?_
  refine wpQuiet_vloadG vecI (by rfl) _ rfl gb rfl _ b (fun _ h => RB2.out.quiet h) ?_
  quiet_step (exact c2 _ _)
  iterate 2 (quiet_step (fail))
  refine wpQuiet_vloadG vecI (by rfl) _ rfl ga rfl _ a (fun _ h => RA2.out.quiet h) ?_
  refine wpQuiet_vloadG vecI (by rfl) _ rfl gb rfl _ b (fun _ h => RB2.out.quiet h) ?_
  quiet_step (exact c3 _ _)
  refine wpQuiet_vloadG vecI (by rfl) _ rfl ga rfl _ a (fun _ h => RA2.out.quiet h) ?_
  refine wpQuiet_vloadG vecI (by rfl) _ rfl gb rfl _ b (fun _ h => RB2.out.quiet h) ?_
  quiet_step (exact c4 _ _)
  repeat (quiet_step (fail))
  refine wpQuiet_nil ?_
  rintro _ ⟨⟨dq, osq⟩, rfl⟩
  have hb3 := below_regrown w2 dq osq
  have B3 := Lib.hid (thenBelow B2.out hb3); have RA3 := Lib.hid (RA2.out.later hb3); have RB3 := Lib.hid (RB2.out.later hb3)
  generalize Sort.grow (redrawn w2 dq) osq = w3 at hb3 B3 RA3 RB3 ⊢
  clear hb3 c1 c2 c3 c4 e1 e2 e3 e4
  have c1 := quiet_call (w := w3) (ownWithin_is a b); have c2 := quiet_call (w := w3) (refWithin_is a b)
  have c3 := quiet_call (w := w3) (good_is a); have c4 := quiet_call (w := w3) (refGood_is a)
  have c5 := quiet_call (w := w3) awake8
  generalize vle a b = x at c1 c2
  generalize goodB a = y at c3 c4
  go_wp2
  refine wp_region_quiet_below (by kernel_rfl) (by kernel_rfl) ?_
  iterate 2 (quiet_step (fail))
  refine wpQuiet_vloadG vecI (by rfl) _ rfl ga rfl _ a (fun _ h => RA3.out.quiet h) ?_
  refine wpQuiet_vloadG vecI (by rfl) _ rfl gb rfl _ b (fun _ h => RB3.out.quiet h) ?_
  quiet_step (exact c1 _ _)
  refine wpQuiet_vloadG vecI (by rfl) _ rfl ga rfl _ a (fun _ h => RA3.out.quiet h) ?_
  refine wpQuiet_vloadG vecI (by rfl) _ rfl gb rfl _ b (fun _ h => RB3.out.quiet h) ?_
  quiet_step (exact c2 _ _)
  iterate 3 (quiet_step (fail))
  refine wpQuiet_vloadG vecI (by rfl) _ rfl ga rfl _ a (fun _ h => RA3.out.quiet h) ?_
  quiet_step (exact c3 _ _)
  refine wpQuiet_vloadG vecI (by rfl) _ rfl ga rfl _ a (fun _ h => RA3.out.quiet h) ?_
  quiet_step (exact c4 _ _)
  iterate 3 (quiet_step (fail))
  quiet_step (exact c5 _ _)
  repeat (quiet_step (fail))
  refine wpQuiet_nil ?_
  rintro _ ⟨⟨dq, osq⟩, rfl⟩
  have B4 := Lib.hid (thenBelow B3.out (below_regrown w3 dq osq))
  generalize Sort.grow (redrawn w3 dq) osq = w4 at B4 ⊢
  clear c1 c2 c3 c4 c5
  go_wp2
  go_ret
  exact ⟨ret_bool (by first | rfl | (simp; done)), B4.out⟩
end Go.Proofs.Ytkejonihciliaaa
