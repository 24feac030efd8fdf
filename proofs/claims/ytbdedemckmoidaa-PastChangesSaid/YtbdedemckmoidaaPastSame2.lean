/- the document's past: Same, of the same pasts. -/
import Derived.Test.YtbdedemckmoidaaPastSame
namespace Go.Proofs.Ytbdedemckmoidaa
open Go Go.RowKit
set_option linter.unusedVariables false

set_option maxHeartbeats 8000000 in
set_option maxRecDepth 1000000 in
theorem refSameP_is (p : Option Addr) (c : Nat) (L : List EvP) (q : Option Addr) (c' : Nat) (M : List EvP) (f : Nat → Int) (w : World) (h : EvsAt w p L) (h2 : EvsAt w q M) (he : evs L = evs M) (hn : L.length ≤ 1000) (hg : ∀ x ∈ L, x.e.gone.length ≤ 1000) :
    Calls Try.prog 9 #[.agg (pcs (.slice p L.length c) f), .agg (pcs (.slice q M.length c') f)] w (RetBool w true) := by
  have E1 := Lib.hid h; have E2 := Lib.hid h2; have HE := Lib.hid he; have HG := Lib.hid hg
  clear h h2 he hg
  go_enter Try.func9, Try.ntmps9
  go_wp2_with (refine wpList_gbox rfl _ rfl (pcs (.slice p L.length c) f) rfl ?_)
  intro g2 w1 lg2 hg2 hb1
  have B1 := Lib.hid hb1
  have P1 : Hid (Px w1 g2 (.slice p L.length c) f) := Lib.hid hg2
  clear hg2 hb1
  go_wp2_with (refine wpList_gbox rfl _ rfl (pcs (.slice q M.length c') f) rfl ?_)
  intro g3 w2 lg3 hg3 hb2
  have B2 := Lib.hid (thenBelow B1.out hb2)
  have P2 := Lib.hid (P1.out.later hb2)
  have Q2 : Hid (Px w2 g3 (.slice q M.length c') f) := Lib.hid hg3
  clear hg3 hb2 P1
  have s2 := P2.out.slot
  have s3 := Q2.out.slot
  have hq1 : ∀ w : World, (binOp .eql 24 (.agg (vf f)) (.agg (vf f))).run Try.prog w = .ok (.bool true) w := fun w => by
    have h := Vec.eql vecI f f w
    rw [veq_self] at h; exact h
  have hq2 : ∀ w : World, (Op.equalIn 10000 24 (.agg (vf f)) (.agg (vf f))).run Try.prog w = .ok true w := fun w => by
    have h := Vec.equalIn vecI 9998 f f w
    rw [veq_self] at h; exact h
  have SE := Lib.hid (refSameE_is p c L q c' M w2 (E1.out.below B2.out) (E2.out.below B2.out) HE.out hn HG.out)
  go_wp2_with (first | refine wpList_gload rfl _ rfl g2 1 rfl (vf f).toList P2.out.floor _ Try.underlying24 rfl (sizeVcl f) ?_ | refine wpList_gload rfl _ rfl g3 1 rfl (vf f).toList Q2.out.floor _ Try.underlying24 rfl (sizeVcl f) ?_)
  refine SE.out.mono ?_
  rintro e w3 ⟨rfl, hb3⟩
  have B3 := Lib.hid (thenBelow B2.out hb3)
  clear hb3 SE s2 s3 hq1 hq2
  go_wp2
  go_ret
  exact ⟨rfl, B3.out⟩
end Go.Proofs.Ytbdedemckmoidaa
