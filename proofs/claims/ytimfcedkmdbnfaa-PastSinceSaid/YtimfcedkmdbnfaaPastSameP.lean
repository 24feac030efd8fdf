/- Same of any two pasts, the program's and the document's. -/
import Derived.Test.YtimfcedkmdbnfaaPastRefSame
namespace Go.Proofs.Ytimfcedkmdbnfaa
open Go Go.RowKit
set_option linter.unusedVariables false

set_option maxHeartbeats 20000000 in
set_option maxRecDepth 1000000 in
theorem sameP_is (p : Option Addr) (c : Nat) (L : List EvP) (q : Option Addr) (c' : Nat) (M : List EvP) (f g : Nat → Int) (w : World) (h : EvsAt w p L) (h2 : EvsAt w q M) (hn : L.length ≤ 1000) (hn2 : M.length ≤ 1000) (hg : ∀ x ∈ L, x.e.gone.length ≤ 1000) (hg2 : ∀ x ∈ M, x.e.gone.length ≤ 1000) :
    Calls Try.prog 13 #[.agg (pcs (.slice p L.length c) f), .agg (pcs (.slice q M.length c') g)] w (Tells w (veq f g = true ∧ evs L = evs M)) := by
  have E1 := Lib.hid h; have E2 := Lib.hid h2; have HG := Lib.hid hg; have HG2 := Lib.hid hg2
  clear h h2 hg hg2
  go_enter Try.func13, Try.ntmps13
  go_wp2_with (refine wpList_gbox rfl _ rfl (pcs (.slice p L.length c) f) rfl ?_)
  intro g2 w1 lg2 hg2 hb1
  have B1 := Lib.hid hb1
  have P1 : Hid (Px w1 g2 (.slice p L.length c) f) := Lib.hid hg2
  clear hg2 hb1
  go_wp2_with (refine wpList_gbox rfl _ rfl (pcs (.slice q M.length c') g) rfl ?_)
  intro g3 w2 lg3 hg3 hb2
  have B2 := Lib.hid (thenBelow B1.out hb2)
  have P2 := Lib.hid (P1.out.later hb2)
  have Q2 : Hid (Px w2 g3 (.slice q M.length c') g) := Lib.hid hg3
  clear hg3 hb2 P1
  have s2 := P2.out.slot
  have s3 := Q2.out.slot
  have hq1 : ∀ w : World, (binOp .eql 24 (.agg (vf f)) (.agg (vf g))).run Try.prog w = .ok (.bool (veq f g)) w := fun w => Vec.eql vecI f g w
  have hq2 : ∀ w : World, (Op.equalIn 10000 24 (.agg (vf f)) (.agg (vf g))).run Try.prog w = .ok (veq f g) w := fun w => Vec.equalIn vecI 9998 f g w
  have SE := Lib.hid (sameE_is p c L q c' M w2 (E1.out.below B2.out) (E2.out.below B2.out) hn hn2 HG.out HG2.out)
  cases hv : veq f g with
  | true =>
    rw [hv] at hq1 hq2
    go_wp2_with (first | refine wpList_gload rfl _ rfl g2 1 rfl (vf f).toList P2.out.floor _ Try.underlying24 rfl (sizeVcl f) ?_ | refine wpList_gload rfl _ rfl g3 1 rfl (vf g).toList Q2.out.floor _ Try.underlying24 rfl (sizeVcl g) ?_)
    refine SE.out.mono ?_
    rintro e w3 ⟨b, rfl, hbb, hb3⟩
    have B3 := Lib.hid (thenBelow B2.out hb3); have HBB := Lib.hid hbb
    clear hbb hb3 SE s2 s3 hq1 hq2
    go_wp2
    go_ret
    exact ⟨b, rfl, by rw [hv]; simpa using HBB.out, B3.out⟩
  | false =>
    rw [hv] at hq1 hq2
    go_wp2_with (first | refine wpList_gload rfl _ rfl g2 1 rfl (vf f).toList P2.out.floor _ Try.underlying24 rfl (sizeVcl f) ?_ | refine wpList_gload rfl _ rfl g3 1 rfl (vf g).toList Q2.out.floor _ Try.underlying24 rfl (sizeVcl g) ?_)
    go_ret
    exact ⟨false, rfl, by rw [hv]; simp, B2.out⟩

set_option maxHeartbeats 20000000 in
set_option maxRecDepth 1000000 in
theorem refSameQ_is (p : Option Addr) (c : Nat) (L : List EvP) (q : Option Addr) (c' : Nat) (M : List EvP) (f g : Nat → Int) (w : World) (h : EvsAt w p L) (h2 : EvsAt w q M) (hn : L.length ≤ 1000) (hn2 : M.length ≤ 1000) (hg : ∀ x ∈ L, x.e.gone.length ≤ 1000) (hg2 : ∀ x ∈ M, x.e.gone.length ≤ 1000) :
    Calls Try.prog 9 #[.agg (pcs (.slice p L.length c) f), .agg (pcs (.slice q M.length c') g)] w (Tells w (veq f g = true ∧ evs L = evs M)) := by
  have E1 := Lib.hid h; have E2 := Lib.hid h2; have HG := Lib.hid hg; have HG2 := Lib.hid hg2
  clear h h2 hg hg2
  go_enter Try.func9, Try.ntmps9
  go_wp2_with (refine wpList_gbox rfl _ rfl (pcs (.slice p L.length c) f) rfl ?_)
  intro g2 w1 lg2 hg2 hb1
  have B1 := Lib.hid hb1
  have P1 : Hid (Px w1 g2 (.slice p L.length c) f) := Lib.hid hg2
  clear hg2 hb1
  go_wp2_with (refine wpList_gbox rfl _ rfl (pcs (.slice q M.length c') g) rfl ?_)
  intro g3 w2 lg3 hg3 hb2
  have B2 := Lib.hid (thenBelow B1.out hb2)
  have P2 := Lib.hid (P1.out.later hb2)
  have Q2 : Hid (Px w2 g3 (.slice q M.length c') g) := Lib.hid hg3
  clear hg3 hb2 P1
  have s2 := P2.out.slot
  have s3 := Q2.out.slot
  have hq1 : ∀ w : World, (binOp .eql 24 (.agg (vf f)) (.agg (vf g))).run Try.prog w = .ok (.bool (veq f g)) w := fun w => Vec.eql vecI f g w
  have hq2 : ∀ w : World, (Op.equalIn 10000 24 (.agg (vf f)) (.agg (vf g))).run Try.prog w = .ok (veq f g) w := fun w => Vec.equalIn vecI 9998 f g w
  have SE := Lib.hid (refSameX_is p c L q c' M w2 (E1.out.below B2.out) (E2.out.below B2.out) hn hn2 HG.out HG2.out)
  cases hv : veq f g with
  | true =>
    rw [hv] at hq1 hq2
    go_wp2_with (first | refine wpList_gload rfl _ rfl g2 1 rfl (vf f).toList P2.out.floor _ Try.underlying24 rfl (sizeVcl f) ?_ | refine wpList_gload rfl _ rfl g3 1 rfl (vf g).toList Q2.out.floor _ Try.underlying24 rfl (sizeVcl g) ?_)
    refine SE.out.mono ?_
    rintro e w3 ⟨b, rfl, hbb, hb3⟩
    have B3 := Lib.hid (thenBelow B2.out hb3); have HBB := Lib.hid hbb
    clear hbb hb3 SE s2 s3 hq1 hq2
    go_wp2
    go_ret
    exact ⟨b, rfl, by rw [hv]; simpa using HBB.out, B3.out⟩
  | false =>
    rw [hv] at hq1 hq2
    go_wp2_with (first | refine wpList_gload rfl _ rfl g2 1 rfl (vf f).toList P2.out.floor _ Try.underlying24 rfl (sizeVcl f) ?_ | refine wpList_gload rfl _ rfl g3 1 rfl (vf g).toList Q2.out.floor _ Try.underlying24 rfl (sizeVcl g) ?_)
    go_ret
    exact ⟨false, rfl, by rw [hv]; simp, B2.out⟩
end Go.Proofs.Ytimfcedkmdbnfaa
