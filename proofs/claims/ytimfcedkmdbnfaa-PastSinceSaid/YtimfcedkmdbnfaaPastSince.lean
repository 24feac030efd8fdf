/- past.Since: all that one lacks who has the floor. -/
import Derived.Test.YtimfcedkmdbnfaaPastDel2
import Derived.Test.YtimfcedkmdbnfaaVecIn
namespace Go.Proofs.Ytimfcedkmdbnfaa
open Go Go.RowKit
set_option linter.unusedVariables false

def SinceR (w : World) (l : List Ev) (e : Ending) (w' : World) : Prop :=
  ∃ q c K, e = .returned (.tuple #[.slice q K.length c, .bool true]) ∧ K.length ≤ c ∧ EvsAt w' q K ∧ (∀ a, q = some a → ∃ b o, a = ⟨b, o, none⟩) ∧ evs K = l ∧ Below w.heap.size w w'
set_option maxHeartbeats 20000000 in
set_option maxRecDepth 1000000 in
theorem since_is (p : Option Addr) (c : Nat) (L : List EvP) (f v : Nat → Int) (w : World) (h : EvsAt w p L) (ho : ∀ a, p = some a → ∃ b o, a = ⟨b, o, none⟩) (hn : L.length ≤ 400) (hg : ∀ x ∈ L, x.e.gone.length ≤ 1000) (hf : vle f v = true) :
    Calls Try.prog 6 #[.agg (pcs (.slice p L.length c) f), .agg (vf v), .int .i64 1000] w (SinceR w ((evs L).filter fun e => !e.has v)) := by
  have EV := Lib.hid h; have HG := Lib.hid hg; have HO := Lib.hid ho
  clear h hg ho
  go_enter Try.func6, Try.ntmps6
  go_wp2_with (refine wpList_gbox rfl _ rfl (pcs (.slice p L.length c) f) rfl ?_)
  intro g3 w1 l1 h1 hb1
  have B1 := Lib.hid hb1
  have P1 : Hid (Px w1 g3 (.slice p L.length c) f) := Lib.hid h1
  clear h1 hb1
  go_wp2_with (refine wpList_vbox vecI rfl _ rfl v rfl ?_)
  intro A w2 lA rv hb2
  have B2 := Lib.hid (thenBelow B1.out hb2); have R2 : Hid (Row w2 A 24 v) := Lib.hid rv
  have P2 := Lib.hid (P1.out.later hb2)
  clear rv hb2 P1
  have WI : Hid (Calls Try.prog 16 #[.agg (vf f), .agg (vf v)] w2 (RetBool w2 true)) := Lib.hid (by have h1 := ownWithin_is f v w2; rw [hf] at h1; exact h1)
  go_wp2_with (first | refine wpList_gload rfl _ rfl g3 1 rfl (vf f).toList P2.out.floor _ Try.underlying24 rfl (sizeVcl f) ?_ | refine wpList_gload rfl _ rfl A 0 rfl (vf v).toList R2.out.range _ Try.underlying24 rfl (sizeVcl v) ?_)
  refine WI.out.mono ?_
  rintro e w3 ⟨rfl, hb3⟩
  have B3 := Lib.hid (thenBelow B2.out hb3); have P3 := Lib.hid (P2.out.later hb3); have R3 : Hid (Row w3 A 24 v) := Lib.hid (R2.out.later hb3)
  have s3 := P3.out.slot
  have CP := Lib.hid (copied_is p c L w3 (EV.out.below B3.out) HO.out (by omega) HG.out)
  clear hb3 WI P2 R2
  go_wp2_with fail
  refine CP.out.mono ?_
  rintro e w4 ⟨vM, M, rfl, hM, heM, hb4⟩
  obtain ⟨q, cq, rfl⟩ := own_slice hM.row
  have hMl : M.length = L.length := by have := congrArg List.length heM; simpa [evs] using this
  have B4 := Lib.hid (thenBelow B3.out hb4); have R4 : Hid (Row w4 A 24 v) := Lib.hid (R3.out.later hb4)
  have HE := Lib.hid heM
  have DL := Lib.hid (delE_is A w3.heap.size v q cq M w4 R4.out R3.out.lt hM (by omega) hb4.size)
  have hz3 : w.heap.size ≤ w3.heap.size := B3.out.size
  have HML := Lib.hid hMl
  clear CP hM heM hb4 s3 hMl
  go_wp2_with fail
  refine DL.out.mono ?_
  rintro e w5 ⟨q', c', K', rfl, hc', hE', hO', heK, hb5⟩
  have B5 := Lib.hid (B4.out.trans (hb5.mono hz3)); have E5 := Lib.hid hE'; have O5 := Lib.hid hO'; have HK := Lib.hid heK
  have hKl : K'.length ≤ 400 := by
    have h1 := congrArg List.length heK
    have h2 : ((evs M).filter fun e => !e.has v).length ≤ (evs M).length := List.length_filter_le _ _
    have h3 := HML.out
    simp only [evs, List.length_map] at h1 h2
    omega
  have hmn : min (K'.length : Int) 1000 = K'.length := by omega
  have hcc : (K'.length : Int) ≤ c' := by omega
  clear DL hE' hO' heK hb5
  go_wp2
  go_ret2
  refine ⟨q', c', K', ?_, hc', E5.out, O5.out, by rw [HK.out, HE.out], B5.out⟩
  show Ending.returned (.tuple #[.slice q' (min (K'.length : Int) (max 1000 0)).toNat c', .bool true]) = _
  rw [show (min (K'.length : Int) (max 1000 0)).toNat = K'.length by omega]
end Go.Proofs.Ytimfcedkmdbnfaa
