/- The walk of SuggestNobody. -/
import Derived.Test.YtnlechjpiphmiaaDoorSugNob
namespace Go.Proofs.YtnlechjpiphmiaaDoor
open Go Go.RowKit
set_option linter.unusedVariables false

def Nothing (w : World) (e : Ending) (w' : World) : Prop := (∃ q c, e = .returned (.slice q 0 c)) ∧ Below w.heap.size w w'
set_option maxHeartbeats 8000000 in
theorem near_nil (v : Value) (x : ByteArray) (away k : Int) (w : World) (h : NoDict w v) (hx : x.size ≤ 200) (hT : Shapes w) : Calls Tryd.prog 11 #[v, .string x, .int .i64 away, .int .i64 k] w (Nothing w) := by
  obtain ⟨a3, ha3⟩ : ∃ a, min away 3 = a := ⟨_, rfl⟩
  obtain ⟨k2, hk2⟩ : ∃ a, min k 20 = a := ⟨_, rfl⟩
  have NB := Lib.hid (newBest_is k2 w)
  have HN := Lib.hid h; have TT := Lib.hid hT
  have hv : ∃ p, v = .pointer p := by
    rcases h with rfl | ⟨D, rfl, _⟩ <;> exact ⟨_, rfl⟩
  obtain ⟨p, rfl⟩ := hv
  clear h hT
  go_enter Tryd.func11, Tryd.ntmps11
  go_wp2_with fail
  refine NB.out.mono ?_
  rintro e w1 ⟨H, rfl, hH, hbare, hb1⟩
  have B1 := Lib.hid hb1; have HB := Lib.hid hbare
  have CN := Lib.hid (count_is x w1 (by omega) (TT.out.below hb1))
  have WD := Lib.hid (words_nil (.pointer p) w1 (HN.out.below hb1))
  clear hb1 hbare NB
  go_wp2_with fail
  refine CN.out.mono ?_
  rintro e w' ⟨rfl, rfl⟩
  clear CN
  go_wp2_with fail
  refine WD.out.mono ?_
  rintro e w' ⟨rfl, rfl⟩
  clear WD
  go_wp2_with fail
  go_loopw [25] (fun i wr => i = .int .i64 0 ∧ w1 = wr) (fun _ _ => 0)
  case atStart => exact ⟨rfl, rfl⟩
  case round =>
    obtain ⟨rfl, rfl⟩ := hrel
    have TK := Lib.hid (take_bare H w1 HB.out)
    go_wp2_with fail
    refine TK.out.mono ?_
    rintro e w2 ⟨⟨q, c, rfl⟩, hb2⟩
    have B2 := Lib.hid (B1.out.trans (hb2.mono hH))
    clear hb2 TK
    go_wp2
    go_ret
    exact ⟨⟨_, _, rfl⟩, B2.out⟩
theorem int_rangeN {n : Int} (h : (Lit.int .i64 n).wf = true) : -9223372036854775808 ≤ n ∧ n ≤ 9223372036854775807 := by
  simp [Lit.wf, IntKind.min, IntKind.max, IntKind.bits, IntKind.signed] at h; omega
set_option maxHeartbeats 8000000 in
theorem suggestNobody_walk (x : ByteArray) (away k : Int) (W : World) (hx : x.size ≤ 140737488351232) (ha : (Lit.int .i64 away).wf = true) (hk : (Lit.int .i64 k).wf = true) (hT : Shapes W) :
    Calls Tryd.prog 6 #[.string x, .int .i64 away, .int .i64 k] W (Yes W) := by
  have hkr := int_rangeN hk
  have TT := Lib.hid hT
  clear ha hk hT
  by_cases h200 : x.size ≤ 200
  · have h200' : ¬ (x.size : Int) > 200 := by omega
    have N1 := Lib.hid (near_nil (.pointer none) x away k W (.inl rfl) h200 TT.out)
    have CM := Lib.hid (fun V => complete_nil x k V hkr)
    clear hkr
    go_enter Tryd.func6, Tryd.ntmps6
    go_wp2_with fail
    refine N1.out.mono ?_
    rintro e w1 ⟨⟨q1, c1, rfl⟩, hb1⟩
    have B1 := Lib.hid hb1
    clear hb1 N1
    go_wp2_with fail
    refine (CM.out w1).mono ?_
    rintro e w2 ⟨rfl, hb2⟩
    have B2 := Lib.hid (thenBelow B1.out hb2)
    have ND : Hid (NoDict (w2.alloc (.cells #[.slice none 0 0, .bool false] 54)) (.pointer (some ⟨w2.heap.size, 0, none⟩))) := .inr ⟨_, rfl, heap_alloc_new w2 _⟩
    have B3 := Lib.hid (B2.out.alloc B2.out.size (.cells #[.slice none 0 0, .bool false] 54))
    have N2 := Lib.hid (near_nil (.pointer (some ⟨w2.heap.size, 0, none⟩)) x away k _ ND.out h200 (TT.out.below B3.out))
    clear hb2 CM B1
    go_wp2_with fail
    refine N2.out.mono ?_
    rintro e w4 ⟨⟨q4, c4, rfl⟩, hb4⟩
    have B4 := Lib.hid (thenBelow B3.out hb4)
    have AW := Lib.hid (awake32 w4 (TT.out.below B4.out))
    clear hb4 N2 B3 B2 ND
    go_wp2_with fail
    refine AW.out.mono ?_
    rintro e w9 ⟨rfl, hb9⟩
    have B9 := Lib.hid (thenBelow B4.out hb9)
    clear hb9
    go_wp2
    go_ret
    exact ⟨by simp, B9.out⟩
  · have h200' : (x.size : Int) > 200 := by omega
    have AW := Lib.hid (awake32 W TT.out)
    clear hkr
    go_enter Tryd.func6, Tryd.ntmps6
    go_wp2_with fail
    refine AW.out.mono ?_
    rintro e w9 ⟨rfl, hb9⟩
    have B9 := Lib.hid hb9
    clear hb9
    go_wp2
    go_ret
    exact ⟨rfl, B9.out⟩
end Go.Proofs.YtnlechjpiphmiaaDoor
