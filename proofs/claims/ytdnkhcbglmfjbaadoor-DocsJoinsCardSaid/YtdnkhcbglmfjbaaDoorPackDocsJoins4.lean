/- The statement DocsJoins, proved for every input that its row reads: part 4 of 54. -/
import Derived.Test.YtdnkhcbglmfjbaaDoorVecWalk
import Derived.Test.YtdnkhcbglmfjbaaDoorProg
import Derived.Deep.QuietTactic
import Derived.BigQuiet
import Derived.RegionTactic
import Derived.Deep.RegionHeld3
import Derived.Deep.RegionLaw
import Derived.Deep.RegionWith
import Derived.Lib.Hide
/- Join, Meet of rows of 64, the program's and the document's. -/
namespace Go.Proofs.YtdnkhcbglmfjbaaDoor
open Go Go.RowKit
set_option linter.unusedVariables false

theorem vecI : Vec Tryd.prog 23 3 := ⟨Tryd.underlying23, Tryd.underlying3, by kernel_rfl, by kernel_rfl⟩
theorem zeroV (w : World) : (zeroValue 23).run Tryd.prog w = .ok (.agg (vf fun _ => 0)) w := by
  rw [vf_zero]; kernel_rfl
/-- what a call that hands back a row of 64 comes to -/
def RetVec (w : World) (f : Nat → Int) (e : Ending) (w' : World) : Prop := e = .returned (.agg (vf f)) ∧ Below w.heap.size w w'
theorem vec_ret {P : Program} {t e : TypeId} (V : Vec P t e) {fn : Func} {p : Tmp} (h : fn.results = #[.cell p t]) {a : Act} {w0 w : World} {g : Nat} {ty : TypeId} {f f' : Nat → Int} (hp : a.tmps.getD p undef = .pointer (some ⟨g, 0, none⟩)) (hd : a.defers = []) (hr : Row w g ty f)
    (he : ∀ i, i < 64 → f i = f' i) (hb : Below w0.heap.size w0 w) : bodyPost P fn (RetVec w0 f') .ret a w :=
  bodyPost_ret (v := .agg (vf f)) (results_cell_row h a.tmps w g ty (vf f) (0, 0) _ hp hr V.array rfl (by rw [vf_size]; exact V.whole)) hd ⟨by rw [vf_congr he], hb⟩
theorem grown_drew {w w' : World} {r : Option Nat} (h : w.grownBy w' r) : w.grownBy w'.drew r := ⟨h.os, h.tape, h.output, h.size, h.block⟩
/-- a row of which the first k places are of one, the others of another one -/
def upto (k : Nat) (f g : Nat → Int) : Nat → Int := fun i => if i < k then f i else g i
theorem upto_zero (f g : Nat → Int) : upto 0 f g = g := by funext i; simp [upto]
theorem upto_at (k : Nat) (f g : Nat → Int) : upto k f g k = g k := by simp [upto]
theorem upto_all (f g : Nat → Int) (i : Nat) (h : i < 64) : upto 64 f g i = f i := by simp [upto, h]
theorem upto_set (k : Nat) (f g : Nat → Int) : vset (upto k f g) k (f k) = upto (k + 1) f g := by
  funext i
  simp only [vset, upto]
  by_cases h : i = k
  · subst h; simp
  · rw [if_neg h]
    by_cases h2 : i < k
    · rw [if_pos h2, if_pos (by omega)]
    · rw [if_neg h2, if_neg (by omega)]
theorem upto_keep (k : Nat) (f g : Nat → Int) (h : f k = g k) : upto k f g = upto (k + 1) f g := by
  funext i
  simp only [upto]
  by_cases e : i = k
  · subst e; simp [h]
  · by_cases h2 : i < k
    · rw [if_pos h2, if_pos (by omega)]
    · rw [if_neg h2, if_neg (by omega)]

set_option maxHeartbeats 1000000 in
set_option maxRecDepth 100000 in
theorem refJoin_is (a b : Nat → Int) (w : World) : Calls Tryd.prog 22 #[.agg (vf a), .agg (vf b)] w (RetVec w (fun i => max (a i) (b i))) := by
  go_enter Tryd.func22, Tryd.ntmps22
  go_wp2_with (refine wpList_vbox vecI rfl _ rfl a rfl ?_)
  intro ga w1 la ra hb1
  have B1 := Lib.hid hb1; have RA1 := Lib.hid ra
  clear hb1 ra
  go_wp2_with (refine wpList_vbox vecI rfl _ rfl b rfl ?_)
  intro gb w2 lb rb hb2
  have B2 := Lib.hid (thenBelow B1.out hb2); have RA2 := Lib.hid (RA1.out.later hb2); have RB2 := Lib.hid rb
  clear hb2 rb
  go_wp2_with (refine wpList_valloc vecI zeroV rfl rfl ?_)
  intro gr w3 lr rr hb3
  have B3 := Lib.hid (thenBelow B2.out hb3); have RA3 := Lib.hid (RA2.out.later hb3); have RB3 := Lib.hid (RB2.out.later hb3); have RR3 := Lib.hid rr
  have hab : ga < gb := Nat.lt_of_lt_of_le RA1.out.lt lb
  have har : ga < gr := Nat.lt_of_lt_of_le RA2.out.lt lr
  clear hb3 rr
  go_wp2_with (refine wpList_vload vecI rfl _ rfl gb rfl _ b RB3.out ?_)
  go_wp2
  have hlow := Nat.le_trans B2.out.size lr
  have hwa : w.heap.size ≤ ga := la
  go_loopw [8] (fun i wr => ∃ k : Nat, k ≤ 64 ∧ i = .int .i64 k ∧ Row wr ga 23 (upto k (fun i => max (a i) (b i)) a) ∧ Row wr gr 23 (fun _ => 0) ∧ Below w.heap.size w wr) (fun i _ => 64 - (intOf i).toNat)
  case atStart => exact ⟨0, by omega, rfl, by rw [upto_zero]; exact RA3.out, RR3.out, B3.out⟩
  case round =>
    obtain ⟨k, hk, rfl, hra, hrr, hb⟩ := hrel
    have RA := Lib.hid hra; have RR := Lib.hid hrr; have B := Lib.hid hb
    clear hra hrr hb
    by_cases hlt : k < 64
    · have hi := vecI.index b .i64 k k rfl hlt
      have hc := RA.out.cell k hlt
      rw [upto_at] at hc
      have hfr := RA.out.free k
      have hkI : (k : Int) < 64 := by omega
      by_cases hgt : b k > a k
      · have hS : Hid (Row (wr.setCell ⟨ga, k, none⟩ (.int .i64 (b k))) ga 23 (upto (k + 1) (fun i => max (a i) (b i)) a)) := by
          show Row _ _ _ _
          rw [← upto_set]
          have : max (a k) (b k) = b k := by omega
          rw [this]
          exact RA.out.set k (b k)
        have hG := Lib.hid (grown_cell wr ga k (.int .i64 (b k)))
        generalize b k = y at hi hgt hS hG
        generalize a k = x at hc hgt
        go_wp2
        go_roundw
        case rel => exact ⟨k + 1, by omega, by go_num, hS.out, RR.out.kept hG.out (by simp; omega), B.out.trans (grown_below hG.out B.out.size hwa)⟩
        case measure => simp [intOf]; omega
      · have hS : Hid (Row wr ga 23 (upto (k + 1) (fun i => max (a i) (b i)) a)) := by
          show Row _ _ _ _
          rw [← upto_keep k _ _ (by show max (a k) (b k) = a k; omega)]; exact RA.out
        generalize b k = y at hi hgt
        generalize a k = x at hc hgt
        go_wp2
        go_roundw
        case rel => exact ⟨k + 1, by omega, by go_num, hS.out, RR.out, B.out⟩
        case measure => simp [intOf]; omega
    · obtain rfl : k = 64 := by omega
      have RE := Lib.hid (RA.out.congr (upto_all _ _))
      clear RA hk
      go_wp2_with (first | refine wpList_vload vecI rfl _ rfl ga rfl _ _ RE.out ?_ | refine wpList_vstore vecI rfl _ _ rfl gr rfl _ rfl _ _ RR.out ?_)
      intro w5 r5 g5 _
      have R5 := Lib.hid r5; have B5 := Lib.hid (B.out.trans (grown_below g5 B.out.size hlow))
      clear r5 g5
      go_wp2
      exact vec_ret vecI rfl rfl rfl R5.out (fun _ _ => rfl) B5.out

theorem tellJoin_is (x y : Int) (w : World) : Calls Tryd.prog 47 #[.int .i64 x, .int .i64 y] w fun e w' => e = .returned (.int .i64 (max x y)) ∧ w' = w := by
  go_enter Tryd.func47, Tryd.ntmps47
  go_wp2
  go_ret
  exact ⟨rfl, rfl⟩
set_option maxHeartbeats 1000000 in
set_option maxRecDepth 100000 in
theorem blendJoin (a b : Nat → Int) (w : World) : Calls Tryd.prog 46 #[.agg (vf a), .agg (vf b), .func (.func 47) #[] #[]] w (RetVec w (fun i => max (a i) (b i))) := by
  go_enter Tryd.func46, Tryd.ntmps46
  go_wp2_with (refine wpList_vbox vecI rfl _ rfl a rfl ?_)
  intro ga w1 la ra hb1
  have B1 := Lib.hid hb1; have RA1 := Lib.hid ra
  clear hb1 ra
  go_wp2_with (refine wpList_vbox vecI rfl _ rfl b rfl ?_)
  intro gb w2 lb rb hb2
  have B2 := Lib.hid (thenBelow B1.out hb2); have RA2 := Lib.hid (RA1.out.later hb2); have RB2 := Lib.hid rb
  clear hb2 rb
  go_wp2_with (refine wpList_valloc vecI zeroV rfl rfl ?_)
  intro gr w3 lr rr hb3
  have B3 := Lib.hid (thenBelow B2.out hb3); have RA3 := Lib.hid (RA2.out.later hb3); have RB3 := Lib.hid (RB2.out.later hb3); have RR3 := Lib.hid rr
  have hab : ga < gb := Nat.lt_of_lt_of_le RA1.out.lt lb
  have har : ga < gr := Nat.lt_of_lt_of_le RA2.out.lt lr
  clear hb3 rr
  go_wp2
  have hlow := Nat.le_trans B2.out.size lr
  have hwa : w.heap.size ≤ ga := la
  go_loopw [8] (fun i wr => ∃ k : Nat, k ≤ 64 ∧ i = .int .i64 k ∧ Row wr ga 23 (upto k (fun i => max (a i) (b i)) a) ∧ Row wr gb 23 b ∧ Row wr gr 23 (fun _ => 0) ∧ Below w.heap.size w wr) (fun i _ => 64 - (intOf i).toNat)
  case atStart => exact ⟨0, by omega, rfl, by rw [upto_zero]; exact RA3.out, RB3.out, RR3.out, B3.out⟩
  case round =>
    obtain ⟨k, hk, rfl, hra, hrb, hrr, hb⟩ := hrel
    have RA := Lib.hid hra; have RB := Lib.hid hrb; have RR := Lib.hid hrr; have B := Lib.hid hb
    clear hra hrb hrr hb
    by_cases hlt : k < 64
    · have hc := RA.out.cell k hlt
      rw [upto_at] at hc
      have hcb := RB.out.cell k hlt
      have hfr := RA.out.free k
      have hkI : (k : Int) < 64 := by omega
      have hS : Hid (Row (wr.setCell ⟨ga, k, none⟩ (.int .i64 (max (a k) (b k)))).drew ga 23 (upto (k + 1) (fun i => max (a i) (b i)) a)) := by
        show Row (wr.setCell _ _) _ _ _
        rw [← upto_set]
        exact RA.out.set k (max (a k) (b k))
      have hG := Lib.hid (grown_drew (grown_cell wr ga k (.int .i64 (max (a k) (b k)))))
      have T := Lib.hid (tellJoin_is (a k) (b k))
      generalize max (a k) (b k) = z at hS hG T
      generalize b k = y at hcb T
      generalize a k = x at hc T
      go_wp2
      go_region_with (go_at_call 47; refine (T.out _).mono ?_; rintro e w' ⟨rfl, rfl⟩)
      all_goals
        go_wp2
        go_roundw
        case rel => exact ⟨k + 1, by omega, by go_num, hS.out, RB.out.kept hG.out (by simp; omega), RR.out.kept hG.out (by simp; omega), B.out.trans (grown_below hG.out B.out.size hwa)⟩
        case measure => simp [intOf]; omega
    · obtain rfl : k = 64 := by omega
      have RE := Lib.hid (RA.out.congr (upto_all _ _))
      clear RA hk
      go_wp2_with (first | refine wpList_vload vecI rfl _ rfl ga rfl _ _ RE.out ?_ | refine wpList_vstore vecI rfl _ _ rfl gr rfl _ rfl _ _ RR.out ?_)
      intro w5 r5 g5 _
      have R5 := Lib.hid r5; have B5 := Lib.hid (B.out.trans (grown_below g5 B.out.size hlow))
      clear r5 g5
      go_wp2
      exact vec_ret vecI rfl rfl rfl R5.out (fun _ _ => rfl) B5.out

set_option maxHeartbeats 1000000 in
set_option maxRecDepth 100000 in
theorem ownJoin_is (a b : Nat → Int) (w : World) : Calls Tryd.prog 21 #[.agg (vf a), .agg (vf b)] w (RetVec w (fun i => max (a i) (b i))) := by
  go_enter Tryd.func21, Tryd.ntmps21
  go_wp2_with (refine wpList_vbox vecI rfl _ rfl a rfl ?_)
  intro ga w1 la ra hb1
  have B1 := Lib.hid hb1; have RA1 := Lib.hid ra
  clear hb1 ra
  go_wp2_with (refine wpList_vbox vecI rfl _ rfl b rfl ?_)
  intro gb w2 lb rb hb2
  have B2 := Lib.hid (thenBelow B1.out hb2); have RA2 := Lib.hid (RA1.out.later hb2); have RB2 := Lib.hid rb
  clear hb2 rb
  go_wp2_with (refine wpList_valloc vecI zeroV rfl rfl ?_)
  intro gr w3 lr rr hb3
  have B3 := Lib.hid (thenBelow B2.out hb3); have RA3 := Lib.hid (RA2.out.later hb3); have RB3 := Lib.hid (RB2.out.later hb3); have RR3 := Lib.hid rr
  have hlow := Nat.le_trans B2.out.size lr
  clear hb3 rr
  have BL := Lib.hid (blendJoin a b w3)
  go_wp2_with (first | refine wpList_vload vecI rfl _ rfl ga rfl _ a RA3.out ?_ | refine wpList_vload vecI rfl _ rfl gb rfl _ b RB3.out ?_)
  refine BL.out.mono ?_
  rintro e w4 ⟨rfl, hb4⟩
  have B4 := Lib.hid (thenBelow B3.out hb4); have RR4 := Lib.hid (RR3.out.later hb4)
  clear hb4
  go_wp2_with (refine wpList_vstore vecI rfl _ _ rfl gr rfl _ rfl _ _ RR4.out ?_)
  intro w5 r5 g5 _
  have R5 := Lib.hid r5; have B5 := Lib.hid (B4.out.trans (grown_below g5 B4.out.size hlow))
  clear r5 g5
  go_wp2
  exact vec_ret vecI rfl rfl rfl R5.out (fun _ _ => rfl) B5.out

end Go.Proofs.YtdnkhcbglmfjbaaDoor
/- Within of rows of 64, of both. -/
namespace Go.Proofs.YtdnkhcbglmfjbaaDoor
open Go Go.RowKit

/-- what a call that hands back a bool, and turns nothing that was, comes to -/
def RetBool (w : World) (b : Bool) (e : Ending) (w' : World) : Prop := e = .returned (.bool b) ∧ Below w.heap.size w w'
/-- is each number of one at most that of another one at all places of a list? -/
def vle (f g : Nat → Int) : Bool := (List.range 64).all fun i => f i ≤ g i
theorem vle_iff (f g : Nat → Int) : vle f g = true ↔ ∀ i, i < 64 → f i ≤ g i := by simp [vle]
theorem vle_no {f g : Nat → Int} (i : Nat) (hi : i < 64) (h : g i < f i) : vle f g = false := by
  cases e : vle f g with
  | false => rfl
  | true => exact absurd ((vle_iff f g).1 e i hi) (by omega)
theorem vle_eq (f g : Nat → Int) : veq (fun i => max (f i) (g i)) g = vle f g := by
  rw [Bool.eq_iff_iff, veq_iff, vle_iff]
  exact ⟨fun h i hi => by have := h i hi; omega, fun h i hi => by have := h i hi; omega⟩

end Go.Proofs.YtdnkhcbglmfjbaaDoor
