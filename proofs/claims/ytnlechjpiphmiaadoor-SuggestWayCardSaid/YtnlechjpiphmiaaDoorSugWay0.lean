/- SuggestWay: what its regions want. -/
import Derived.Test.YtnlechjpiphmiaaDoorSugRef
import Derived.Test.YtnlechjpiphmiaaDoorSugPlain
import Derived.Test.YtnlechjpiphmiaaDoorRgMore
import Derived.Deep.QuietTactic
import Derived.BigQuiet
namespace Go.Proofs.YtnlechjpiphmiaaDoor
open Go Go.RowKit
set_option linter.unusedVariables false

section
variable {P : Program} {ops : Array Oper} {o : Oper} {a : Act} {w : World} {Q : Exit → Act → World → Prop} {S : World → Prop} {md : Region.Mode} {fuel : Nat} {listed : Array Bool}
/-- two calls, whichever comes up first -/
theorem rg_calls {o2 : Oper} (i j : Nat) (d d2 : Option Tmp) (hr : Region.ready md ops listed = [i, j]) (hi : ops[i]? = some o) (hd : o.dst = d) (hw : Region.wanted o (yielded ops a.tmps) = true) (f : FuncId) (args : Array Value) {Post : Ending → World → Prop} (hrun : (execOp a.eval o).run P w = .ok (.enter f args) w) (hc : Calls P f args w Post)
    (hj : ops[j]? = some o2) (hd2 : o2.dst = d2) (hw2 : Region.wanted o2 (yielded ops a.tmps) = true) (f2 : FuncId) (args2 : Array Value) {Post2 : Ending → World → Prop} (hrun2 : (execOp a.eval o2).run P w = .ok (.enter f2 args2) w) (hc2 : Calls P f2 args2 w Post2)
    (h : ∀ e w', Post e w' → ∃ v, e = .returned v ∧ S w' ∧ wpAnyH P md ops Q S fuel (listed.setIfInBounds i true) (a.put d v) w')
    (h2 : ∀ e w', Post2 e w' → ∃ v, e = .returned v ∧ S w' ∧ wpAnyH P md ops Q S fuel (listed.setIfInBounds j true) (a.put d2 v) w') : wpAnyH P md ops Q S (fuel + 1) listed a w := by
  subst hd; subst hd2
  exact wpAnyH_all hr (by simp) fun k hk => by
    rcases List.mem_cons.1 hk with rfl | hk
    · exact wpOp_callG hi hw f args hrun hc fun e w' he => by obtain ⟨v, h1, h3, h4⟩ := h e w' he; exact ⟨v, h1, h3, h4⟩
    · obtain rfl := List.mem_singleton.1 hk
      exact wpOp_callG hj hw2 f2 args2 hrun2 hc2 fun e w' he => by obtain ⟨v, h1, h3, h4⟩ := h2 e w' he; exact ⟨v, h1, h3, h4⟩
theorem exec_cutToS (t : TypeId) (x y : Operand) (ho : o.op = .slice t x none (some y) none) (ht : P.underlying t = some .string) (s : ByteArray) (J : Nat) (hx : a.eval x = .string s) (hy : a.eval y = .int .i64 (J : Int)) (hJ : J ≤ s.size) (w : World) :
    (execOp a.eval o).run P w = .ok (.value (.string (s.extract 0 J))) w := by
  unfold execOp
  simp only [ho, hx, hy, Option.map_some, Option.map_none]
  refine run_value_of ?_
  rw [run_sliceAt_string (h := ht), run_slice_string_h (ht := ht) (h0 := by omega) (h2 := by omega)]
  rfl
end
/-- two lists of ints held against one another -/
theorem neI (x y : Int) (h : ¬ x = y) : (x != y) = true := by simp [h]
set_option maxHeartbeats 2000000 in
theorem equalI_gen (p1 p2 : Option Addr) (c1 c2 : Nat) (l1 l2 : List Int) (w : World) (h1 : LiesI w p1 l1) (h2 : LiesI w p2 l2) (hn : l1.length ≤ 1000000) (hn2 : l2.length ≤ 1000000) :
    Calls Tryd.prog 18 #[.slice p1 l1.length c1, .slice p2 l2.length c2] w fun e w' => e = .returned (.bool (decide (l1 = l2))) ∧ Below w.heap.size w w' := by
  have H1 := Lib.hid h1; have H2 := Lib.hid h2; clear h1 h2
  by_cases hlen : l1.length = l2.length
  · have HL := Lib.hid hlen
    obtain ⟨m, hm⟩ : ∃ m, l2.length = m := ⟨_, rfl⟩
    rw [hlen, hm]
    have hl1 : Hid (l1.length = m) := hlen.trans hm
    have hl2 : Hid (l2.length = m) := hm
    have hmb : m ≤ 1000000 := by omega
    obtain ⟨bb, hbb⟩ : ∃ bb, decide (l1 = l2) = bb := ⟨_, rfl⟩
    rw [hbb]
    have HB := Lib.hid hbb
    clear hlen hm hn hn2 hbb
    go_enter Tryd.func18, Tryd.ntmps18
    go_wp2
    go_loopw [13] (fun i wr => ∃ k : Nat, k ≤ m ∧ i = .int .i64 k ∧ (∀ t, t < k → l1.getD t 0 = l2.getD t 0) ∧ Below w.heap.size w wr) (fun i _ => m - (intOf i).toNat)
    case atStart => exact ⟨0, Nat.zero_le _, rfl, fun t h => by omega, Below.refl _ _⟩
    case round =>
      obtain ⟨k, hk, rfl, hall, hb⟩ := hrel
      have BB := Lib.hid hb; have HA := Lib.hid hall
      clear hb hall
      by_cases hkl : k < m
      · obtain ⟨b1, o1, rfl, _, q1⟩ := (H1.out.below BB.out).at (by have := hl1.out; omega)
        obtain ⟨b2, o2, rfl, _, q2⟩ := (H2.out.below BB.out).at (by have := hl2.out; omega)
        have r1 := q1 k (by have := hl1.out; omega); have r2 := q2 k (by have := hl2.out; omega)
        clear q1 q2
        have hkl' : (k : Int) < m := by omega
        by_cases hxy : l1.getD k 0 = l2.getD k 0
        · have HX := Lib.hid hxy
          rw [hxy] at r1
          clear hxy
          generalize l2.getD k 0 = x at r1 r2
          go_wp2
          go_quiet (fail)
          go_wp2
          go_roundw
          case rel => exact ⟨k + 1, by omega, by go_num, fun t ht => by
            rcases Nat.lt_or_ge t k with h | h
            · exact HA.out t h
            · obtain rfl : t = k := by omega
              exact HX.out, ⟨BB.out.os, BB.out.tape, BB.out.output, BB.out.size, BB.out.block⟩⟩
          case measure => simp [intOf]; omega
        · have hf : bb = false := by rw [← HB.out]; exact decide_eq_false (fun h => hxy (by rw [h]))
          subst hf
          have hb1 := neI _ _ hxy
          generalize l1.getD k 0 = x at r1 hb1
          generalize l2.getD k 0 = y at r2 hb1
          clear hxy
          go_wp2
          go_quiet (fail)
          go_wp2
          go_ret
          exact ⟨rfl, ⟨BB.out.os, BB.out.tape, BB.out.output, BB.out.size, BB.out.block⟩⟩
      · obtain rfl : k = m := by omega
        have ht : bb = true := by
          rw [← HB.out]
          refine decide_eq_true (List.ext_getElem (by rw [hl1.out, hl2.out]) fun t h1 h2 => ?_)
          have := HA.out t (by rw [← hl1.out]; exact h1)
          simpa [List.getD, List.getElem?_eq_getElem h1, List.getElem?_eq_getElem h2] using this
        subst ht
        go_wp2
        go_ret
        exact ⟨rfl, BB.out⟩
  · have hf : decide (l1 = l2) = false := decide_eq_false (fun h => hlen (by rw [h]))
    rw [hf]
    have hne : ((l1.length : Int) != (l2.length : Int)) = true := by simp; omega
    clear hf
    go_enter Tryd.func18, Tryd.ntmps18
    go_wp2
    go_ret
    exact ⟨rfl, Below.refl _ _⟩
end Go.Proofs.YtnlechjpiphmiaaDoor
