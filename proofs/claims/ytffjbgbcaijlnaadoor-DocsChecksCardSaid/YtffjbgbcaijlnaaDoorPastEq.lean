/- two events held against one another, and lists of them. -/
import Derived.Test.YtffjbgbcaijlnaaDoorDtEq
namespace Go.Proofs.YtffjbgbcaijlnaaDoor
open Go Go.RowKit
set_option linter.unusedVariables false
set_option maxRecDepth 1000000

theorem exec_neqE {o : Oper} {a : Act} (t : TypeId) (x y : Operand) (ho : o.op = .binOp .neq 23 x y t) (X Y : Dt) (b : Bool) (hb : (!eqDt X Y) = b) (hx : a.eval x = .agg #[.int .i64 X.1, .int .i64 X.2]) (hy : a.eval y = .agg #[.int .i64 Y.1, .int .i64 Y.2]) (w : World) :
    (execOp a.eval o).run Tryd.prog w = .ok (.value (.bool b)) w := by
  subst hb
  have h := neqDt X Y w
  unfold execOp
  simp only [ho, hx, hy]
  refine run_value_of ?_
  rw [Sem.run_bind]
  have hg : (eqGuard .neq 23 x y (.agg #[.int .i64 X.1, .int .i64 X.2]) (.agg #[.int .i64 Y.1, .int .i64 Y.2])).run Tryd.prog w = .ok () w := by
    unfold eqGuard
    go_simp
  rw [hg]
  exact h
theorem drow_at {w : World} {p : Option Addr} {l : List Dt} (h : DRow w p l) {k : Nat} (hk : k < l.length) : ∃ b o, p = some ⟨b, o, Option.none⟩ ∧ w.rangeAt b (o + k * 2) [.int .i64 l[k].1, .int .i64 l[k].2] := by
  have hne : l ≠ [] := by intro e; subst e; simp at hk
  obtain ⟨b, o, rfl, hr⟩ := h hne
  obtain ⟨d1, d2⟩ := dcl_get l k hk
  have r1 := hr _ _ d1; have r2 := hr _ _ d2
  refine ⟨b, o, rfl, fun j u hu => ?_⟩
  match j, hu with
  | 0, hu => simp at hu; subst hu; simpa using r1
  | 1, hu => simp at hu; subst hu; rw [Nat.add_assoc]; exact r2
  | j + 2, hu => simp at hu
set_option maxHeartbeats 8000000 in
set_option maxRecDepth 1000000 in
theorem equalW_is (p1 p2 : Option Addr) (c1 c2 : Nat) (l1 l2 : List Dt) (w : World) (h1 : DRow w p1 l1) (h2 : DRow w p2 l2) (hn : l1.length ≤ 1000000) (hn2 : l2.length ≤ 1000000) :
    Calls Tryd.prog 75 #[.slice p1 l1.length c1, .slice p2 l2.length c2] w (RetBool w (decide (l1 = l2))) := by
  have H1 := Lib.hid h1; have H2 := Lib.hid h2; clear h1 h2
  by_cases hlen : l1.length = l2.length
  · obtain ⟨m, hm⟩ : ∃ m, l2.length = m := ⟨_, rfl⟩
    rw [hlen, hm]
    have hl1 : Hid (l1.length = m) := hlen.trans hm
    have hl2 : Hid (l2.length = m) := hm
    have hmb : m ≤ 1000000 := by omega
    obtain ⟨bb, hbb⟩ : ∃ bb, decide (l1 = l2) = bb := ⟨_, rfl⟩
    rw [hbb]
    have HB := Lib.hid hbb
    clear hlen hm hn hn2 hbb
    go_enter Tryd.func75, Tryd.ntmps75
    go_wp2
    go_loopw [13] (fun i wr => ∃ k : Nat, k ≤ m ∧ i = .int .i64 k ∧ (∀ t, t < k → l1[t]? = l2[t]?) ∧ Below w.heap.size w wr) (fun i _ => m - (intOf i).toNat)
    case atStart => exact ⟨0, Nat.zero_le _, rfl, fun t h => by omega, Below.refl _ _⟩
    case round =>
      obtain ⟨k, hk, rfl, hall, hb⟩ := hrel
      have BB := Lib.hid hb; have HA := Lib.hid hall
      clear hb hall
      by_cases hkl : k < m
      · have hk1 : k < l1.length := by have := hl1.out; omega
        have hk2 : k < l2.length := by have := hl2.out; omega
        have hr := to_drew BB.out
        have HR := Lib.hid hr
        obtain ⟨b1, o1, rfl, q1⟩ := drow_at (H1.out.below hr) hk1
        obtain ⟨b2, o2, rfl, q2⟩ := drow_at (H2.out.below hr) hk2
        have Q1 := Lib.hid q1; have Q2 := Lib.hid q2
        clear q1 q2 hr
        have hkl' : (k : Int) < m := by omega
        obtain ⟨⟨x1, x2⟩, hx⟩ : ∃ x, l1[k] = x := ⟨_, rfl⟩
        obtain ⟨⟨y1, y2⟩, hy⟩ : ∃ y, l2[k] = y := ⟨_, rfl⟩
        have HX := Lib.hid hx; have HY := Lib.hid hy
        rw [hx] at Q1
        rw [hy] at Q2
        clear hx hy
        simp only at Q1 Q2
        obtain ⟨ne, hne⟩ : ∃ ne, (!eqDt (x1, x2) (y1, y2)) = ne := ⟨_, rfl⟩
        have NE := Lib.hid hne
        clear hne
        go_wp2_with fail
        rename_i K2 hK2
        have KE : K2 { tmps := #[.slice (some ⟨b1, o1, none⟩) m c1, .slice (some ⟨b2, o2, none⟩) m c2, undef, undef, u4, .int .i64 (k : Int), .slice (some ⟨b1, o1, none⟩) m c1, .int .i64 (m : Int), .slice (some ⟨b2, o2, none⟩) m c2, .int .i64 (m : Int), .bool false, .slice (some ⟨b1, o1, none⟩) m c1, .int .i64 (m : Int), .int .i64 (k : Int), .bool true, .int .i64 (k : Int), .slice (some ⟨b1, o1, none⟩) m c1, .int .i64 (k : Int), .pointer (some ⟨b1, o1 + k * 2, none⟩), .agg #[.int .i64 x1, .int .i64 x2], .slice (some ⟨b2, o2, none⟩) m c2, .int .i64 (k : Int), .pointer (some ⟨b2, o2 + k * 2, none⟩), .agg #[.int .i64 y1, .int .i64 y2], .bool ne, u25], defers := [] } wr.drew := by
          refine hK2 _ _ ?_
          clear hK2 Q1 Q2
          cases ne with
          | false =>
            have hxy : l1[k] = l2[k] := by
              rw [HX.out, HY.out]
              have h1 := NE.out
              simp only [Bool.not_eq_false'] at h1
              exact (eqDt_iff _ _).1 h1
            have HXY := Lib.hid hxy
            clear hxy
            go_wp2
            go_roundw
            case rel => exact ⟨k + 1, by omega, by go_num, fun t ht => by
              rcases Nat.lt_or_ge t k with h | h
              · exact HA.out t h
              · obtain rfl : t = k := by omega
                rw [List.getElem?_eq_getElem hk1, List.getElem?_eq_getElem hk2, HXY.out], HR.out⟩
            case measure => simp [intOf]; omega
          | true =>
            have hf : bb = false := by
              rw [← HB.out]
              refine decide_eq_false fun h => ?_
              have h1 : l1[k] = l2[k] := by simp only [h]
              rw [HX.out, HY.out] at h1
              have h2 := NE.out
              rw [(eqDt_iff _ _).2 h1] at h2
              cases h2
            subst hf
            go_wp2
            go_ret
            exact ⟨rfl, HR.out⟩
        have SZ : ∀ z1 z2 : Int, (Tryd.prog.info? 23).map (·.size) = some [Value.int .i64 z1, .int .i64 z2].length := fun z1 z2 => by kernel_rfl
        have m0 := And.intro Q1.out Q2.out
        refine rg_calm (by kernel_rfl) rfl (S := fun U => U.rangeAt b1 (o1 + k * 2) [.int .i64 x1, .int .i64 x2] ∧ U.rangeAt b2 (o2 + k * 2) [.int .i64 y1, .int .i64 y2]) ?_
        refine rgd_pure 0 (some 16) rfl rfl (.slice (some ⟨b1, o1, none⟩) m c1) (by kernel_rfl) (by kernel_rfl) (by kernel_rfl) (fun _ _ _ _ h => h) (by kernel_rfl) (fun w => by kernel_rfl) m0 ?_
        refine rgd_pure 1 (some 17) rfl rfl (.int .i64 (k : Int)) (by kernel_rfl) (by kernel_rfl) (by kernel_rfl) (fun _ _ _ _ h => h) (by kernel_rfl) (fun w => by kernel_rfl) m0 ?_
        refine rgd_pure 2 (some 18) rfl rfl (.pointer (some ⟨b1, o1 + k * 2, none⟩)) (by kernel_rfl) (by kernel_rfl) (by kernel_rfl) (fun _ _ _ _ h => h) (by kernel_rfl) (exec_idxD _ _ rfl b1 o1 m c1 k (by kernel_rfl) (by kernel_rfl) hkl) m0 ?_
        refine rgd_pureS 3 (some 19) rfl rfl (.agg #[.int .i64 x1, .int .i64 x2]) (by kernel_rfl) (by kernel_rfl) (by kernel_rfl) (fun _ _ _ _ h => h) (by kernel_rfl) (fun U hU => exec_gload 23 _ rfl b1 (o1 + k * 2) (by kernel_rfl) _ hU.1 Tryd.underlying23 rfl (SZ x1 x2)) m0 ?_
        refine rgd_pure 4 (some 20) rfl rfl (.slice (some ⟨b2, o2, none⟩) m c2) (by kernel_rfl) (by kernel_rfl) (by kernel_rfl) (fun _ _ _ _ h => h) (by kernel_rfl) (fun w => by kernel_rfl) m0 ?_
        refine rgd_pure 5 (some 21) rfl rfl (.int .i64 (k : Int)) (by kernel_rfl) (by kernel_rfl) (by kernel_rfl) (fun _ _ _ _ h => h) (by kernel_rfl) (fun w => by kernel_rfl) m0 ?_
        refine rgd_pure 6 (some 22) rfl rfl (.pointer (some ⟨b2, o2 + k * 2, none⟩)) (by kernel_rfl) (by kernel_rfl) (by kernel_rfl) (fun _ _ _ _ h => h) (by kernel_rfl) (exec_idxD _ _ rfl b2 o2 m c2 k (by kernel_rfl) (by kernel_rfl) hkl) m0 ?_
        refine rgd_pureS 7 (some 23) rfl rfl (.agg #[.int .i64 y1, .int .i64 y2]) (by kernel_rfl) (by kernel_rfl) (by kernel_rfl) (fun _ _ _ _ h => h) (by kernel_rfl) (fun U hU => exec_gload 23 _ rfl b2 (o2 + k * 2) (by kernel_rfl) _ hU.2 Tryd.underlying23 rfl (SZ y1 y2)) m0 ?_
        refine rgd_pure 8 (some 24) rfl rfl (.bool ne) (by kernel_rfl) (by kernel_rfl) (by kernel_rfl) (fun _ _ _ _ h => h) (by kernel_rfl) (exec_neqE _ _ _ rfl (x1, x2) (y1, y2) ne NE.out (by kernel_rfl) (by kernel_rfl)) m0 ?_
        exact wpAnyH_done (by kernel_rfl) (Eq.mp (by kernel_rfl) KE) _
      · obtain rfl : k = m := by omega
        have ht : bb = true := by
          rw [← HB.out]
          refine decide_eq_true (List.ext_getElem (by rw [hl1.out, hl2.out]) fun t h1 h2 => ?_)
          have := HA.out t (by rw [← hl1.out]; exact h1)
          simpa [List.getElem?_eq_getElem h1, List.getElem?_eq_getElem h2] using this
        subst ht
        go_wp2
        go_ret
        exact ⟨rfl, BB.out⟩
  · have hf : decide (l1 = l2) = false := decide_eq_false (fun h => hlen (by rw [h]))
    rw [hf]
    have hne : ((l1.length : Int) != (l2.length : Int)) = true := by simp; omega
    clear hf
    go_enter Tryd.func75, Tryd.ntmps75
    go_wp2
    go_ret
    exact ⟨rfl, Below.refl _ _⟩
end Go.Proofs.YtffjbgbcaijlnaaDoor
