/- The statement DocsReads, proved for every input that its row reads: part 19 of 54. -/
import Derived.Test.YtijmijokgenflaaGreatDoorPackDocsReads10
import Derived.Test.YtijmijokgenflaaGreatDoorPackDocsReads7
import Derived.Test.YtijmijokgenflaaGreatDoorPackDocsReads18
import Derived.Test.YtijmijokgenflaaGreatDoorPackDocsReads8
/- Which dots an event may take away. -/
namespace Go.Proofs.YtijmijokgenflaaGreatDoor
open Go Go.RowKit
set_option linter.unusedVariables false
set_option maxRecDepth 1000000

/-- may these be the dots that an event of that dot takes away? -/
def GoP (l : List Dt) (by_ : Dt) : Prop := l.length ≤ 120 ∧ (∀ i (h : i < l.length), vl l[i] = true ∧ l[i] ≠ by_) ∧ ∀ i (h : i + 1 < l.length), ltD l[i] l[i + 1] = true
noncomputable def goB (l : List Dt) (by_ : Dt) : Bool := @decide (GoP l by_) (Classical.propDecidable _)
theorem goB_iff {l : List Dt} {y : Dt} : goB l y = true ↔ GoP l y := @decide_eq_true_iff _ (Classical.propDecidable _)
theorem goB_no {l : List Dt} {y : Dt} (h : ¬ GoP l y) : goB l y = false := by
  cases e : goB l y with
  | false => rfl
  | true => exact absurd (goB_iff.1 e) h
theorem go_long {l : List Dt} {y : Dt} (h : 120 < l.length) : goB l y = false := goB_no fun h2 => by have := h2.1; omega
theorem go_bad {l : List Dt} {y : Dt} {k : Nat} (h : k < l.length) (h2 : vl l[k] = false ∨ l[k] = y) : goB l y = false := goB_no fun h3 => by
  have := h3.2.1 k h
  rcases h2 with h2 | h2
  · rw [h2] at this; cases this.1
  · exact this.2 h2
theorem go_order {l : List Dt} {y : Dt} {k : Nat} (h : k + 1 < l.length) (h2 : ltD l[k] l[k + 1] = false) : goB l y = false := goB_no fun h3 => by
  have := h3.2.2 k h
  rw [h2] at this; cases this
theorem range_nil (w : World) (b o : Nat) : w.rangeAt b o [] := fun j v hq => by cases hq
theorem exec_eqlE {o : Oper} {a : Act} (t : TypeId) (x y : Operand) (ho : o.op = .binOp .eql 37 x y t) (X Y : Dt) (b : Bool) (hb : eqDt X Y = b) (hx : a.eval x = .agg #[.int .i64 X.1, .int .i64 X.2]) (hy : a.eval y = .agg #[.int .i64 Y.1, .int .i64 Y.2]) (w : World) :
    (execOp a.eval o).run Tryz.prog w = .ok (.value (.bool b)) w := by
  subst hb
  have h := eqlDt X Y w
  unfold execOp
  simp only [ho, hx, hy]
  refine run_value_of ?_
  rw [Sem.run_bind]
  have hg : (eqGuard .eql 37 x y (.agg #[.int .i64 X.1, .int .i64 X.2]) (.agg #[.int .i64 Y.1, .int .i64 Y.2])).run Tryz.prog w = .ok () w := by
    unfold eqGuard
    go_simp
  rw [hg]
  exact h
theorem exec_gtrB {P : Program} {o : Oper} {a : Act} (t yt : TypeId) (x y : Operand) (ho : o.op = .binOp .gtr t x y yt) (X Y : Int) (b : Bool) (hb : decide (X > Y) = b) (hx : a.eval x = .int .i64 X) (hy : a.eval y = .int .i64 Y) (w : World) :
    (execOp a.eval o).run P w = .ok (.value (.bool b)) w := by
  subst hb
  unfold execOp
  simp only [ho, hx, hy]
  rfl
theorem exec_geqB {P : Program} {o : Oper} {a : Act} (t yt : TypeId) (x y : Operand) (ho : o.op = .binOp .geq t x y yt) (X Y : Int) (b : Bool) (hb : decide (X ≥ Y) = b) (hx : a.eval x = .int .i64 X) (hy : a.eval y = .int .i64 Y) (w : World) :
    (execOp a.eval o).run P w = .ok (.value (.bool b)) w := by
  subst hb
  unfold execOp
  simp only [ho, hx, hy]
  rfl
set_option maxHeartbeats 8000000 in
set_option maxRecDepth 1000000 in
theorem mayGo_is (p : Option Addr) (c : Nat) (l : List Dt) (y1 y2 : Int) (w : World) (h : DRow w p l) :
    Calls Tryz.prog 69 #[.slice p l.length c, .agg (dcs y1 y2)] w (RetBool w (goB l (y1, y2))) := by
  have H := Lib.hid h; clear h
  obtain ⟨b, hb⟩ : ∃ b, goB l (y1, y2) = b := ⟨_, rfl⟩
  rw [hb]
  have HB := Lib.hid hb; clear hb
  obtain ⟨n, hn⟩ : ∃ n, l.length = n := ⟨_, rfl⟩
  rw [hn]
  have HN := Lib.hid hn; clear hn
  by_cases h120 : n > 120
  · have h120' : (n : Int) > 120 := by omega
    have hf : b = false := by rw [← HB.out]; exact go_long (by rw [HN.out]; omega)
    subst hf
    go_enter Tryz.func69, Tryz.ntmps69
    go_wp2_with (refine wpList_gbox rfl _ rfl (dcs y1 y2) rfl ?_)
    intro g3 w1 l3 h3 hb1
    have B1 := Lib.hid hb1
    clear hb1 h3
    go_wp2
    go_ret
    exact ⟨rfl, B1.out⟩
  · have h120' : ¬ (n : Int) > 120 := by omega
    go_enter Tryz.func69, Tryz.ntmps69
    go_wp2_with (refine wpList_gbox rfl _ rfl (dcs y1 y2) rfl ?_)
    intro g3 w1 l3 h3 hb1
    have B1 := Lib.hid hb1
    have Y1 := Lib.hid (range_of_block h3)
    clear hb1 h3
    go_wp2
    go_loopw [12] (fun i wr => ∃ k : Nat, k ≤ n ∧ i = .int .i64 k ∧ (∀ i (h : i < l.length), i < k → vl l[i] = true ∧ l[i] ≠ (y1, y2)) ∧ (∀ i (h : i + 1 < l.length), i + 1 < k → ltD l[i] l[i + 1] = true) ∧ Below w1.heap.size w1 wr) (fun i _ => n - (intOf i).toNat)
    case atStart => exact ⟨0, Nat.zero_le _, rfl, fun i _ h => by omega, fun i _ h => by omega, Below.refl _ _⟩
    case round =>
      obtain ⟨k, hk, rfl, hall, hord, hb⟩ := hrel
      have BB := Lib.hid hb; have HA := Lib.hid hall; have HO := Lib.hid hord
      clear hall hord hb
      by_cases hkl : k < n
      · have hkl' : (k : Int) < n := by omega
        have hk1 : k < l.length := by rw [HN.out]; exact hkl
        have hr := thenBelow B1.out BB.out
        have HR := Lib.hid hr
        have HD := Lib.hid (H.out.below hr)
        obtain ⟨b1, o1, hpe, q1⟩ := drow_at HD.out hk1
        subst hpe
        have d0 := q1 0 _ rfl
        have d1 := q1 1 _ rfl
        have Q1 := Lib.hid q1
        clear q1 hr
        obtain ⟨⟨x1, x2⟩, hx⟩ : ∃ x, l[k] = x := ⟨_, rfl⟩
        have HX := Lib.hid hx
        rw [hx] at Q1 d0 d1
        clear hx
        simp only [Nat.add_zero] at Q1 d0 d1
        have n6 := heap_alloc_new wr (.cells #[.int .i64 x1, .int .i64 x2] 37)
        have b6 := below_alloc wr (.cells #[.int .i64 x1, .int .i64 x2] 37)
        have N6 := Lib.hid (show (wr.alloc (.cells #[.int .i64 x1, .int .i64 x2] 37)).drew.rangeAt wr.heap.size 0 [.int .i64 x1, .int .i64 x2] from range_of_block n6)
        have Y6 := Lib.hid (range_below Y1.out (to_drew (thenBelow BB.out b6)))
        have Y6 : Hid ((wr.alloc (.cells #[.int .i64 x1, .int .i64 x2] 37)).drew.rangeAt g3 0 [.int .i64 y1, .int .i64 y2]) := Y6
        have B6 := Lib.hid (to_drew (thenBelow BB.out b6))
        have L6 := Lib.hid (H.out.below (to_drew (thenBelow HR.out b6)))
        have SZ : ∀ z1 z2 : Int, (Tryz.prog.info? 37).map (·.size) = some [Value.int .i64 z1, .int .i64 z2].length := fun z1 z2 => by kernel_rfl
        clear n6 b6
        go_wp2_with fail
        rename_i K2 hK2
        generalize hW : wr.alloc (.cells #[.int .i64 x1, .int .i64 x2] 37) = W6 at N6 Y6 B6 L6 ⊢
        generalize hG : wr.heap.size = G6 at N6 ⊢
        clear hW hG d0 d1
        cases hv : vldB x1 x2 with
        | false =>
          have VA := Lib.hid (fun W : World => valid_is x1 x2 W)
          rw [hv] at VA
          have hf : b = false := by rw [← HB.out]; exact go_bad hk1 (.inl (by rw [HX.out]; exact hv))
          subst hf
          clear hv
          refine rg_calm (by kernel_rfl) rfl (S := fun U => U.rangeAt G6 0 [.int .i64 x1, .int .i64 x2] ∧ U.rangeAt g3 0 [.int .i64 y1, .int .i64 y2] ∧ U.rangeAt b1 0 [] ∧ Below w1.heap.size w1 U) ?_
          have m0 := And.intro N6.out (And.intro Y6.out (And.intro (range_nil W6.drew b1 0) B6.out))
          have keep : ∀ U U' : World, Below U.heap.size U U' → U.rangeAt G6 0 [.int .i64 x1, .int .i64 x2] ∧ U.rangeAt g3 0 [.int .i64 y1, .int .i64 y2] ∧ U.rangeAt b1 0 [] ∧ Below w1.heap.size w1 U → U'.rangeAt G6 0 [.int .i64 x1, .int .i64 x2] ∧ U'.rangeAt g3 0 [.int .i64 y1, .int .i64 y2] ∧ U'.rangeAt b1 0 [] ∧ Below w1.heap.size w1 U' := fun U U' hb h => ⟨range_below h.1 hb, range_below h.2.1 hb, range_below h.2.2.1 hb, thenBelow h.2.2.2 hb⟩
          refine rgd_pureS 0 (some 17) rfl rfl (.agg #[.int .i64 x1, .int .i64 x2]) (by kernel_rfl) (by kernel_rfl) (by kernel_rfl) (fun _ _ _ _ h => h) (by kernel_rfl) (fun U hU => exec_gload 37 _ rfl G6 (0) (by kernel_rfl) _ hU.1 Tryz.underlying37 rfl (SZ x1 x2)) m0 ?_
          refine rgd_call 1 (some 18) (by kernel_rfl) rfl rfl (by kernel_rfl) 64 (#[.agg (dcs x1 x2)]) (by kernel_rfl) (VA.out _) ?_
          rintro _ U1 ⟨rfl, bU1⟩
          have m1 := keep _ _ bU1 m0
          refine ⟨_, rfl, m1, ?_⟩
          refine rgd_pure 2 (some 19) rfl rfl (.bool true) (by kernel_rfl) (by kernel_rfl) (by kernel_rfl) (fun _ _ _ _ h => h) (by kernel_rfl) (fun w => by kernel_rfl) m1 ?_
          refine rgd_pure 3 (some 20) rfl rfl (.bool true) (by kernel_rfl) (by kernel_rfl) (by kernel_rfl) (fun _ _ _ _ h => h) (by kernel_rfl) (fun w => by kernel_rfl) m1 ?_
          refine rgd_skip 4 (some 21) rfl rfl (by kernel_rfl) (by kernel_rfl) (by kernel_rfl) (fun _ _ _ _ h => h) (by kernel_rfl) m1 ?_
          refine rgd_skip 5 (some 22) rfl rfl (by kernel_rfl) (by kernel_rfl) (by kernel_rfl) (fun _ _ _ _ h => h) (by kernel_rfl) m1 ?_
          refine rgd_skip 6 (some 23) rfl rfl (by kernel_rfl) (by kernel_rfl) (by kernel_rfl) (fun _ _ _ _ h => h) (by kernel_rfl) m1 ?_
          refine rgd_pure 7 (some 24) rfl rfl (.bool true) (by kernel_rfl) (by kernel_rfl) (by kernel_rfl) (fun _ _ _ _ h => h) (by kernel_rfl) (fun w => by kernel_rfl) m1 ?_
          refine rgd_pure 8 (some 25) rfl rfl (.bool true) (by kernel_rfl) (by kernel_rfl) (by kernel_rfl) (fun _ _ _ _ h => h) (by kernel_rfl) (fun w => by kernel_rfl) m1 ?_
          refine rgd_skip 9 (some 26) rfl rfl (by kernel_rfl) (by kernel_rfl) (by kernel_rfl) (fun _ _ _ _ h => h) (by kernel_rfl) m1 ?_
          refine rgd_skip 10 (some 27) rfl rfl (by kernel_rfl) (by kernel_rfl) (by kernel_rfl) (fun _ _ _ _ h => h) (by kernel_rfl) m1 ?_
          refine rgd_skip 11 (some 28) rfl rfl (by kernel_rfl) (by kernel_rfl) (by kernel_rfl) (fun _ _ _ _ h => h) (by kernel_rfl) m1 ?_
          refine rgd_skip 12 (some 29) rfl rfl (by kernel_rfl) (by kernel_rfl) (by kernel_rfl) (fun _ _ _ _ h => h) (by kernel_rfl) m1 ?_
          refine rgd_skip 13 (some 30) rfl rfl (by kernel_rfl) (by kernel_rfl) (by kernel_rfl) (fun _ _ _ _ h => h) (by kernel_rfl) m1 ?_
          refine rgd_skip 14 (some 31) rfl rfl (by kernel_rfl) (by kernel_rfl) (by kernel_rfl) (fun _ _ _ _ h => h) (by kernel_rfl) m1 ?_
          refine rgd_skip 15 (some 32) rfl rfl (by kernel_rfl) (by kernel_rfl) (by kernel_rfl) (fun _ _ _ _ h => h) (by kernel_rfl) m1 ?_
          refine rgd_skip 16 (some 33) rfl rfl (by kernel_rfl) (by kernel_rfl) (by kernel_rfl) (fun _ _ _ _ h => h) (by kernel_rfl) m1 ?_
          refine rgd_skip 17 (some 34) rfl rfl (by kernel_rfl) (by kernel_rfl) (by kernel_rfl) (fun _ _ _ _ h => h) (by kernel_rfl) m1 ?_
          refine rgd_skip 18 (some 35) rfl rfl (by kernel_rfl) (by kernel_rfl) (by kernel_rfl) (fun _ _ _ _ h => h) (by kernel_rfl) m1 ?_
          refine rgd_skip 19 (some 36) rfl rfl (by kernel_rfl) (by kernel_rfl) (by kernel_rfl) (fun _ _ _ _ h => h) (by kernel_rfl) m1 ?_
          refine rgd_skip 20 (some 37) rfl rfl (by kernel_rfl) (by kernel_rfl) (by kernel_rfl) (fun _ _ _ _ h => h) (by kernel_rfl) m1 ?_
          refine rgd_pure 21 (some 38) rfl rfl (.bool true) (by kernel_rfl) (by kernel_rfl) (by kernel_rfl) (fun _ _ _ _ h => h) (by kernel_rfl) (fun w => by kernel_rfl) m1 ?_
          have BU := Lib.hid m1.2.2.2
          have KE : K2 { tmps := #[.slice (some ⟨b1, o1, none⟩) n c, .agg (dcs y1 y2), undef, .pointer (some ⟨g3, 0, none⟩), u4, .int .i64 (k : Int), .pointer (some ⟨G6, 0, none⟩), .slice (some ⟨b1, o1, none⟩) n c, .int .i64 (n : Int), .bool (decide (120 < (n : Int))), .slice (some ⟨b1, o1, none⟩) n c, .int .i64 (n : Int), .int .i64 (k : Int), .bool true, .int .i64 (k : Int), .pointer (some ⟨b1, o1 + k * 2, none⟩), .agg #[.int .i64 x1, .int .i64 x2], .agg #[.int .i64 x1, .int .i64 x2], .bool false, .bool true, .bool true, undef, undef, undef, .bool true, .bool true, undef, undef, undef, undef, undef, undef, undef, undef, undef, undef, undef, undef, .bool true, u39], defers := [] } U1 := by
            refine hK2 _ _ ?_
            clear hK2 keep m0 m1
            go_wp2
            go_ret
            exact ⟨rfl, thenBelow B1.out BU.out⟩
          exact wpAnyH_done (by kernel_rfl) (Eq.mp (by kernel_rfl) KE) _
        | true =>
          have VA := Lib.hid (fun W : World => valid_is x1 x2 W)
          rw [hv] at VA
          have HV := Lib.hid hv
          clear hv
          by_cases he : ((x1, x2) : Dt) = (y1, y2)
          · have EQ := Lib.hid ((eqDt_iff _ _).2 he)
            have hf : b = false := by rw [← HB.out]; exact go_bad hk1 (.inr (by rw [HX.out]; exact he))
            subst hf
            clear he
            refine rg_calm (by kernel_rfl) rfl (S := fun U => U.rangeAt G6 0 [.int .i64 x1, .int .i64 x2] ∧ U.rangeAt g3 0 [.int .i64 y1, .int .i64 y2] ∧ U.rangeAt b1 0 [] ∧ Below w1.heap.size w1 U) ?_
            have m0 := And.intro N6.out (And.intro Y6.out (And.intro (range_nil W6.drew b1 0) B6.out))
            have keep : ∀ U U' : World, Below U.heap.size U U' → U.rangeAt G6 0 [.int .i64 x1, .int .i64 x2] ∧ U.rangeAt g3 0 [.int .i64 y1, .int .i64 y2] ∧ U.rangeAt b1 0 [] ∧ Below w1.heap.size w1 U → U'.rangeAt G6 0 [.int .i64 x1, .int .i64 x2] ∧ U'.rangeAt g3 0 [.int .i64 y1, .int .i64 y2] ∧ U'.rangeAt b1 0 [] ∧ Below w1.heap.size w1 U' := fun U U' hb h => ⟨range_below h.1 hb, range_below h.2.1 hb, range_below h.2.2.1 hb, thenBelow h.2.2.2 hb⟩
            refine rgd_pureS 0 (some 17) rfl rfl (.agg #[.int .i64 x1, .int .i64 x2]) (by kernel_rfl) (by kernel_rfl) (by kernel_rfl) (fun _ _ _ _ h => h) (by kernel_rfl) (fun U hU => exec_gload 37 _ rfl G6 (0) (by kernel_rfl) _ hU.1 Tryz.underlying37 rfl (SZ x1 x2)) m0 ?_
            refine rgd_call 1 (some 18) (by kernel_rfl) rfl rfl (by kernel_rfl) 64 (#[.agg (dcs x1 x2)]) (by kernel_rfl) (VA.out _) ?_
            rintro _ U1 ⟨rfl, bU1⟩
            have m1 := keep _ _ bU1 m0
            refine ⟨_, rfl, m1, ?_⟩
            refine rgd_pure 2 (some 19) rfl rfl (.bool false) (by kernel_rfl) (by kernel_rfl) (by kernel_rfl) (fun _ _ _ _ h => h) (by kernel_rfl) (fun w => by kernel_rfl) m1 ?_
            refine rgd_pure 3 (some 20) rfl rfl (.bool false) (by kernel_rfl) (by kernel_rfl) (by kernel_rfl) (fun _ _ _ _ h => h) (by kernel_rfl) (fun w => by kernel_rfl) m1 ?_
            refine rgd_pureS 4 (some 21) rfl rfl (.agg #[.int .i64 x1, .int .i64 x2]) (by kernel_rfl) (by kernel_rfl) (by kernel_rfl) (fun _ _ _ _ h => h) (by kernel_rfl) (fun U hU => exec_gload 37 _ rfl G6 (0) (by kernel_rfl) _ hU.1 Tryz.underlying37 rfl (SZ x1 x2)) m1 ?_
            refine rgd_pureS 5 (some 22) rfl rfl (.agg #[.int .i64 y1, .int .i64 y2]) (by kernel_rfl) (by kernel_rfl) (by kernel_rfl) (fun _ _ _ _ h => h) (by kernel_rfl) (fun U hU => exec_gload 37 _ rfl g3 (0) (by kernel_rfl) _ hU.2.1 Tryz.underlying37 rfl (SZ y1 y2)) m1 ?_
            refine rgd_pure 6 (some 23) rfl rfl (.bool true) (by kernel_rfl) (by kernel_rfl) (by kernel_rfl) (fun _ _ _ _ h => h) (by kernel_rfl) (exec_eqlE _ _ _ rfl (x1, x2) (y1, y2) true EQ.out (by kernel_rfl) (by kernel_rfl)) m1 ?_
            refine rgd_pure 7 (some 24) rfl rfl (.bool true) (by kernel_rfl) (by kernel_rfl) (by kernel_rfl) (fun _ _ _ _ h => h) (by kernel_rfl) (fun w => by kernel_rfl) m1 ?_
            refine rgd_pure 8 (some 25) rfl rfl (.bool true) (by kernel_rfl) (by kernel_rfl) (by kernel_rfl) (fun _ _ _ _ h => h) (by kernel_rfl) (fun w => by kernel_rfl) m1 ?_
            refine rgd_skip 9 (some 26) rfl rfl (by kernel_rfl) (by kernel_rfl) (by kernel_rfl) (fun _ _ _ _ h => h) (by kernel_rfl) m1 ?_
            refine rgd_skip 10 (some 27) rfl rfl (by kernel_rfl) (by kernel_rfl) (by kernel_rfl) (fun _ _ _ _ h => h) (by kernel_rfl) m1 ?_
            refine rgd_skip 11 (some 28) rfl rfl (by kernel_rfl) (by kernel_rfl) (by kernel_rfl) (fun _ _ _ _ h => h) (by kernel_rfl) m1 ?_
            refine rgd_skip 12 (some 29) rfl rfl (by kernel_rfl) (by kernel_rfl) (by kernel_rfl) (fun _ _ _ _ h => h) (by kernel_rfl) m1 ?_
            refine rgd_skip 13 (some 30) rfl rfl (by kernel_rfl) (by kernel_rfl) (by kernel_rfl) (fun _ _ _ _ h => h) (by kernel_rfl) m1 ?_
            refine rgd_skip 14 (some 31) rfl rfl (by kernel_rfl) (by kernel_rfl) (by kernel_rfl) (fun _ _ _ _ h => h) (by kernel_rfl) m1 ?_
            refine rgd_skip 15 (some 32) rfl rfl (by kernel_rfl) (by kernel_rfl) (by kernel_rfl) (fun _ _ _ _ h => h) (by kernel_rfl) m1 ?_
            refine rgd_skip 16 (some 33) rfl rfl (by kernel_rfl) (by kernel_rfl) (by kernel_rfl) (fun _ _ _ _ h => h) (by kernel_rfl) m1 ?_
            refine rgd_skip 17 (some 34) rfl rfl (by kernel_rfl) (by kernel_rfl) (by kernel_rfl) (fun _ _ _ _ h => h) (by kernel_rfl) m1 ?_
            refine rgd_skip 18 (some 35) rfl rfl (by kernel_rfl) (by kernel_rfl) (by kernel_rfl) (fun _ _ _ _ h => h) (by kernel_rfl) m1 ?_
            refine rgd_skip 19 (some 36) rfl rfl (by kernel_rfl) (by kernel_rfl) (by kernel_rfl) (fun _ _ _ _ h => h) (by kernel_rfl) m1 ?_
            refine rgd_skip 20 (some 37) rfl rfl (by kernel_rfl) (by kernel_rfl) (by kernel_rfl) (fun _ _ _ _ h => h) (by kernel_rfl) m1 ?_
            refine rgd_pure 21 (some 38) rfl rfl (.bool true) (by kernel_rfl) (by kernel_rfl) (by kernel_rfl) (fun _ _ _ _ h => h) (by kernel_rfl) (fun w => by kernel_rfl) m1 ?_
            have BU := Lib.hid m1.2.2.2
            have KE : K2 { tmps := #[.slice (some ⟨b1, o1, none⟩) n c, .agg (dcs y1 y2), undef, .pointer (some ⟨g3, 0, none⟩), u4, .int .i64 (k : Int), .pointer (some ⟨G6, 0, none⟩), .slice (some ⟨b1, o1, none⟩) n c, .int .i64 (n : Int), .bool (decide (120 < (n : Int))), .slice (some ⟨b1, o1, none⟩) n c, .int .i64 (n : Int), .int .i64 (k : Int), .bool true, .int .i64 (k : Int), .pointer (some ⟨b1, o1 + k * 2, none⟩), .agg #[.int .i64 x1, .int .i64 x2], .agg #[.int .i64 x1, .int .i64 x2], .bool true, .bool false, .bool false, .agg #[.int .i64 x1, .int .i64 x2], .agg #[.int .i64 y1, .int .i64 y2], .bool true, .bool true, .bool true, undef, undef, undef, undef, undef, undef, undef, undef, undef, undef, undef, undef, .bool true, u39], defers := [] } U1 := by
              refine hK2 _ _ ?_
              clear hK2 keep m0 m1
              go_wp2
              go_ret
              exact ⟨rfl, thenBelow B1.out BU.out⟩
            exact wpAnyH_done (by kernel_rfl) (Eq.mp (by kernel_rfl) KE) _
          · have EQ := Lib.hid (eqDt_no he)
            have NA : Hid (∀ i (h : i < l.length), i < k + 1 → vl l[i] = true ∧ l[i] ≠ (y1, y2)) := Lib.hid fun i h hi => by
              rcases Nat.lt_or_ge i k with h3 | h3
              · exact HA.out i h h3
              · obtain rfl : i = k := by omega
                rw [HX.out]; exact ⟨HV.out, he⟩
            clear he
            by_cases hk0 : k = 0
            · have GK : Hid (decide ((k : Int) > 0) = false) := Lib.hid (decide_eq_false (by omega))
              have NO : Hid (∀ i (h : i + 1 < l.length), i + 1 < k + 1 → ltD l[i] l[i + 1] = true) := Lib.hid fun i h hi => by omega
              refine rg_calm (by kernel_rfl) rfl (S := fun U => U.rangeAt G6 0 [.int .i64 x1, .int .i64 x2] ∧ U.rangeAt g3 0 [.int .i64 y1, .int .i64 y2] ∧ U.rangeAt b1 0 [] ∧ Below w1.heap.size w1 U) ?_
              have m0 := And.intro N6.out (And.intro Y6.out (And.intro (range_nil W6.drew b1 0) B6.out))
              have keep : ∀ U U' : World, Below U.heap.size U U' → U.rangeAt G6 0 [.int .i64 x1, .int .i64 x2] ∧ U.rangeAt g3 0 [.int .i64 y1, .int .i64 y2] ∧ U.rangeAt b1 0 [] ∧ Below w1.heap.size w1 U → U'.rangeAt G6 0 [.int .i64 x1, .int .i64 x2] ∧ U'.rangeAt g3 0 [.int .i64 y1, .int .i64 y2] ∧ U'.rangeAt b1 0 [] ∧ Below w1.heap.size w1 U' := fun U U' hb h => ⟨range_below h.1 hb, range_below h.2.1 hb, range_below h.2.2.1 hb, thenBelow h.2.2.2 hb⟩
              refine rgd_pureS 0 (some 17) rfl rfl (.agg #[.int .i64 x1, .int .i64 x2]) (by kernel_rfl) (by kernel_rfl) (by kernel_rfl) (fun _ _ _ _ h => h) (by kernel_rfl) (fun U hU => exec_gload 37 _ rfl G6 (0) (by kernel_rfl) _ hU.1 Tryz.underlying37 rfl (SZ x1 x2)) m0 ?_
              refine rgd_call 1 (some 18) (by kernel_rfl) rfl rfl (by kernel_rfl) 64 (#[.agg (dcs x1 x2)]) (by kernel_rfl) (VA.out _) ?_
              rintro _ U1 ⟨rfl, bU1⟩
              have m1 := keep _ _ bU1 m0
              refine ⟨_, rfl, m1, ?_⟩
              refine rgd_pure 2 (some 19) rfl rfl (.bool false) (by kernel_rfl) (by kernel_rfl) (by kernel_rfl) (fun _ _ _ _ h => h) (by kernel_rfl) (fun w => by kernel_rfl) m1 ?_
              refine rgd_pure 3 (some 20) rfl rfl (.bool false) (by kernel_rfl) (by kernel_rfl) (by kernel_rfl) (fun _ _ _ _ h => h) (by kernel_rfl) (fun w => by kernel_rfl) m1 ?_
              refine rgd_pureS 4 (some 21) rfl rfl (.agg #[.int .i64 x1, .int .i64 x2]) (by kernel_rfl) (by kernel_rfl) (by kernel_rfl) (fun _ _ _ _ h => h) (by kernel_rfl) (fun U hU => exec_gload 37 _ rfl G6 (0) (by kernel_rfl) _ hU.1 Tryz.underlying37 rfl (SZ x1 x2)) m1 ?_
              refine rgd_pureS 5 (some 22) rfl rfl (.agg #[.int .i64 y1, .int .i64 y2]) (by kernel_rfl) (by kernel_rfl) (by kernel_rfl) (fun _ _ _ _ h => h) (by kernel_rfl) (fun U hU => exec_gload 37 _ rfl g3 (0) (by kernel_rfl) _ hU.2.1 Tryz.underlying37 rfl (SZ y1 y2)) m1 ?_
              refine rgd_pure 6 (some 23) rfl rfl (.bool false) (by kernel_rfl) (by kernel_rfl) (by kernel_rfl) (fun _ _ _ _ h => h) (by kernel_rfl) (exec_eqlE _ _ _ rfl (x1, x2) (y1, y2) false EQ.out (by kernel_rfl) (by kernel_rfl)) m1 ?_
              refine rgd_pure 7 (some 24) rfl rfl (.bool false) (by kernel_rfl) (by kernel_rfl) (by kernel_rfl) (fun _ _ _ _ h => h) (by kernel_rfl) (fun w => by kernel_rfl) m1 ?_
              refine rgd_pure 8 (some 25) rfl rfl (.bool false) (by kernel_rfl) (by kernel_rfl) (by kernel_rfl) (fun _ _ _ _ h => h) (by kernel_rfl) (fun w => by kernel_rfl) m1 ?_
              refine rgd_pure 9 (some 26) rfl rfl (.int .i64 (k : Int)) (by kernel_rfl) (by kernel_rfl) (by kernel_rfl) (fun _ _ _ _ h => h) (by kernel_rfl) (fun w => by kernel_rfl) m1 ?_
              refine rgd_pure 10 (some 27) rfl rfl (.bool false) (by kernel_rfl) (by kernel_rfl) (by kernel_rfl) (fun _ _ _ _ h => h) (by kernel_rfl) (exec_gtrB _ _ _ _ rfl (k : Int) 0 false GK.out (by kernel_rfl) (by kernel_rfl)) m1 ?_
              refine rgd_pure 11 (some 28) rfl rfl (.bool false) (by kernel_rfl) (by kernel_rfl) (by kernel_rfl) (fun _ _ _ _ h => h) (by kernel_rfl) (fun w => by kernel_rfl) m1 ?_
              refine rgd_skip 12 (some 29) rfl rfl (by kernel_rfl) (by kernel_rfl) (by kernel_rfl) (fun _ _ _ _ h => h) (by kernel_rfl) m1 ?_
              refine rgd_skip 13 (some 30) rfl rfl (by kernel_rfl) (by kernel_rfl) (by kernel_rfl) (fun _ _ _ _ h => h) (by kernel_rfl) m1 ?_
              refine rgd_skip 14 (some 31) rfl rfl (by kernel_rfl) (by kernel_rfl) (by kernel_rfl) (fun _ _ _ _ h => h) (by kernel_rfl) m1 ?_
              refine rgd_skip 15 (some 32) rfl rfl (by kernel_rfl) (by kernel_rfl) (by kernel_rfl) (fun _ _ _ _ h => h) (by kernel_rfl) m1 ?_
              refine rgd_skip 16 (some 33) rfl rfl (by kernel_rfl) (by kernel_rfl) (by kernel_rfl) (fun _ _ _ _ h => h) (by kernel_rfl) m1 ?_
              refine rgd_skip 17 (some 34) rfl rfl (by kernel_rfl) (by kernel_rfl) (by kernel_rfl) (fun _ _ _ _ h => h) (by kernel_rfl) m1 ?_
              refine rgd_skip 18 (some 35) rfl rfl (by kernel_rfl) (by kernel_rfl) (by kernel_rfl) (fun _ _ _ _ h => h) (by kernel_rfl) m1 ?_
              refine rgd_skip 19 (some 36) rfl rfl (by kernel_rfl) (by kernel_rfl) (by kernel_rfl) (fun _ _ _ _ h => h) (by kernel_rfl) m1 ?_
              refine rgd_pure 20 (some 37) rfl rfl (.bool false) (by kernel_rfl) (by kernel_rfl) (by kernel_rfl) (fun _ _ _ _ h => h) (by kernel_rfl) (fun w => by kernel_rfl) m1 ?_
              refine rgd_pure 21 (some 38) rfl rfl (.bool false) (by kernel_rfl) (by kernel_rfl) (by kernel_rfl) (fun _ _ _ _ h => h) (by kernel_rfl) (fun w => by kernel_rfl) m1 ?_
              have BU := Lib.hid m1.2.2.2
              have KE : K2 { tmps := #[.slice (some ⟨b1, o1, none⟩) n c, .agg (dcs y1 y2), undef, .pointer (some ⟨g3, 0, none⟩), u4, .int .i64 (k : Int), .pointer (some ⟨G6, 0, none⟩), .slice (some ⟨b1, o1, none⟩) n c, .int .i64 (n : Int), .bool (decide (120 < (n : Int))), .slice (some ⟨b1, o1, none⟩) n c, .int .i64 (n : Int), .int .i64 (k : Int), .bool true, .int .i64 (k : Int), .pointer (some ⟨b1, o1 + k * 2, none⟩), .agg #[.int .i64 x1, .int .i64 x2], .agg #[.int .i64 x1, .int .i64 x2], .bool true, .bool false, .bool false, .agg #[.int .i64 x1, .int .i64 x2], .agg #[.int .i64 y1, .int .i64 y2], .bool false, .bool false, .bool false, .int .i64 (k : Int), .bool false, .bool false, undef, undef, undef, undef, undef, undef, undef, undef, .bool false, .bool false, u39], defers := [] } U1 := by
                refine hK2 _ _ ?_
                clear hK2 keep m0 m1
                go_wp2
                go_roundw
                case rel => exact ⟨k + 1, by omega, by go_num, NA.out, NO.out, BU.out⟩
                case measure => simp [intOf]; omega
              exact wpAnyH_done (by kernel_rfl) (Eq.mp (by kernel_rfl) KE) _
            · have GK : Hid (decide ((k : Int) > 0) = true) := Lib.hid (decide_eq_true (by omega))
              obtain ⟨j, hj⟩ : ∃ j, k = j + 1 := ⟨k - 1, by omega⟩
              have hjl : j < l.length := by omega
              have hjn : j < n := by omega
              have SB : Hid (IntKind.i64.wrap ((k : Int) - 1) = (j : Int)) := Lib.hid (by rw [IntWalk.i64_in _ (by omega)]; omega)
              obtain ⟨b2, o2, hpe, q1⟩ := drow_at L6.out hjl
              have hpe2 : b2 = b1 ∧ o2 = o1 := by injection hpe with hpe; injection hpe with h1 h2; exact ⟨h1.symm, h2.symm⟩
              obtain ⟨rfl, rfl⟩ := hpe2
              obtain ⟨⟨z1, z2⟩, hz⟩ : ∃ z, l[j] = z := ⟨_, rfl⟩
              have HZ := Lib.hid hz
              rw [hz] at q1
              have Q3 := Lib.hid q1
              clear hz q1 hpe
              simp only at Q3
              have HLT : Hid (ltD l[j] l[k] = lessD z1 z2 x1 x2) := Lib.hid (by rw [HZ.out, HX.out]; rfl)
              have HJ := Lib.hid hj
              cases hlt : lessD z1 z2 x1 x2 with
              | false =>
                have GE : Hid (decide (cmpD z1 z2 x1 x2 ≥ 0) = true) := Lib.hid (by
                  have := cmpD_lt z1 z2 x1 x2
                  rw [hlt] at this
                  exact decide_eq_true (by have := of_decide_eq_false this; omega))
                have hf : b = false := by
                  rw [← HB.out]
                  refine go_order (k := j) (by omega) ?_
                  have h1 := HLT.out
                  rw [hlt] at h1
                  simpa only [hj] using h1
                subst hf
                clear hlt hj HLT
                refine rg_calm (by kernel_rfl) rfl (S := fun U => U.rangeAt G6 0 [.int .i64 x1, .int .i64 x2] ∧ U.rangeAt g3 0 [.int .i64 y1, .int .i64 y2] ∧ U.rangeAt b2 (o2 + j * 2) [.int .i64 z1, .int .i64 z2] ∧ Below w1.heap.size w1 U) ?_
                have m0 := And.intro N6.out (And.intro Y6.out (And.intro Q3.out B6.out))
                have keep : ∀ U U' : World, Below U.heap.size U U' → U.rangeAt G6 0 [.int .i64 x1, .int .i64 x2] ∧ U.rangeAt g3 0 [.int .i64 y1, .int .i64 y2] ∧ U.rangeAt b2 (o2 + j * 2) [.int .i64 z1, .int .i64 z2] ∧ Below w1.heap.size w1 U → U'.rangeAt G6 0 [.int .i64 x1, .int .i64 x2] ∧ U'.rangeAt g3 0 [.int .i64 y1, .int .i64 y2] ∧ U'.rangeAt b2 (o2 + j * 2) [.int .i64 z1, .int .i64 z2] ∧ Below w1.heap.size w1 U' := fun U U' hb h => ⟨range_below h.1 hb, range_below h.2.1 hb, range_below h.2.2.1 hb, thenBelow h.2.2.2 hb⟩
                refine rgd_pureS 0 (some 17) rfl rfl (.agg #[.int .i64 x1, .int .i64 x2]) (by kernel_rfl) (by kernel_rfl) (by kernel_rfl) (fun _ _ _ _ h => h) (by kernel_rfl) (fun U hU => exec_gload 37 _ rfl G6 (0) (by kernel_rfl) _ hU.1 Tryz.underlying37 rfl (SZ x1 x2)) m0 ?_
                refine rgd_call 1 (some 18) (by kernel_rfl) rfl rfl (by kernel_rfl) 64 (#[.agg (dcs x1 x2)]) (by kernel_rfl) (VA.out _) ?_
                rintro _ U1 ⟨rfl, bU1⟩
                have m1 := keep _ _ bU1 m0
                refine ⟨_, rfl, m1, ?_⟩
                refine rgd_pure 2 (some 19) rfl rfl (.bool false) (by kernel_rfl) (by kernel_rfl) (by kernel_rfl) (fun _ _ _ _ h => h) (by kernel_rfl) (fun w => by kernel_rfl) m1 ?_
                refine rgd_pure 3 (some 20) rfl rfl (.bool false) (by kernel_rfl) (by kernel_rfl) (by kernel_rfl) (fun _ _ _ _ h => h) (by kernel_rfl) (fun w => by kernel_rfl) m1 ?_
                refine rgd_pureS 4 (some 21) rfl rfl (.agg #[.int .i64 x1, .int .i64 x2]) (by kernel_rfl) (by kernel_rfl) (by kernel_rfl) (fun _ _ _ _ h => h) (by kernel_rfl) (fun U hU => exec_gload 37 _ rfl G6 (0) (by kernel_rfl) _ hU.1 Tryz.underlying37 rfl (SZ x1 x2)) m1 ?_
                refine rgd_pureS 5 (some 22) rfl rfl (.agg #[.int .i64 y1, .int .i64 y2]) (by kernel_rfl) (by kernel_rfl) (by kernel_rfl) (fun _ _ _ _ h => h) (by kernel_rfl) (fun U hU => exec_gload 37 _ rfl g3 (0) (by kernel_rfl) _ hU.2.1 Tryz.underlying37 rfl (SZ y1 y2)) m1 ?_
                refine rgd_pure 6 (some 23) rfl rfl (.bool false) (by kernel_rfl) (by kernel_rfl) (by kernel_rfl) (fun _ _ _ _ h => h) (by kernel_rfl) (exec_eqlE _ _ _ rfl (x1, x2) (y1, y2) false EQ.out (by kernel_rfl) (by kernel_rfl)) m1 ?_
                refine rgd_pure 7 (some 24) rfl rfl (.bool false) (by kernel_rfl) (by kernel_rfl) (by kernel_rfl) (fun _ _ _ _ h => h) (by kernel_rfl) (fun w => by kernel_rfl) m1 ?_
                refine rgd_pure 8 (some 25) rfl rfl (.bool false) (by kernel_rfl) (by kernel_rfl) (by kernel_rfl) (fun _ _ _ _ h => h) (by kernel_rfl) (fun w => by kernel_rfl) m1 ?_
                refine rgd_pure 9 (some 26) rfl rfl (.int .i64 (k : Int)) (by kernel_rfl) (by kernel_rfl) (by kernel_rfl) (fun _ _ _ _ h => h) (by kernel_rfl) (fun w => by kernel_rfl) m1 ?_
                refine rgd_pure 10 (some 27) rfl rfl (.bool true) (by kernel_rfl) (by kernel_rfl) (by kernel_rfl) (fun _ _ _ _ h => h) (by kernel_rfl) (exec_gtrB _ _ _ _ rfl (k : Int) 0 true GK.out (by kernel_rfl) (by kernel_rfl)) m1 ?_
                refine rgd_pure 11 (some 28) rfl rfl (.bool true) (by kernel_rfl) (by kernel_rfl) (by kernel_rfl) (fun _ _ _ _ h => h) (by kernel_rfl) (fun w => by kernel_rfl) m1 ?_
                refine rgd_pure 12 (some 29) rfl rfl (.slice (some ⟨b2, o2, none⟩) n c) (by kernel_rfl) (by kernel_rfl) (by kernel_rfl) (fun _ _ _ _ h => h) (by kernel_rfl) (fun w => by kernel_rfl) m1 ?_
                refine rgd_pure 13 (some 30) rfl rfl (.int .i64 (k : Int)) (by kernel_rfl) (by kernel_rfl) (by kernel_rfl) (fun _ _ _ _ h => h) (by kernel_rfl) (fun w => by kernel_rfl) m1 ?_
                refine rgd_pure 14 (some 31) rfl rfl (.int .i64 (j : Int)) (by kernel_rfl) (by kernel_rfl) (by kernel_rfl) (fun _ _ _ _ h => h) (by kernel_rfl) (exec_subI _ _ _ _ rfl (k : Int) 1 (j : Int) SB.out (by kernel_rfl) (by kernel_rfl)) m1 ?_
                refine rgd_pure 15 (some 32) rfl rfl (.pointer (some ⟨b2, o2 + j * 2, none⟩)) (by kernel_rfl) (by kernel_rfl) (by kernel_rfl) (fun _ _ _ _ h => h) (by kernel_rfl) (exec_idxD _ _ rfl b2 o2 n c j (by kernel_rfl) (by kernel_rfl) hjn) m1 ?_
                refine rgd_pureS 16 (some 33) rfl rfl (.agg #[.int .i64 z1, .int .i64 z2]) (by kernel_rfl) (by kernel_rfl) (by kernel_rfl) (fun _ _ _ _ h => h) (by kernel_rfl) (fun U hU => exec_gload 37 _ rfl b2 (o2 + j * 2) (by kernel_rfl) _ hU.2.2.1 Tryz.underlying37 rfl (SZ z1 z2)) m1 ?_
                refine rgd_pureS 17 (some 34) rfl rfl (.agg #[.int .i64 x1, .int .i64 x2]) (by kernel_rfl) (by kernel_rfl) (by kernel_rfl) (fun _ _ _ _ h => h) (by kernel_rfl) (fun U hU => exec_gload 37 _ rfl G6 (0) (by kernel_rfl) _ hU.1 Tryz.underlying37 rfl (SZ x1 x2)) m1 ?_
                refine rgd_call 18 (some 35) (by kernel_rfl) rfl rfl (by kernel_rfl) 30 (#[.agg #[.int .i64 z1, .int .i64 z2], .agg #[.int .i64 x1, .int .i64 x2]]) (by kernel_rfl) (dotCompare_is z1 z2 x1 x2 _) ?_
                rintro _ U2 ⟨rfl, bU2⟩
                have m2 := keep _ _ bU2 m1
                refine ⟨_, rfl, m2, ?_⟩
                refine rgd_pure 19 (some 36) rfl rfl (.bool true) (by kernel_rfl) (by kernel_rfl) (by kernel_rfl) (fun _ _ _ _ h => h) (by kernel_rfl) (exec_geqB _ _ _ _ rfl (cmpD z1 z2 x1 x2) 0 true GE.out (by kernel_rfl) (by kernel_rfl)) m2 ?_
                refine rgd_pure 20 (some 37) rfl rfl (.bool true) (by kernel_rfl) (by kernel_rfl) (by kernel_rfl) (fun _ _ _ _ h => h) (by kernel_rfl) (fun w => by kernel_rfl) m2 ?_
                refine rgd_pure 21 (some 38) rfl rfl (.bool true) (by kernel_rfl) (by kernel_rfl) (by kernel_rfl) (fun _ _ _ _ h => h) (by kernel_rfl) (fun w => by kernel_rfl) m2 ?_
                have BU := Lib.hid m2.2.2.2
                have KE : K2 { tmps := #[.slice (some ⟨b2, o2, none⟩) n c, .agg (dcs y1 y2), undef, .pointer (some ⟨g3, 0, none⟩), u4, .int .i64 (k : Int), .pointer (some ⟨G6, 0, none⟩), .slice (some ⟨b2, o2, none⟩) n c, .int .i64 (n : Int), .bool (decide (120 < (n : Int))), .slice (some ⟨b2, o2, none⟩) n c, .int .i64 (n : Int), .int .i64 (k : Int), .bool true, .int .i64 (k : Int), .pointer (some ⟨b2, o2 + k * 2, none⟩), .agg #[.int .i64 x1, .int .i64 x2], .agg #[.int .i64 x1, .int .i64 x2], .bool true, .bool false, .bool false, .agg #[.int .i64 x1, .int .i64 x2], .agg #[.int .i64 y1, .int .i64 y2], .bool false, .bool false, .bool false, .int .i64 (k : Int), .bool true, .bool true, .slice (some ⟨b2, o2, none⟩) n c, .int .i64 (k : Int), .int .i64 (j : Int), .pointer (some ⟨b2, o2 + j * 2, none⟩), .agg #[.int .i64 z1, .int .i64 z2], .agg #[.int .i64 x1, .int .i64 x2], .int .i64 (cmpD z1 z2 x1 x2), .bool true, .bool true, .bool true, u39], defers := [] } U2 := by
                  refine hK2 _ _ ?_
                  clear hK2 keep m0 m1 m2
                  go_wp2
                  go_ret
                  exact ⟨rfl, thenBelow B1.out BU.out⟩
                exact wpAnyH_done (by kernel_rfl) (Eq.mp (by kernel_rfl) KE) _
              | true =>
                have GE : Hid (decide (cmpD z1 z2 x1 x2 ≥ 0) = false) := Lib.hid (by
                  have := cmpD_lt z1 z2 x1 x2
                  rw [hlt] at this
                  exact decide_eq_false (by have := of_decide_eq_true this; omega))
                have NO : Hid (∀ i (h : i + 1 < l.length), i + 1 < k + 1 → ltD l[i] l[i + 1] = true) := Lib.hid fun i h hi => by
                  rcases Nat.lt_or_ge (i + 1) k with h3 | h3
                  · exact HO.out i h h3
                  · obtain rfl : i = j := by omega
                    have h1 := HLT.out
                    rw [hlt] at h1
                    simpa only [hj] using h1
                clear hlt hj HLT
                refine rg_calm (by kernel_rfl) rfl (S := fun U => U.rangeAt G6 0 [.int .i64 x1, .int .i64 x2] ∧ U.rangeAt g3 0 [.int .i64 y1, .int .i64 y2] ∧ U.rangeAt b2 (o2 + j * 2) [.int .i64 z1, .int .i64 z2] ∧ Below w1.heap.size w1 U) ?_
                have m0 := And.intro N6.out (And.intro Y6.out (And.intro Q3.out B6.out))
                have keep : ∀ U U' : World, Below U.heap.size U U' → U.rangeAt G6 0 [.int .i64 x1, .int .i64 x2] ∧ U.rangeAt g3 0 [.int .i64 y1, .int .i64 y2] ∧ U.rangeAt b2 (o2 + j * 2) [.int .i64 z1, .int .i64 z2] ∧ Below w1.heap.size w1 U → U'.rangeAt G6 0 [.int .i64 x1, .int .i64 x2] ∧ U'.rangeAt g3 0 [.int .i64 y1, .int .i64 y2] ∧ U'.rangeAt b2 (o2 + j * 2) [.int .i64 z1, .int .i64 z2] ∧ Below w1.heap.size w1 U' := fun U U' hb h => ⟨range_below h.1 hb, range_below h.2.1 hb, range_below h.2.2.1 hb, thenBelow h.2.2.2 hb⟩
                refine rgd_pureS 0 (some 17) rfl rfl (.agg #[.int .i64 x1, .int .i64 x2]) (by kernel_rfl) (by kernel_rfl) (by kernel_rfl) (fun _ _ _ _ h => h) (by kernel_rfl) (fun U hU => exec_gload 37 _ rfl G6 (0) (by kernel_rfl) _ hU.1 Tryz.underlying37 rfl (SZ x1 x2)) m0 ?_
                refine rgd_call 1 (some 18) (by kernel_rfl) rfl rfl (by kernel_rfl) 64 (#[.agg (dcs x1 x2)]) (by kernel_rfl) (VA.out _) ?_
                rintro _ U1 ⟨rfl, bU1⟩
                have m1 := keep _ _ bU1 m0
                refine ⟨_, rfl, m1, ?_⟩
                refine rgd_pure 2 (some 19) rfl rfl (.bool false) (by kernel_rfl) (by kernel_rfl) (by kernel_rfl) (fun _ _ _ _ h => h) (by kernel_rfl) (fun w => by kernel_rfl) m1 ?_
                refine rgd_pure 3 (some 20) rfl rfl (.bool false) (by kernel_rfl) (by kernel_rfl) (by kernel_rfl) (fun _ _ _ _ h => h) (by kernel_rfl) (fun w => by kernel_rfl) m1 ?_
                refine rgd_pureS 4 (some 21) rfl rfl (.agg #[.int .i64 x1, .int .i64 x2]) (by kernel_rfl) (by kernel_rfl) (by kernel_rfl) (fun _ _ _ _ h => h) (by kernel_rfl) (fun U hU => exec_gload 37 _ rfl G6 (0) (by kernel_rfl) _ hU.1 Tryz.underlying37 rfl (SZ x1 x2)) m1 ?_
                refine rgd_pureS 5 (some 22) rfl rfl (.agg #[.int .i64 y1, .int .i64 y2]) (by kernel_rfl) (by kernel_rfl) (by kernel_rfl) (fun _ _ _ _ h => h) (by kernel_rfl) (fun U hU => exec_gload 37 _ rfl g3 (0) (by kernel_rfl) _ hU.2.1 Tryz.underlying37 rfl (SZ y1 y2)) m1 ?_
                refine rgd_pure 6 (some 23) rfl rfl (.bool false) (by kernel_rfl) (by kernel_rfl) (by kernel_rfl) (fun _ _ _ _ h => h) (by kernel_rfl) (exec_eqlE _ _ _ rfl (x1, x2) (y1, y2) false EQ.out (by kernel_rfl) (by kernel_rfl)) m1 ?_
                refine rgd_pure 7 (some 24) rfl rfl (.bool false) (by kernel_rfl) (by kernel_rfl) (by kernel_rfl) (fun _ _ _ _ h => h) (by kernel_rfl) (fun w => by kernel_rfl) m1 ?_
                refine rgd_pure 8 (some 25) rfl rfl (.bool false) (by kernel_rfl) (by kernel_rfl) (by kernel_rfl) (fun _ _ _ _ h => h) (by kernel_rfl) (fun w => by kernel_rfl) m1 ?_
                refine rgd_pure 9 (some 26) rfl rfl (.int .i64 (k : Int)) (by kernel_rfl) (by kernel_rfl) (by kernel_rfl) (fun _ _ _ _ h => h) (by kernel_rfl) (fun w => by kernel_rfl) m1 ?_
                refine rgd_pure 10 (some 27) rfl rfl (.bool true) (by kernel_rfl) (by kernel_rfl) (by kernel_rfl) (fun _ _ _ _ h => h) (by kernel_rfl) (exec_gtrB _ _ _ _ rfl (k : Int) 0 true GK.out (by kernel_rfl) (by kernel_rfl)) m1 ?_
                refine rgd_pure 11 (some 28) rfl rfl (.bool true) (by kernel_rfl) (by kernel_rfl) (by kernel_rfl) (fun _ _ _ _ h => h) (by kernel_rfl) (fun w => by kernel_rfl) m1 ?_
                refine rgd_pure 12 (some 29) rfl rfl (.slice (some ⟨b2, o2, none⟩) n c) (by kernel_rfl) (by kernel_rfl) (by kernel_rfl) (fun _ _ _ _ h => h) (by kernel_rfl) (fun w => by kernel_rfl) m1 ?_
                refine rgd_pure 13 (some 30) rfl rfl (.int .i64 (k : Int)) (by kernel_rfl) (by kernel_rfl) (by kernel_rfl) (fun _ _ _ _ h => h) (by kernel_rfl) (fun w => by kernel_rfl) m1 ?_
                refine rgd_pure 14 (some 31) rfl rfl (.int .i64 (j : Int)) (by kernel_rfl) (by kernel_rfl) (by kernel_rfl) (fun _ _ _ _ h => h) (by kernel_rfl) (exec_subI _ _ _ _ rfl (k : Int) 1 (j : Int) SB.out (by kernel_rfl) (by kernel_rfl)) m1 ?_
                refine rgd_pure 15 (some 32) rfl rfl (.pointer (some ⟨b2, o2 + j * 2, none⟩)) (by kernel_rfl) (by kernel_rfl) (by kernel_rfl) (fun _ _ _ _ h => h) (by kernel_rfl) (exec_idxD _ _ rfl b2 o2 n c j (by kernel_rfl) (by kernel_rfl) hjn) m1 ?_
                refine rgd_pureS 16 (some 33) rfl rfl (.agg #[.int .i64 z1, .int .i64 z2]) (by kernel_rfl) (by kernel_rfl) (by kernel_rfl) (fun _ _ _ _ h => h) (by kernel_rfl) (fun U hU => exec_gload 37 _ rfl b2 (o2 + j * 2) (by kernel_rfl) _ hU.2.2.1 Tryz.underlying37 rfl (SZ z1 z2)) m1 ?_
                refine rgd_pureS 17 (some 34) rfl rfl (.agg #[.int .i64 x1, .int .i64 x2]) (by kernel_rfl) (by kernel_rfl) (by kernel_rfl) (fun _ _ _ _ h => h) (by kernel_rfl) (fun U hU => exec_gload 37 _ rfl G6 (0) (by kernel_rfl) _ hU.1 Tryz.underlying37 rfl (SZ x1 x2)) m1 ?_
                refine rgd_call 18 (some 35) (by kernel_rfl) rfl rfl (by kernel_rfl) 30 (#[.agg #[.int .i64 z1, .int .i64 z2], .agg #[.int .i64 x1, .int .i64 x2]]) (by kernel_rfl) (dotCompare_is z1 z2 x1 x2 _) ?_
                rintro _ U2 ⟨rfl, bU2⟩
                have m2 := keep _ _ bU2 m1
                refine ⟨_, rfl, m2, ?_⟩
                refine rgd_pure 19 (some 36) rfl rfl (.bool false) (by kernel_rfl) (by kernel_rfl) (by kernel_rfl) (fun _ _ _ _ h => h) (by kernel_rfl) (exec_geqB _ _ _ _ rfl (cmpD z1 z2 x1 x2) 0 false GE.out (by kernel_rfl) (by kernel_rfl)) m2 ?_
                refine rgd_pure 20 (some 37) rfl rfl (.bool false) (by kernel_rfl) (by kernel_rfl) (by kernel_rfl) (fun _ _ _ _ h => h) (by kernel_rfl) (fun w => by kernel_rfl) m2 ?_
                refine rgd_pure 21 (some 38) rfl rfl (.bool false) (by kernel_rfl) (by kernel_rfl) (by kernel_rfl) (fun _ _ _ _ h => h) (by kernel_rfl) (fun w => by kernel_rfl) m2 ?_
                have BU := Lib.hid m2.2.2.2
                have KE : K2 { tmps := #[.slice (some ⟨b2, o2, none⟩) n c, .agg (dcs y1 y2), undef, .pointer (some ⟨g3, 0, none⟩), u4, .int .i64 (k : Int), .pointer (some ⟨G6, 0, none⟩), .slice (some ⟨b2, o2, none⟩) n c, .int .i64 (n : Int), .bool (decide (120 < (n : Int))), .slice (some ⟨b2, o2, none⟩) n c, .int .i64 (n : Int), .int .i64 (k : Int), .bool true, .int .i64 (k : Int), .pointer (some ⟨b2, o2 + k * 2, none⟩), .agg #[.int .i64 x1, .int .i64 x2], .agg #[.int .i64 x1, .int .i64 x2], .bool true, .bool false, .bool false, .agg #[.int .i64 x1, .int .i64 x2], .agg #[.int .i64 y1, .int .i64 y2], .bool false, .bool false, .bool false, .int .i64 (k : Int), .bool true, .bool true, .slice (some ⟨b2, o2, none⟩) n c, .int .i64 (k : Int), .int .i64 (j : Int), .pointer (some ⟨b2, o2 + j * 2, none⟩), .agg #[.int .i64 z1, .int .i64 z2], .agg #[.int .i64 x1, .int .i64 x2], .int .i64 (cmpD z1 z2 x1 x2), .bool false, .bool false, .bool false, u39], defers := [] } U2 := by
                  refine hK2 _ _ ?_
                  clear hK2 keep m0 m1 m2
                  go_wp2
                  go_roundw
                  case rel => exact ⟨k + 1, by omega, by go_num, NA.out, NO.out, BU.out⟩
                  case measure => simp [intOf]; omega
                exact wpAnyH_done (by kernel_rfl) (Eq.mp (by kernel_rfl) KE) _
      · obtain rfl : k = n := by omega
        have hkl' : ¬ ((k : Nat) : Int) < k := by omega
        have ht : b = true := by
          rw [← HB.out]
          exact goB_iff.2 ⟨by rw [HN.out]; omega, fun i h => HA.out i h (by rw [← HN.out]; exact h), fun i h => HO.out i h (by rw [← HN.out]; exact h)⟩
        subst ht
        go_wp2
        go_ret
        exact ⟨rfl, thenBelow B1.out BB.out⟩
set_option maxRecDepth 1000000

/-- may this be, but for what it writes? -/
noncomputable def headB (e : Ev) : Bool := vldB e.rep e.n && decide (1 ≤ e.time ∧ e.time ≤ 1099511627776) && nameB e.doc && goB e.gone (e.rep, e.n)
/-- why an event may not be -/
noncomputable def chk (e : Ev) : Int := if headB e then (if e.kind = 1 then txtE e.field e.text else if e.kind = 2 ∧ e.field = 0 ∧ e.text.size = 0 then 0 else 1) else 1
theorem chk_no {e : Ev} (h : headB e = false) : chk e = 1 := by unfold chk; rw [h]; rfl
theorem chk_put {e : Ev} (h : headB e = true) (hk : e.kind = 1) : chk e = txtE e.field e.text := by unfold chk; rw [h, if_pos rfl, if_pos hk]
theorem chk_drop {e : Ev} (h : headB e = true) (hk : e.kind = 2) (hf : e.field = 0) (ht : e.text.size = 0) : chk e = 0 := by unfold chk; rw [h, if_pos rfl, if_neg (by omega), if_pos ⟨hk, hf, ht⟩]
theorem chk_else {e : Ev} (hk : e.kind ≠ 1) (h2 : ¬ (e.kind = 2 ∧ e.field = 0 ∧ e.text.size = 0)) : chk e = 1 := by
  unfold chk
  rw [if_neg hk, if_neg h2]
  split <;> rfl
theorem head_iff (e : Ev) : headB e = true ↔ vldB e.rep e.n = true ∧ (1 ≤ e.time ∧ e.time ≤ 1099511627776) ∧ nameB e.doc = true ∧ goB e.gone (e.rep, e.n) = true := by
  unfold headB
  simp only [Bool.and_eq_true, decide_eq_true_eq, and_assoc]
theorem head_no {e : Ev} (h : ¬ (vldB e.rep e.n = true ∧ (1 ≤ e.time ∧ e.time ≤ 1099511627776) ∧ nameB e.doc = true ∧ goB e.gone (e.rep, e.n) = true)) : headB e = false := by
  cases q : headB e with
  | false => rfl
  | true => exact absurd ((head_iff e).1 q) h
def Check1 (w : World) (x : Int) (e : Ending) (w' : World) : Prop := e = .returned (.int .i64 x) ∧ Below w.heap.size w w'
set_option maxHeartbeats 8000000 in
theorem check_is (x : EvP) (w : World) (hx : x.Ok w) (hT : Shapes w) :
    Calls Tryz.prog 49 #[.agg x.cells.toArray] w (Check1 w (chk x.e)) := by
  have HX := Lib.hid hx; have HT := Lib.hid hT
  clear hx hT
  obtain ⟨X, hX⟩ : ∃ X, chk x.e = X := ⟨_, rfl⟩
  rw [hX]
  have HC := Lib.hid hX
  clear hX
  go_enter Tryz.func49, Tryz.ntmps49
  go_wp2_with (refine wpList_gbox rfl _ rfl x.cells.toArray rfl ?_)
  intro g1 w1 lg1 hg1 hb1
  have B1 := Lib.hid hb1
  have R1 := Lib.hid (range_of_block hg1)
  have R1 : Hid (w1.rangeAt g1 0 x.cells) := Lib.hid (by have := R1.out; simpa using this)
  have OKX : Hid (∀ W, Below w.heap.size w W → x.Ok W) := Lib.hid fun W hW => ⟨HX.out.1.below hW, HX.out.2⟩
  clear hg1 hb1
  obtain ⟨⟨r, n, t, kd, d, fl, tx, gn⟩, gp, gc⟩ := x
  have MG := Lib.hid (fun (W : World) (hW : Below w.heap.size w W) => mayGo_is gp gc gn r n W (OKX.out W hW).1)
  clear OKX
  simp only at HC
  obtain ⟨c0, c1, c2, c3, c4, c5, c6, c7⟩ := ev_cells R1.out
  simp only [Nat.zero_add] at c0 c1 c2 c3 c4 c5 c6 c7
  go_wp2_with fail
  refine (valid_is r n _).mono ?_
  rintro e w2 ⟨rfl, hb2⟩
  have B2 := Lib.hid (thenBelow B1.out hb2)
  have R2 := Lib.hid (range_below R1.out hb2)
  clear c0 c1 c2 c3 c4 c5 c6 c7 hb2
  obtain ⟨c0, c1, c2, c3, c4, c5, c6, c7⟩ := ev_cells R2.out
  simp only [Nat.zero_add] at c0 c1 c2 c3 c4 c5 c6 c7
  have NO : Hid (¬ (vldB r n = true ∧ (1 ≤ t ∧ t ≤ 1099511627776) ∧ nameB d = true ∧ goB gn (r, n) = true) → X = 1) := Lib.hid fun h => HC.out.symm.trans (chk_no (head_no h))
  have EL : Hid (kd ≠ 1 → ¬ (kd = 2 ∧ fl = 0 ∧ tx.size = 0) → X = 1) := Lib.hid fun h h2 => HC.out.symm.trans (chk_else h h2)
  cases hv : vldB r n with
  | false =>
    have hf := NO.out (by rw [hv]; simp)
    subst hf
    go_wp2
    go_ret
    exact ⟨rfl, B2.out⟩
  | true =>
    have HV := Lib.hid hv
    clear hv
    by_cases ht1 : t < 1
    · have hf := NO.out (by omega)
      subst hf
      go_wp2
      go_ret
      exact ⟨rfl, B2.out⟩
    · by_cases ht2 : t > 1099511627776
      · have hf := NO.out (by omega)
        subst hf
        go_wp2
        go_ret
        exact ⟨rfl, B2.out⟩
      · have DN := Lib.hid (docName_is d w2)
        go_wp2_with fail
        refine DN.out.mono ?_
        rintro e w3 ⟨rfl, rfl⟩
        clear DN
        cases hd : nameB d with
        | false =>
          have hf := NO.out (by rw [hd]; simp)
          subst hf
          clear hd
          go_wp2
          go_ret
          exact ⟨rfl, B2.out⟩
        | true =>
          have HD := Lib.hid hd
          clear hd
          go_wp2_with fail
          refine (MG.out _ B2.out).mono ?_
          rintro e w4 ⟨rfl, hb4⟩
          have B4 := Lib.hid (thenBelow B2.out hb4)
          have R4 := Lib.hid (range_below R2.out hb4)
          clear c0 c1 c2 c3 c4 c5 c6 c7 hb4 MG
          obtain ⟨c0, c1, c2, c3, c4, c5, c6, c7⟩ := ev_cells R4.out
          simp only [Nat.zero_add] at c0 c1 c2 c3 c4 c5 c6 c7
          cases hg : goB gn (r, n) with
          | false =>
            have hf := NO.out (by rw [hg]; simp)
            subst hf
            clear hg
            go_wp2
            go_ret
            exact ⟨rfl, B4.out⟩
          | true =>
            have hH : headB ⟨r, n, t, kd, d, fl, tx, gn⟩ = true := (head_iff _).2 ⟨HV.out, by constructor <;> simp only <;> omega, HD.out, hg⟩
            have HH := Lib.hid hH
            clear hH hg NO
            by_cases hk1 : kd = 1
            · subst hk1
              have hX : X = txtE fl tx := HC.out.symm.trans (chk_put HH.out rfl)
              have DT := Lib.hid (docText_is fl tx w4 (HT.out.below B4.out))
              rw [← hX] at DT
              clear hX EL HC
              go_wp2_with fail
              refine DT.out.mono ?_
              rintro e w5 ⟨rfl, rfl⟩
              go_wp2
              go_ret
              exact ⟨rfl, B4.out⟩
            · have hk1' : (kd == 1) = false := by simp [hk1]
              by_cases hk2 : kd = 2
              · subst hk2
                by_cases hf0 : fl = 0
                · subst hf0
                  by_cases ht0 : tx.size = 0
                  · have hX : X = 0 := HC.out.symm.trans (chk_drop HH.out rfl rfl ht0)
                    subst hX
                    have he : tx = ByteArray.empty := by
                      apply ByteArray.ext
                      exact Array.eq_empty_of_size_eq_zero ht0
                    subst he
                    clear HC EL
                    go_wp2
                    go_ret
                    exact ⟨rfl, B4.out⟩
                  · have hX := EL.out hk1 (by omega)
                    subst hX
                    have TS := toList_size tx
                    have f1 : tx.toList ≠ [] := fun h => by rw [h] at TS; exact ht0 TS.symm
                    have f2 : tx.toList.isEmpty = false := by simpa using f1
                    clear TS HC EL
                    go_wp2
                    go_ret
                    exact ⟨rfl, B4.out⟩
                · have hX := EL.out hk1 (by omega)
                  subst hX
                  have hf0' : (fl == 0) = false := by simp [hf0]
                  clear HC EL
                  go_wp2
                  go_ret
                  exact ⟨rfl, B4.out⟩
              · have hX := EL.out hk1 (by omega)
                subst hX
                have hk2' : (kd == 2) = false := by simp [hk2]
                clear HC EL
                go_wp2
                go_ret
                exact ⟨rfl, B4.out⟩
end Go.Proofs.YtijmijokgenflaaGreatDoor
