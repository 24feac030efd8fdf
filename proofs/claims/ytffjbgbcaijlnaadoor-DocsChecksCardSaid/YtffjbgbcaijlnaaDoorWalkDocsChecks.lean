/- The walk of DocsChecks. -/
import Derived.Test.YtffjbgbcaijlnaaDoorDcRefA
import Derived.Test.YtffjbgbcaijlnaaDoorDcAwake
import Derived.Test.YtffjbgbcaijlnaaDoorPastFew
import Derived.Test.YtffjbgbcaijlnaaDoorVecOpen
namespace Go.Proofs.YtffjbgbcaijlnaaDoor
open Go Go.RowKit
set_option linter.unusedVariables false
set_option maxRecDepth 1000000

theorem exec_eqlT {o : Oper} {a : Act} (yt : TypeId) (x y : Operand) (ho : o.op = .binOp .eql 4 x y yt) (X : Bool) (hx : a.eval x = .bool X) (hy : a.eval y = .bool X) (w : World) :
    (execOp a.eval o).run Tryd.prog w = .ok (.value (.bool true)) w := by
  have hb : ∀ w : World, (binOp .eql 4 (.bool X) (.bool X)).run Tryd.prog w = .ok (.bool true) w := fun w => by cases X <;> kernel_rfl
  unfold execOp
  simp only [ho, hx, hy]
  refine run_value_of ?_
  rw [Sem.run_bind]
  have hg : (eqGuard .eql 4 x y (.bool X) (.bool X)).run Tryd.prog w = .ok () w := by
    unfold eqGuard
    go_simp
  rw [hg]
  exact hb w
set_option maxHeartbeats 8000000 in
theorem docsChecks_walk (s : ByteArray) (f : Int) (x : EvP) (W : World) (hx : x.Ok W) (hT : Shapes W) :
    Calls Tryd.prog 3 #[.string s, .int .i64 f, .agg x.cells.toArray] W (Yes W) := by
  have HX := Lib.hid hx; have HT := Lib.hid hT
  clear hx hT
  have CK : Hid (∀ V : World, Below W.heap.size W V → Calls Tryd.prog 12 #[.agg x.cells.toArray] V (Check1 V (chk x.e))) := Lib.hid fun V hV => check_is x V ⟨HX.out.1.below hV, HX.out.2⟩ (HT.out.below hV)
  have RC : Hid (∀ V : World, Below W.heap.size W V → Calls Tryd.prog 13 #[.agg x.cells.toArray] V (Check1 V (chk x.e))) := Lib.hid fun V hV => refCheck_is x V ⟨HX.out.1.below hV, HX.out.2⟩
  obtain ⟨X, hX⟩ : ∃ X, chk x.e = X := ⟨_, rfl⟩
  rw [hX] at CK RC
  clear hX
  obtain ⟨Y, hY⟩ : ∃ Y, txtE f s = Y := ⟨_, rfl⟩
  have TX : Hid (∀ V : World, Below W.heap.size W V → Calls Tryd.prog 10 #[.int .i64 f, .string s] V fun e w' => e = .returned (.int .i64 Y) ∧ V = w') := Lib.hid fun V hV => by rw [← hY]; exact docText_is f s V (HT.out.below hV)
  have TR : Hid (∀ V : World, Calls Tryd.prog 11 #[.int .i64 f, .string s] V (Check1 V Y)) := Lib.hid fun V => by rw [← hY]; exact refDocText_is f s V
  clear hY
  obtain ⟨N, hN⟩ : ∃ N, nameB s = N := ⟨_, rfl⟩
  have NM : Hid (∀ V : World, Calls Tryd.prog 8 #[.string s] V fun e w' => e = .returned (.bool N) ∧ V = w') := Lib.hid fun V => by rw [← hN]; exact docName_is s V
  have NR : Hid (∀ V : World, Calls Tryd.prog 9 #[.string s] V fun e w' => e = .returned (.bool N) ∧ V = w') := Lib.hid fun V => by rw [← hN]; exact refDocName_is s V
  clear hN
  go_enter Tryd.func3, Tryd.ntmps3
  go_wp2_with (refine wpList_gbox rfl _ rfl x.cells.toArray rfl ?_)
  intro g2 w3 l2 h2 hb3
  have B3 := Lib.hid hb3
  have X3 : Hid (w3.rangeAt g2 0 x.cells) := Lib.hid (by simpa using range_of_block h2)
  clear h2 hb3
  by_cases hs : s.size > 4096
  · have hs' : (s.size : Int) > 4096 := by omega
    have AW := Lib.hid (awake12 w3 (HT.out.below B3.out))
    go_wp2_with fail
    refine AW.out.mono ?_
    rintro e w7 ⟨rfl, hb7⟩
    have B7 := Lib.hid (thenBelow B3.out hb7)
    clear hb7 AW
    go_wp2
    go_ret
    exact ⟨rfl, B7.out⟩
  have hs' : ¬ (s.size : Int) > 4096 := by omega
  clear hs
  have ba := below_alloc w3 (.cells x.cells.toArray 26)
  have na := heap_alloc_new w3 (.cells x.cells.toArray 26)
  have bb := below_alloc (w3.alloc (.cells x.cells.toArray 26)) (.cells #[.slice (some ⟨w3.heap.size, 0, none⟩) 1 1] 28)
  have nb := heap_alloc_new (w3.alloc (.cells x.cells.toArray 26)) (.cells #[.slice (some ⟨w3.heap.size, 0, none⟩) 1 1] 28)
  have B5 := Lib.hid (thenBelow B3.out (thenBelow ba bb))
  have X5 := Lib.hid (range_below X3.out (thenBelow ba bb))
  have hn5 : ((w3.alloc (.cells x.cells.toArray 26)).alloc (.cells #[.slice (some ⟨w3.heap.size, 0, none⟩) 1 1] 28)).heap[w3.heap.size + 1]? = some (.cells #[.slice (some ⟨w3.heap.size, 0, none⟩) 1 1] 28 (0, 0)) := by simpa [World.size_alloc] using nb
  have ha5 := (bb.block _ (Array.getElem?_eq_some_iff.1 na).1).trans na
  have EX5 : EvsAt ((w3.alloc (.cells x.cells.toArray 26)).alloc (.cells #[.slice (some ⟨w3.heap.size, 0, none⟩) 1 1] 28)) (some ⟨w3.heap.size, 0, none⟩) [x] := evs_one ⟨HX.out.1.below B5.out, HX.out.2⟩ (by simpa using range_of_block ha5)
  have FW : Hid (Calls Tryd.prog 6 #[.slice (some ⟨w3.heap.size + 1, 0, none⟩) 1 1] ((w3.alloc (.cells x.cells.toArray 26)).alloc (.cells #[.slice (some ⟨w3.heap.size, 0, none⟩) 1 1] 28)) (FewR ((w3.alloc (.cells x.cells.toArray 26)).alloc (.cells #[.slice (some ⟨w3.heap.size, 0, none⟩) 1 1] 28)) [⟨some ⟨w3.heap.size, 0, none⟩, 1, [x]⟩])) :=
    Lib.hid (fewE_is (w3.heap.size + 1) 1 [⟨some ⟨w3.heap.size, 0, none⟩, 1, [x]⟩] _ (fun i hi => by
      have hi2 : i < 1 := hi
      match i, hi2 with
      | 0, _ => exact ⟨(cell_of_row _ _ 0 _ _ _ hn5).trans rfl, EX5⟩) (by simp))
  clear ba na bb nb hn5 ha5 EX5
  obtain ⟨k0, k1, k2, k3, k4, k5, k6, k7⟩ := ev_cells X3.out
  obtain ⟨x0, hx0⟩ : ∃ x0, x = x0 := ⟨_, rfl⟩
  rw [hx0] at X3 X5 CK RC
  have HX0 := Lib.hid hx0
  clear hx0 X3 HX
  obtain ⟨⟨r, n, t, kd, dc, fl, tx, gn⟩, gp, gc⟩ := x
  simp only [EvP.cells] at B5 FW k0 k1 k2 k3 k4 k5 k6 k7 ⊢
  simp only [Nat.zero_add] at k0 k1 k2 k3 k4 k5 k6 k7
  have X5' := X5
  clear X5
  have X5 : Hid (((w3.alloc (.cells #[.int .i64 r, .int .i64 n, .int .i64 t, .int .i64 kd, .string dc, .int .i64 fl, .string tx, .slice gp gn.length gc] 26)).alloc (.cells #[.slice (some ⟨w3.heap.size, 0, none⟩) 1 1] 28)).rangeAt g2 0 [.int .i64 r, .int .i64 n, .int .i64 t, .int .i64 kd, .string dc, .int .i64 fl, .string tx, .slice gp gn.length gc]) := by rw [← HX0.out] at X5'; exact X5'
  have CK' : Hid (∀ V : World, Below W.heap.size W V → Calls Tryd.prog 12 #[.agg #[.int .i64 r, .int .i64 n, .int .i64 t, .int .i64 kd, .string dc, .int .i64 fl, .string tx, .slice gp gn.length gc]] V (Check1 V X)) := by rw [← HX0.out] at CK; exact CK
  have RC' : Hid (∀ V : World, Below W.heap.size W V → Calls Tryd.prog 13 #[.agg #[.int .i64 r, .int .i64 n, .int .i64 t, .int .i64 kd, .string dc, .int .i64 fl, .string tx, .slice gp gn.length gc]] V (Check1 V X)) := by rw [← HX0.out] at RC; exact RC
  have SZ : (Tryd.prog.info? 26).map (·.size) = some [Value.int .i64 r, .int .i64 n, .int .i64 t, .int .i64 kd, .string dc, .int .i64 fl, .string tx, .slice gp gn.length gc].length := by kernel_rfl
  clear X5' CK RC HX0
  go_wp2_with fail
  generalize (w3.alloc (.cells #[.int .i64 r, .int .i64 n, .int .i64 t, .int .i64 kd, .string dc, .int .i64 fl, .string tx, .slice gp gn.length gc] 26)).alloc (.cells #[.slice (some ⟨w3.heap.size, 0, none⟩) 1 1] 28) = w5 at X5 B5 FW ⊢
  refine FW.out.mono ?_
  rintro e w6 ⟨fw, rfl, hfw, hb6⟩
  have B6 := Lib.hid (thenBelow B5.out hb6); have X6 := Lib.hid (range_below X5.out hb6)
  clear FW hb6 X5 B5 k0 k1 k2 k3 k4 k5 k6 k7 hfw
  cases fw with
  | false =>
    have AW := Lib.hid (awake12 w6 (HT.out.below B6.out))
    go_wp2_with fail
    refine AW.out.mono ?_
    rintro e w7 ⟨rfl, hb7⟩
    have B7 := Lib.hid (thenBelow B6.out hb7)
    clear hb7 AW
    go_wp2
    go_ret
    exact ⟨rfl, B7.out⟩
  | true =>
    go_wp2_with fail
    rename_i K2 hK2
    refine rg_calm (by kernel_rfl) rfl (S := fun U => U.rangeAt g2 0 [.int .i64 r, .int .i64 n, .int .i64 t, .int .i64 kd, .string dc, .int .i64 fl, .string tx, .slice gp gn.length gc] ∧ Below W.heap.size W U) ?_
    have m0 := And.intro (show w6.drew.rangeAt g2 0 _ from X6.out) (to_drew B6.out)
    have keep : ∀ U U' : World, Below U.heap.size U U' → U.rangeAt g2 0 [.int .i64 r, .int .i64 n, .int .i64 t, .int .i64 kd, .string dc, .int .i64 fl, .string tx, .slice gp gn.length gc] ∧ Below W.heap.size W U → U'.rangeAt g2 0 [.int .i64 r, .int .i64 n, .int .i64 t, .int .i64 kd, .string dc, .int .i64 fl, .string tx, .slice gp gn.length gc] ∧ Below W.heap.size W U' := fun U U' hb h => ⟨range_below h.1 hb, thenBelow h.2 hb⟩
    refine rgd_pure 0 (some 18) rfl rfl (.string s) (by kernel_rfl) (by kernel_rfl) (by kernel_rfl) (fun _ _ _ _ h => h) (by kernel_rfl) (fun w => by kernel_rfl) m0 ?_
    refine rgd_pure 2 (some 20) rfl rfl (.string s) (by kernel_rfl) (by kernel_rfl) (by kernel_rfl) (fun _ _ _ _ h => h) (by kernel_rfl) (fun w => by kernel_rfl) m0 ?_
    refine rgd_call 1 (some 19) (by kernel_rfl) rfl rfl (by kernel_rfl) 8 (#[.string s]) (by kernel_rfl) (NM.out _) ?_
    rintro _ U1 ⟨rfl, rfl⟩
    refine ⟨_, rfl, m0, ?_⟩
    refine rgd_call 3 (some 21) (by kernel_rfl) rfl rfl (by kernel_rfl) 9 (#[.string s]) (by kernel_rfl) (NR.out _) ?_
    rintro _ U1 ⟨rfl, rfl⟩
    refine ⟨_, rfl, m0, ?_⟩
    refine rgd_pure 4 (some 22) rfl rfl (.bool true) (by kernel_rfl) (by kernel_rfl) (by kernel_rfl) (fun _ _ _ _ h => h) (by kernel_rfl) (exec_eqlT _ _ _ rfl N (by kernel_rfl) (by kernel_rfl)) m0 ?_
    refine rgd_pure 5 (some 23) rfl rfl (.bool true) (by kernel_rfl) (by kernel_rfl) (by kernel_rfl) (fun _ _ _ _ h => h) (by kernel_rfl) (fun w => by kernel_rfl) m0 ?_
    refine rgd_pure 6 (some 24) rfl rfl (.int .i64 f) (by kernel_rfl) (by kernel_rfl) (by kernel_rfl) (fun _ _ _ _ h => h) (by kernel_rfl) (fun w => by kernel_rfl) m0 ?_
    refine rgd_pure 7 (some 25) rfl rfl (.string s) (by kernel_rfl) (by kernel_rfl) (by kernel_rfl) (fun _ _ _ _ h => h) (by kernel_rfl) (fun w => by kernel_rfl) m0 ?_
    refine rgd_pure 9 (some 27) rfl rfl (.int .i64 f) (by kernel_rfl) (by kernel_rfl) (by kernel_rfl) (fun _ _ _ _ h => h) (by kernel_rfl) (fun w => by kernel_rfl) m0 ?_
    refine rgd_pure 10 (some 28) rfl rfl (.string s) (by kernel_rfl) (by kernel_rfl) (by kernel_rfl) (fun _ _ _ _ h => h) (by kernel_rfl) (fun w => by kernel_rfl) m0 ?_
    refine rgd_call 8 (some 26) (by kernel_rfl) rfl rfl (by kernel_rfl) 10 (#[.int .i64 f, .string s]) (by kernel_rfl) (TX.out _ m0.2) ?_
    rintro _ U1 ⟨rfl, rfl⟩
    refine ⟨_, rfl, m0, ?_⟩
    refine rgd_call 11 (some 29) (by kernel_rfl) rfl rfl (by kernel_rfl) 11 (#[.int .i64 f, .string s]) (by kernel_rfl) (TR.out _) ?_
    rintro _ U2 ⟨rfl, b2⟩
    have m2 := keep _ _ b2 m0
    refine ⟨_, rfl, m2, ?_⟩
    refine rgd_pure 12 (some 30) rfl rfl (.bool true) (by kernel_rfl) (by kernel_rfl) (by kernel_rfl) (fun _ _ _ _ h => h) (by kernel_rfl) (exec_eqlI _ _ _ _ rfl Y (by kernel_rfl) (by kernel_rfl)) m2 ?_
    refine rgd_pure 13 (some 31) rfl rfl (.bool true) (by kernel_rfl) (by kernel_rfl) (by kernel_rfl) (fun _ _ _ _ h => h) (by kernel_rfl) (fun w => by kernel_rfl) m2 ?_
    refine rgd_pure 14 (some 32) rfl rfl (.bool true) (by kernel_rfl) (by kernel_rfl) (by kernel_rfl) (fun _ _ _ _ h => h) (by kernel_rfl) (fun w => by kernel_rfl) m2 ?_
    refine rgd_pureS 15 (some 33) rfl rfl (.agg #[.int .i64 r, .int .i64 n, .int .i64 t, .int .i64 kd, .string dc, .int .i64 fl, .string tx, .slice gp gn.length gc]) (by kernel_rfl) (by kernel_rfl) (by kernel_rfl) (fun _ _ _ _ h => h) (by kernel_rfl) (fun U hU => exec_gload 26 _ rfl g2 0 (by kernel_rfl) _ hU.1 Tryd.underlying26 rfl SZ) m2 ?_
    refine rgd_pureS 17 (some 35) rfl rfl (.agg #[.int .i64 r, .int .i64 n, .int .i64 t, .int .i64 kd, .string dc, .int .i64 fl, .string tx, .slice gp gn.length gc]) (by kernel_rfl) (by kernel_rfl) (by kernel_rfl) (fun _ _ _ _ h => h) (by kernel_rfl) (fun U hU => exec_gload 26 _ rfl g2 0 (by kernel_rfl) _ hU.1 Tryd.underlying26 rfl SZ) m2 ?_
    refine rgd_call 16 (some 34) (by kernel_rfl) rfl rfl (by kernel_rfl) 12 (#[.agg #[.int .i64 r, .int .i64 n, .int .i64 t, .int .i64 kd, .string dc, .int .i64 fl, .string tx, .slice gp gn.length gc]]) (by kernel_rfl) (CK'.out _ m2.2) ?_
    rintro _ U3 ⟨rfl, b3⟩
    have m3 := keep _ _ b3 m2
    refine ⟨_, rfl, m3, ?_⟩
    refine rgd_call 18 (some 36) (by kernel_rfl) rfl rfl (by kernel_rfl) 13 (#[.agg #[.int .i64 r, .int .i64 n, .int .i64 t, .int .i64 kd, .string dc, .int .i64 fl, .string tx, .slice gp gn.length gc]]) (by kernel_rfl) (RC'.out _ m3.2) ?_
    rintro _ U4 ⟨rfl, b4⟩
    have m4 := keep _ _ b4 m3
    refine ⟨_, rfl, m4, ?_⟩
    refine rgd_pure 19 (some 37) rfl rfl (.bool true) (by kernel_rfl) (by kernel_rfl) (by kernel_rfl) (fun _ _ _ _ h => h) (by kernel_rfl) (exec_eqlI _ _ _ _ rfl X (by kernel_rfl) (by kernel_rfl)) m4 ?_
    refine rgd_pure 20 (some 38) rfl rfl (.bool true) (by kernel_rfl) (by kernel_rfl) (by kernel_rfl) (fun _ _ _ _ h => h) (by kernel_rfl) (fun w => by kernel_rfl) m4 ?_
    refine rgd_pure 21 (some 39) rfl rfl (.bool true) (by kernel_rfl) (by kernel_rfl) (by kernel_rfl) (fun _ _ _ _ h => h) (by kernel_rfl) (fun w => by kernel_rfl) m4 ?_
    refine rgd_call 22 (some 40) (by kernel_rfl) rfl rfl (by kernel_rfl) 7 (#[]) (by kernel_rfl) (awake12 _ (HT.out.below m4.2)) ?_
    rintro _ U5 ⟨rfl, b5⟩
    have m5 := keep _ _ b5 m4
    refine ⟨_, rfl, m5, ?_⟩
    refine rgd_pure 23 (some 41) rfl rfl (.bool true) (by kernel_rfl) (by kernel_rfl) (by kernel_rfl) (fun _ _ _ _ h => h) (by kernel_rfl) (fun w => by kernel_rfl) m5 ?_
    refine rgd_pure 24 (some 6) rfl rfl (.bool true) (by kernel_rfl) (by kernel_rfl) (by kernel_rfl) (fun _ _ _ _ h => h) (by kernel_rfl) (fun w => by kernel_rfl) m5 ?_
    have BU := Lib.hid m5.2
    have KE : K2 { tmps := #[.string s, .int .i64 f, .agg #[.int .i64 r, .int .i64 n, .int .i64 t, .int .i64 kd, .string dc, .int .i64 fl, .string tx, .slice gp gn.length gc], undef, undef, .pointer (some ⟨g2, 0, none⟩), .bool true, .string s, .int .i64 (s.size : Int), .bool false, .bool false, .agg #[.int .i64 r, .int .i64 n, .int .i64 t, .int .i64 kd, .string dc, .int .i64 fl, .string tx, .slice gp gn.length gc], .slice (some ⟨w3.heap.size, 0, none⟩) 1 1, .slice (some ⟨w3.heap.size + 1, 0, none⟩) 1 1, .bool true, .bool false, .bool false, undef, .string s, .bool N, .string s, .bool N, .bool true, .bool true, .int .i64 f, .string s, .int .i64 Y, .int .i64 f, .string s, .int .i64 Y, .bool true, .bool true, .bool true, .agg #[.int .i64 r, .int .i64 n, .int .i64 t, .int .i64 kd, .string dc, .int .i64 fl, .string tx, .slice gp gn.length gc], .int .i64 X, .agg #[.int .i64 r, .int .i64 n, .int .i64 t, .int .i64 kd, .string dc, .int .i64 fl, .string tx, .slice gp gn.length gc], .int .i64 X, .bool true, .bool true, .bool true, .bool true, .bool true], defers := [] } U5 := by
      refine hK2 _ _ ?_
      clear hK2 keep m0 m2 m3 m4 m5
      go_wp2
      go_ret
      exact ⟨rfl, BU.out⟩
    exact wpAnyH_done (by kernel_rfl) (Eq.mp (by kernel_rfl) KE) _
end Go.Proofs.YtffjbgbcaijlnaaDoor
