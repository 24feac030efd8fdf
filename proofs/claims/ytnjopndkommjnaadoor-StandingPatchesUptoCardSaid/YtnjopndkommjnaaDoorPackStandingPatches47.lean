/- The statement StandingPatches, proved for every input that its row reads: part 47 of 54. -/
import Derived.Test.YtnjopndkommjnaaDoorCellsG
import Derived.Test.YtnjopndkommjnaaDoorPackStandingPatches10
/- slices.Equal of the same things. -/
namespace Go.Proofs.YtnjopndkommjnaaDoor
open Go Go.RowKit
set_option linter.unusedVariables false
set_option maxRecDepth 1000000

theorem runEqH (ti : ByteArray) (ts : Int) (w : World) : (Op.equalIn 10000 28 (.agg #[.string ti, .int .i64 ts]) (.agg #[.string ti, .int .i64 ts])).run Tryd.prog w = .ok true w := by
  have u3 := Tryd.underlying3
  have a3 := Tryd.isAgg3
  have z3 := Tryd.sizeOf3
  have u9 := Tryd.underlying9
  have a9 := Tryd.isAgg9
  have z9 := Tryd.sizeOf9
  have hS : Tryd.prog.underlying 28 = some (.struct (Tryd.prog.fieldsOf 28)) := by kernel_rfl
  have hp : Tryd.prog.stoodInHeld 28 = false := by kernel_rfl
  rw [show (10000 : Nat) = 9999 + 1 from rfl, run_equalIn_agg w 9999 28 _ _ hS hp]
  simp only [Program.fieldsOf, Tryd.underlying28]
  go_simp
theorem exec_neqHs {o : Oper} {a : Act} (t : TypeId) (x y : Operand) (ho : o.op = .binOp .neq 28 x y t) (ti : ByteArray) (ts : Int) (hx : a.eval x = .agg #[.string ti, .int .i64 ts]) (hy : a.eval y = .agg #[.string ti, .int .i64 ts]) (w : World) :
    (execOp a.eval o).run Tryd.prog w = .ok (.value (.bool false)) w := by
  have h : (binOp .neq 28 (.agg #[.string ti, .int .i64 ts]) (.agg #[.string ti, .int .i64 ts])).run Tryd.prog w = .ok (.bool false) w := by
    rw [run_neq_struct, runEqH ti ts w]; rfl
  unfold execOp
  simp only [ho, hx, hy]
  refine run_value_of ?_
  rw [Sem.run_bind]
  have hg : (eqGuard .neq 28 x y (.agg #[.string ti, .int .i64 ts]) (.agg #[.string ti, .int .i64 ts])).run Tryd.prog w = .ok () w := by
    unfold eqGuard
    go_simp
  rw [hg]
  exact h
set_option maxHeartbeats 1000000 in
theorem equalH_is (p q : Option Addr) (c d : Nat) (T : List Ht) (w : World) (h1 : HtsAt w p T) (h2 : HtsAt w q T) (hn : T.length ≤ 100000) :
    Calls Tryd.prog 16 #[.slice p T.length c, .slice q T.length d] w (RetBool w true) := by
  have H1 := Lib.hid h1; have H2 := Lib.hid h2
  clear h1 h2
  go_enter Tryd.func16, Tryd.ntmps16
  go_wp2
  go_loopw [13] (fun i wr => ∃ k : Nat, k ≤ T.length ∧ i = .int .i64 k ∧ Below w.heap.size w wr) (fun i _ => T.length - (RowKit.intOf i).toNat)
  case atStart => exact ⟨0, Nat.zero_le _, rfl, Below.refl _ _⟩
  case round =>
    obtain ⟨k, hk, rfl, hb⟩ := hrel
    have BR := Lib.hid hb
    clear hb
    by_cases hkl : k < T.length
    · have hkl' : (k : Int) < T.length := by omega
      obtain ⟨b1, o1, rfl, l1, r1⟩ := (H1.out.below BR.out).at hkl
      obtain ⟨b2, o2, rfl, l2, r2⟩ := (H2.out.below BR.out).at hkl
      obtain ⟨⟨ti, ts⟩, hy⟩ : ∃ y, T[k] = y := ⟨_, rfl⟩
      rw [hy] at r1 r2
      have R1 : Hid (wr.rangeAt b1 (o1 + k * 2) [.string ti, .int .i64 ts]) := Lib.hid r1
      have R2 : Hid (wr.rangeAt b2 (o2 + k * 2) [.string ti, .int .i64 ts]) := Lib.hid r2
      clear r1 r2 hy l1 l2
      go_wp2_with fail
      have m0 : wr.drew.rangeAt b1 (o1 + k * 2) [.string ti, .int .i64 ts] ∧ wr.drew.rangeAt b2 (o2 + k * 2) [.string ti, .int .i64 ts] := ⟨R1.out, R2.out⟩
      refine rg_calm (by kernel_rfl) rfl (S := fun U => U.rangeAt b1 (o1 + k * 2) [.string ti, .int .i64 ts] ∧ U.rangeAt b2 (o2 + k * 2) [.string ti, .int .i64 ts]) ?_
      refine rgd_pure 0 (some 16) rfl rfl (.slice (some ⟨b1, o1, none⟩) T.length c) (by kernel_rfl) (by kernel_rfl) (by kernel_rfl) (fun _ _ _ _ h => h) (by kernel_rfl) (fun w => by kernel_rfl) m0 ?_
      refine rgd_pure 1 (some 17) rfl rfl (.int .i64 k) (by kernel_rfl) (by kernel_rfl) (by kernel_rfl) (fun _ _ _ _ h => h) (by kernel_rfl) (fun w => by kernel_rfl) m0 ?_
      refine rgd_pure 2 (some 18) rfl rfl (.pointer (some ⟨b1, o1 + k * 2, none⟩)) (by kernel_rfl) (by kernel_rfl) (by kernel_rfl) (fun _ _ _ _ h => h) (by kernel_rfl) (fun w => exec_idxH _ _ rfl b1 o1 T.length c k (by kernel_rfl) (by kernel_rfl) hkl w) m0 ?_
      refine rgd_pureS 3 (some 19) rfl rfl (.agg #[.string ti, .int .i64 ts]) (by kernel_rfl) (by kernel_rfl) (by kernel_rfl) (fun _ _ _ _ h => h) (by kernel_rfl) (fun U hU => exec_gload 28 _ rfl b1 (o1 + k * 2) (by kernel_rfl) [.string ti, .int .i64 ts] hU.1 Tryd.underlying28 rfl (sizeHt ⟨ti, ts⟩)) m0 ?_
      refine rgd_pure 4 (some 20) rfl rfl (.slice (some ⟨b2, o2, none⟩) T.length d) (by kernel_rfl) (by kernel_rfl) (by kernel_rfl) (fun _ _ _ _ h => h) (by kernel_rfl) (fun w => by kernel_rfl) m0 ?_
      refine rgd_pure 5 (some 21) rfl rfl (.int .i64 k) (by kernel_rfl) (by kernel_rfl) (by kernel_rfl) (fun _ _ _ _ h => h) (by kernel_rfl) (fun w => by kernel_rfl) m0 ?_
      refine rgd_pure 6 (some 22) rfl rfl (.pointer (some ⟨b2, o2 + k * 2, none⟩)) (by kernel_rfl) (by kernel_rfl) (by kernel_rfl) (fun _ _ _ _ h => h) (by kernel_rfl) (fun w => exec_idxH _ _ rfl b2 o2 T.length d k (by kernel_rfl) (by kernel_rfl) hkl w) m0 ?_
      refine rgd_pureS 7 (some 23) rfl rfl (.agg #[.string ti, .int .i64 ts]) (by kernel_rfl) (by kernel_rfl) (by kernel_rfl) (fun _ _ _ _ h => h) (by kernel_rfl) (fun U hU => exec_gload 28 _ rfl b2 (o2 + k * 2) (by kernel_rfl) [.string ti, .int .i64 ts] hU.2 Tryd.underlying28 rfl (sizeHt ⟨ti, ts⟩)) m0 ?_
      refine rgd_pure 8 (some 24) rfl rfl (.bool false) (by kernel_rfl) (by kernel_rfl) (by kernel_rfl) (fun _ _ _ _ h => h) (by kernel_rfl) (fun w => exec_neqHs _ _ _ rfl ti ts (by kernel_rfl) (by kernel_rfl) w) m0 ?_
      have BF := Lib.hid (to_drew BR.out)
      clear m0 R1 R2 BR
      generalize wr.drew = V2 at BF ⊢
      refine wpAnyH_done (by kernel_rfl) ?_ _
      have key : ∀ X Y : Act, X = Y → ∀ K : Act → World → Prop, K Y V2 → K X V2 := fun X Y e K h => e ▸ h
      refine key _ { tmps := #[.slice (some ⟨b1, o1, none⟩) T.length c, .slice (some ⟨b2, o2, none⟩) T.length d, undef, undef, u4, .int .i64 k, .slice (some ⟨b1, o1, none⟩) T.length c, .int .i64 T.length, .slice (some ⟨b2, o2, none⟩) T.length d, .int .i64 T.length, .bool false, .slice (some ⟨b1, o1, none⟩) T.length c, .int .i64 T.length, .int .i64 k, .bool true, .int .i64 k, .slice (some ⟨b1, o1, none⟩) T.length c, .int .i64 k, .pointer (some ⟨b1, o1 + k * 2, none⟩), .agg #[.string ti, .int .i64 ts], .slice (some ⟨b2, o2, none⟩) T.length d, .int .i64 k, .pointer (some ⟨b2, o2 + k * 2, none⟩), .agg #[.string ti, .int .i64 ts], .bool false, u25], defers := [] } (by kernel_rfl) _ ?_
      simp only [Exit.then, Exit.inBlock]
      go_wp2
      go_roundw
      case rel => exact ⟨k + 1, by omega, by go_num, BF.out⟩
      case measure => simp [intOf]; omega
    · obtain rfl : k = T.length := by omega
      have hkl' : ¬ ((T.length : Nat) : Int) < T.length := by omega
      go_wp2
      go_ret
      exact ⟨rfl, BR.out⟩
end Go.Proofs.YtnjopndkommjnaaDoor
