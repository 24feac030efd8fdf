/- sorted: tables, heaps and best ones that no call made, and without an order. -/
import Derived.Test.YtlajceamjodcjaaMem
import Derived.Test.YtlajceamjodcjaaProg
import Derived.WalkKit
namespace Go.Proofs.Ytlajceamjodcjaa
open Go Go.RowKit
set_option linter.unusedVariables false

set_option maxHeartbeats 1000000
set_option maxRecDepth 100000
theorem seek_nil (x : Int) (w : World) : Calls Try.prog 42 #[.pointer none, .int .i64 x] w fun e w' => e = .returned (.tuple #[.int .i64 0, .bool false]) ∧ w' = w := by
  go_enter Try.func42, Try.ntmps42
  go_wp2
  exact bodyPost_ret (results_tmp2 rfl _ _ _) rfl ⟨rfl, rfl⟩
theorem get_nil (x : Int) (w : World) : Calls Try.prog 25 #[.pointer none, .int .i64 x] w fun e w' => e = .returned (.tuple #[.int .i64 0, .bool false]) ∧ w' = w := by
  have SK := Lib.hid (seek_nil x w)
  go_enter Try.func25, Try.ntmps25
  go_wp2_with fail
  refine SK.out.mono ?_
  rintro e w1 ⟨rfl, rfl⟩
  go_wp2_with fail
  exact bodyPost_ret (results_tmp2 rfl _ _ _) rfl ⟨rfl, rfl⟩
theorem put_nil (x y : Int) (w : World) : Calls Try.prog 21 #[.pointer none, .int .i64 x, .int .i64 y] w fun e w' => e = .returned (.bool false) ∧ w' = w := by
  go_enter Try.func21, Try.ntmps21
  go_wp2
  go_ret
  exact ⟨rfl, rfl⟩
theorem cut_nil (x : Int) (w : World) : Calls Try.prog 43 #[.pointer none, .int .i64 x] w fun e w' => e = .returned (.bool false) ∧ w' = w := by
  have SK := Lib.hid (seek_nil x w)
  go_enter Try.func43, Try.ntmps43
  go_wp2_with fail
  refine SK.out.mono ?_
  rintro e w1 ⟨rfl, rfl⟩
  go_wp2_with fail
  go_ret
  exact ⟨rfl, rfl⟩
theorem tlen_nil (w : World) : Calls Try.prog 22 #[.pointer none] w fun e w' => e = .returned (.int .i64 0) ∧ w' = w := by
  go_enter Try.func22, Try.ntmps22
  go_wp2
  go_ret
  exact ⟨rfl, rfl⟩
theorem tkeys_nil (w : World) : Calls Try.prog 24 #[.pointer none] w fun e w' => e = .returned (.slice none 0 0) ∧ w' = w := by
  go_enter Try.func24, Try.ntmps24
  go_wp2
  go_ret
  exact ⟨rfl, rfl⟩
/-- a heap that is none, or without an order -/
def HNil (w : World) (v : Value) : Prop := v = .pointer none ∨ ∃ H, v = .pointer (some ⟨H, 0, none⟩) ∧ w.heap[H]? = some (Obj.cells #[.nilFunc, .slice none 0 0, .int .i64 0] 74 (0, 0))
theorem hlen_nil (v : Value) (w : World) (h : HNil w v) : Calls Try.prog 36 #[v] w fun e w' => e = .returned (.int .i64 0) ∧ w' = w := by
  rcases h with rfl | ⟨H, rfl, hv⟩
  · go_enter Try.func36, Try.ntmps36
    go_wp2
    go_ret
    exact ⟨rfl, rfl⟩
  · have c1 := (cell_of_row w H 1 _ _ _ hv).trans (show _ = some (Value.slice none 0 0) from rfl)
    clear hv
    go_enter Try.func36, Try.ntmps36
    go_wp2
    go_ret
    exact ⟨rfl, rfl⟩
theorem push_nil (v : Value) (x : Int) (w : World) (h : HNil w v) : Calls Try.prog 28 #[v, .int .i64 x] w fun e w' => e = .returned (.tuple #[]) ∧ w' = w := by
  rcases h with rfl | ⟨H, rfl, hv⟩
  · go_enter Try.func28, Try.ntmps28
    go_wp2
    exact bodyPost_ret (v := .tuple #[]) (by kernel_rfl) rfl ⟨rfl, rfl⟩
  · have c0 := (cell_of_row w H 0 _ _ _ hv).trans (show _ = some Value.nilFunc from rfl)
    have hne : ∀ w : World, (binOp .eql 71 .nilFunc .nilFunc).run Try.prog w = .ok (.bool true) w := fun w => by kernel_rfl
    clear hv
    go_enter Try.func28, Try.ntmps28
    go_wp2
    exact bodyPost_ret (v := .tuple #[]) (by kernel_rfl) rfl ⟨rfl, rfl⟩
theorem pop_nil (v : Value) (w : World) (h : HNil w v) : Calls Try.prog 29 #[v] w fun e w' => e = .returned (.tuple #[.int .i64 0, .bool false]) ∧ w' = w := by
  have LN := Lib.hid (hlen_nil v w h)
  clear h
  go_enter Try.func29, Try.ntmps29
  go_wp2_with fail
  refine LN.out.mono ?_
  rintro e w1 ⟨rfl, rfl⟩
  go_wp2_with fail
  exact bodyPost_ret (results_tmp2 rfl _ _ _) rfl ⟨rfl, rfl⟩
theorem newHeap_nil (w : World) : Calls Try.prog 26 #[.nilFunc] w fun e w' => e = .returned (.pointer (some ⟨w.heap.size, 0, none⟩)) ∧ w' = w.alloc (.cells #[.nilFunc, .slice none 0 0, .int .i64 0] 74) := by
  have hne : ∀ w : World, (binOp .eql 49 .nilFunc .nilFunc).run Try.prog w = .ok (.bool true) w := fun w => by kernel_rfl
  go_enter Try.func26, Try.ntmps26
  go_wp2
  go_ret
  exact ⟨rfl, rfl⟩
theorem newBest_nil (k : Int) (w : World) : Calls Try.prog 37 #[.int .i64 k, .nilFunc] w fun e w' => e = .returned (.pointer (some ⟨w.heap.size, 0, none⟩)) ∧ w' = w.alloc (.cells #[.int .i64 0, .nilFunc, .slice none 0 0, .int .i64 0] 77) := by
  have hne : ∀ w : World, (binOp .eql 49 .nilFunc .nilFunc).run Try.prog w = .ok (.bool true) w := fun w => by kernel_rfl
  go_enter Try.func37, Try.ntmps37
  go_wp2
  go_ret
  exact ⟨rfl, rfl⟩
theorem merge_nil (p : Option Addr) (n c : Nat) (w : World) : Calls Try.prog 41 #[.nilFunc, .slice p n c] w fun e w' => e = .returned (.slice none 0 0) ∧ Below w.heap.size w w' := by
  have hne : ∀ w : World, (binOp .eql 49 .nilFunc .nilFunc).run Try.prog w = .ok (.bool true) w := fun w => by kernel_rfl
  have h3 := heap_alloc_new w (.cells #[.nilFunc] 49)
  have c0 := cell_alloc (.cells #[.slice p n c] 66) ((cell_of_row _ w.heap.size 0 _ _ _ h3).trans (show _ = some Value.nilFunc from rfl))
  have hb := ((Below.refl w.heap.size w).alloc (Nat.le_refl _) (.cells #[.nilFunc] 49)).alloc (by simp) (.cells #[.slice p n c] 66)
  clear h3
  go_enter Try.func41, Try.ntmps41
  go_wp2
  go_ret
  exact ⟨rfl, hb⟩
/-- a best that is none, or without an order -/
def BNil (w : World) (v : Value) : Prop := v = .pointer none ∨ ∃ H, v = .pointer (some ⟨H, 0, none⟩) ∧ w.heap[H]? = some (Obj.cells #[.int .i64 0, .nilFunc, .slice none 0 0, .int .i64 0] 77 (0, 0))
theorem offer_nil (v : Value) (x : Int) (w : World) (h : BNil w v) : Calls Try.prog 38 #[v, .int .i64 x] w fun e w' => e = .returned (.tuple #[]) ∧ w' = w := by
  rcases h with rfl | ⟨H, rfl, hv⟩
  · go_enter Try.func38, Try.ntmps38
    go_wp2
    exact bodyPost_ret (v := .tuple #[]) (by kernel_rfl) rfl ⟨rfl, rfl⟩
  · have c0 := (cell_of_row w H 1 _ _ _ hv).trans (show _ = some Value.nilFunc from rfl)
    have hne : ∀ w : World, (binOp .eql 71 .nilFunc .nilFunc).run Try.prog w = .ok (.bool true) w := fun w => by kernel_rfl
    clear hv
    go_enter Try.func38, Try.ntmps38
    go_wp2
    exact bodyPost_ret (v := .tuple #[]) (by kernel_rfl) rfl ⟨rfl, rfl⟩
theorem take_none (w : World) : Calls Try.prog 39 #[.pointer none] w fun e w' => e = .returned (.slice none 0 0) ∧ w' = w := by
  go_enter Try.func39, Try.ntmps39
  go_wp2
  go_ret
  exact ⟨rfl, rfl⟩
end Go.Proofs.Ytlajceamjodcjaa
