/- A reader that no call made: each of its methods. -/
import Derived.Test.YtgdhaijaiogiiaaCoderAwake
namespace Go.Proofs.Ytgdhaijaiogiiaa
open Go Go.RowKit

def In0 : Obj := .cells #[.slice none 0 0, .int .i64 0, .bool false] 47 (0, 0)
/-- nil, or a plain In{} -/
def Dead (w : World) (v : Value) : Prop := v = .pointer none ∨ ∃ B, v = .pointer (some ⟨B, 0, none⟩) ∧ w.heap[B]? = some In0
theorem Dead.cells {w : World} {B : Nat} (h : w.heap[B]? = some In0) : w.cell? ⟨B, 0, none⟩ = some (.slice none 0 0) ∧ w.cell? ⟨B, 1, none⟩ = some (.int .i64 0) ∧ w.cell? ⟨B, 2, none⟩ = some (.bool false) := by
  unfold In0 at h
  exact ⟨by rw [cell_of_row w B 0 _ _ _ h]; rfl, by rw [cell_of_row w B 1 _ _ _ h]; rfl, by rw [cell_of_row w B 2 _ _ _ h]; rfl⟩

set_option maxHeartbeats 1000000 in
theorem err_dead (v : Value) (w : World) (h : Dead w v) : Calls Try.prog 24 #[v] w fun e w' => e = .returned (.int .i64 2) ∧ w = w' := by
  rcases h with rfl | ⟨B, rfl, h⟩
  · go_enter Try.func24, Try.ntmps24
    go_wp2
    go_ret
    exact ⟨rfl, rfl⟩
  · obtain ⟨c0, c1, c2⟩ := Dead.cells h
    clear h
    go_enter Try.func24, Try.ntmps24
    go_wp2
    go_ret
    exact ⟨rfl, rfl⟩

set_option maxHeartbeats 1000000 in
theorem left_dead (v : Value) (w : World) (h : Dead w v) : Calls Try.prog 25 #[v] w fun e w' => e = .returned (.int .i64 0) ∧ w = w' := by
  rcases h with rfl | ⟨B, rfl, h⟩
  · go_enter Try.func25, Try.ntmps25
    go_wp2
    go_ret
    exact ⟨rfl, rfl⟩
  · obtain ⟨c0, c1, c2⟩ := Dead.cells h
    clear h
    go_enter Try.func25, Try.ntmps25
    go_wp2
    go_ret
    exact ⟨rfl, rfl⟩

set_option maxHeartbeats 1000000 in
theorem fail_dead (v : Value) (x : Int) (w : World) (h : Dead w v) : Calls Try.prog 30 #[v, .int .i64 x] w fun e w' => e = .returned (.tuple #[]) ∧ w = w' := by
  have he := err_dead v w h
  clear h
  go_enter Try.func30, Try.ntmps30
  go_wp2_with (go_at_call 24; refine he.mono ?_; rintro e w' ⟨rfl, rfl⟩)
  exact bodyPost_ret (results_none rfl _ _ _) rfl ⟨rfl, rfl⟩

set_option maxHeartbeats 1000000 in
theorem take_dead (v : Value) (n : Int) (w : World) (h : Dead w v) : Calls Try.prog 38 #[v, .int .i64 n] w fun e w' => e = .returned (.slice none 0 0) ∧ w = w' := by
  have he := err_dead v w h
  clear h
  go_enter Try.func38, Try.ntmps38
  go_wp2_with (go_at_call 24; refine he.mono ?_; rintro e w' ⟨rfl, rfl⟩)
  go_ret
  exact ⟨rfl, rfl⟩

set_option maxHeartbeats 1000000 in
theorem number_dead (v : Value) (w : World) (h : Dead w v) : Calls Try.prog 37 #[v] w fun e w' => e = .returned (.int .u64 0) ∧ w = w' := by
  have he := take_dead v 1 w h
  clear h
  go_enter Try.func37, Try.ntmps37
  go_wp2_with (go_at_call 38; refine he.mono ?_; rintro e w' ⟨rfl, rfl⟩)
  go_ret
  exact ⟨rfl, rfl⟩

set_option maxHeartbeats 1000000 in
theorem num_dead (v : Value) (n : Int) (w : World) (h : Dead w v) : Calls Try.prog 21 #[v, .int .i64 n] w fun e w' => e = .returned (.int .i64 0) ∧ w = w' := by
  have he := number_dead v w h
  have hf := fail_dead v 5 w h
  clear h
  by_cases h0 : n < 0
  all_goals
    go_enter Try.func21, Try.ntmps21
    go_wp2_with (first
      | (go_at_call 37; refine he.mono ?_; rintro e w' ⟨rfl, rfl⟩)
      | (go_at_call 30; refine hf.mono ?_; rintro e w' ⟨rfl, rfl⟩))
    go_ret
    exact ⟨rfl, rfl⟩

set_option maxHeartbeats 1000000 in
theorem sign_dead (v : Value) (w : World) (h : Dead w v) : Calls Try.prog 22 #[v] w fun e w' => e = .returned (.int .i64 0) ∧ w = w' := by
  have he := number_dead v w h
  clear h
  go_enter Try.func22, Try.ntmps22
  go_wp2_with (go_at_call 37; refine he.mono ?_; rintro e w' ⟨rfl, rfl⟩)
  go_ret
  exact ⟨ret_int (by unfold wrap64; decide), rfl⟩

set_option maxHeartbeats 1000000 in
theorem text_dead (v : Value) (n : Int) (w : World) (h : Dead w v) : Calls Try.prog 23 #[v, .int .i64 n] w fun e w' => e = .returned (.string ByteArray.empty) ∧ w = w' := by
  have he := num_dead v n w h
  have ht := take_dead v 0 w h
  have kz := fun w => (Lies.nil w none).convert (P := Try.prog) 0 rfl 0 22 5 9 Try.underlying22 Try.underlying5 Try.underlying9
  clear h
  go_enter Try.func23, Try.ntmps23
  go_wp2_with (first
    | (go_at_call 21; refine he.mono ?_; rintro e w' ⟨rfl, rfl⟩)
    | (go_at_call 38; refine ht.mono ?_; rintro e w' ⟨rfl, rfl⟩))
  go_ret
  exact ⟨rfl, rfl⟩

set_option maxHeartbeats 1000000 in
theorem rising_dead (v : Value) (n t : Int) (w : World) (h : Dead w v) : Calls Try.prog 27 #[v, .int .i64 n, .int .i64 t] w fun e w' => e = .returned (.slice none 0 0) ∧ w = w' := by
  have he := num_dead v n w h
  clear h
  by_cases h0 : t < -1
  all_goals
    go_enter Try.func27, Try.ntmps27
    go_wp2_with (go_at_call 21; refine he.mono ?_; rintro e w' ⟨rfl, rfl⟩)
    refine wp_loop_rounds 1 ?_
    rw [rounds_succ]
    go_wp2
    go_ret
    exact ⟨rfl, rfl⟩

set_option maxHeartbeats 1000000 in
theorem end_dead (v : Value) (w : World) (h : Dead w v) : Calls Try.prog 31 #[v] w fun e w' => e = .returned (.int .i64 2) ∧ w = w' := by
  have he := err_dead v w h
  clear h
  go_enter Try.func31, Try.ntmps31
  go_wp2_with (go_at_call 24; refine he.mono ?_; rintro e w' ⟨rfl, rfl⟩)
  go_ret
  exact ⟨rfl, rfl⟩
end Go.Proofs.Ytgdhaijaiogiiaa
