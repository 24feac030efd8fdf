/- The walk of CoderNobody. -/
import Derived.Test.YtgdhaijaiogiiaaCoderDead
namespace Go.Proofs.Ytgdhaijaiogiiaa
open Go Go.RowKit

set_option maxHeartbeats 4000000 in
set_option maxRecDepth 100000 in
theorem coderNobody_walk (n top e : Int) (W : World) (hn : (Lit.int .i64 n).wf = true) (ht : (Lit.int .i64 top).wf = true) (he : (Lit.int .i64 e).wf = true) :
    Calls Try.prog 8 #[.int .i64 n, .int .i64 top, .int .i64 e] W (Yes W) := by
  clear hn ht he
  go_enter Try.func8, Try.ntmps8
  go_wp2_with fail
  have hbel : Below W.heap.size W ((W.alloc (.cells #[.slice none 0 0, .int .i64 0, .bool false] 47)).alloc (.cells #[.pointer none, .pointer (some ⟨W.heap.size, 0, none⟩)] 32)) := ((Below.refl _ _).alloc (Nat.le_refl _) _).alloc (by simp) _
  have c0 : ((W.alloc (.cells #[.slice none 0 0, .int .i64 0, .bool false] 47)).alloc (.cells #[.pointer none, .pointer (some ⟨W.heap.size, 0, none⟩)] 32)).cell? ⟨W.heap.size + 1, 0, none⟩ = some (.pointer none) := by
    rw [World.cell?_alloc_at _ _ _ _ (by simp)]; rfl
  have c1 : ((W.alloc (.cells #[.slice none 0 0, .int .i64 0, .bool false] 47)).alloc (.cells #[.pointer none, .pointer (some ⟨W.heap.size, 0, none⟩)] 32)).cell? ⟨W.heap.size + 1, 1, none⟩ = some (.pointer (some ⟨W.heap.size, 0, none⟩)) := by
    rw [World.cell?_alloc_at _ _ _ _ (by simp)]; rfl
  have hb : ((W.alloc (.cells #[.slice none 0 0, .int .i64 0, .bool false] 47)).alloc (.cells #[.pointer none, .pointer (some ⟨W.heap.size, 0, none⟩)] 32)).heap[W.heap.size]? = some In0 := by
    rw [Below.heap_alloc _ _ _ (by simp)]; exact heap_alloc_new W _
  generalize ((W.alloc (.cells #[.slice none 0 0, .int .i64 0, .bool false] 47)).alloc (.cells #[.pointer none, .pointer (some ⟨W.heap.size, 0, none⟩)] 32)) = w2 at *
  have d0 : Dead w2 (.pointer none) := .inl rfl
  have d1 : Dead w2 (.pointer (some ⟨W.heap.size, 0, none⟩)) := .inr ⟨_, rfl, hb⟩
  have D0 := Lib.hid d0; have D1 := Lib.hid d1; have HB := Lib.hid hbel
  clear d0 d1 hbel hb
  go_loop [13] (fun i => ∃ k : Nat, k ≤ 2 ∧ i = .int .i64 k) (fun i => 2 - (intOf i).toNat)
  case atStart => exact ⟨0, by omega, rfl⟩
  case round =>
    obtain ⟨k, hk, rfl⟩ := hrel
    have hE : Hid (∀ v, Dead w2 v → True) := fun _ _ => trivial
    match k, hk with
    | 2, _ =>
      go_wp2_with fail
      refine (awake_any w2).mono ?_
      rintro e' w3 ⟨rfl, b3⟩
      have B3 := Lib.hid b3
      go_wp2_with fail
      go_ret
      exact ⟨rfl, thenBelow HB.out B3.out⟩
    | 0, _ =>
      have hp : w2.cell? ⟨W.heap.size + 1, 0, none⟩ = some (.pointer none) := c0
      go_wp2_with (first
        | (go_at_call 30; refine (fail_dead _ _ w2 D0.out).mono ?_; rintro e' w' ⟨rfl, rfl⟩)
        | (go_at_call 21; refine (num_dead _ _ w2 D0.out).mono ?_; rintro e' w' ⟨rfl, rfl⟩)
        | (go_at_call 22; refine (sign_dead _ w2 D0.out).mono ?_; rintro e' w' ⟨rfl, rfl⟩)
        | (go_at_call 23; refine (text_dead _ _ w2 D0.out).mono ?_; rintro e' w' ⟨rfl, rfl⟩)
        | (go_at_call 27; refine (rising_dead _ _ _ w2 D0.out).mono ?_; rintro e' w' ⟨rfl, rfl⟩)
        | (go_at_call 25; refine (left_dead _ w2 D0.out).mono ?_; rintro e' w' ⟨rfl, rfl⟩)
        | (go_at_call 24; refine (err_dead _ w2 D0.out).mono ?_; rintro e' w' ⟨rfl, rfl⟩)
        | (go_at_call 31; refine (end_dead _ w2 D0.out).mono ?_; rintro e' w' ⟨rfl, rfl⟩))
      go_round
      case rel => exact ⟨1, by omega, rfl⟩
      case measure => decide
    | 1, _ =>
      have hp : w2.cell? ⟨W.heap.size + 1, 1, none⟩ = some (.pointer (some ⟨W.heap.size, 0, none⟩)) := c1
      go_wp2_with (first
        | (go_at_call 30; refine (fail_dead _ _ w2 D1.out).mono ?_; rintro e' w' ⟨rfl, rfl⟩)
        | (go_at_call 21; refine (num_dead _ _ w2 D1.out).mono ?_; rintro e' w' ⟨rfl, rfl⟩)
        | (go_at_call 22; refine (sign_dead _ w2 D1.out).mono ?_; rintro e' w' ⟨rfl, rfl⟩)
        | (go_at_call 23; refine (text_dead _ _ w2 D1.out).mono ?_; rintro e' w' ⟨rfl, rfl⟩)
        | (go_at_call 27; refine (rising_dead _ _ _ w2 D1.out).mono ?_; rintro e' w' ⟨rfl, rfl⟩)
        | (go_at_call 25; refine (left_dead _ w2 D1.out).mono ?_; rintro e' w' ⟨rfl, rfl⟩)
        | (go_at_call 24; refine (err_dead _ w2 D1.out).mono ?_; rintro e' w' ⟨rfl, rfl⟩)
        | (go_at_call 31; refine (end_dead _ w2 D1.out).mono ?_; rintro e' w' ⟨rfl, rfl⟩))
      go_round
      case rel => exact ⟨2, by omega, rfl⟩
      case measure => decide
end Go.Proofs.Ytgdhaijaiogiiaa
