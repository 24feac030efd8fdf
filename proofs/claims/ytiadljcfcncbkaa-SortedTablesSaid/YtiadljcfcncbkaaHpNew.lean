/- sorted's NewHeap; the statements' Less. -/
import Derived.Test.YtiadljcfcncbkaaHpHeads
namespace Go.Proofs.Ytiadljcfcncbkaa
open Go Go.RowKit Hp
set_option linter.unusedVariables false

def key10 (a : Int) : Int := (a.tmod 10 + 10).tmod 10
set_option maxHeartbeats 1000000 in
set_option maxRecDepth 100000 in
theorem refKey_is (a : Int) (w : World) : Calls Try.prog 53 #[.int .i64 a] w fun e w' => e = .returned (.int .i64 (key10 a)) ∧ w' = w := by
  have h1 : a.tmod 10 < 10 := Int.tmod_lt_of_pos a (by omega)
  have h2 : -10 < a.tmod 10 := by
    have := Int.tmod_lt_of_pos (-a) (show (0 : Int) < 10 by omega)
    rw [Int.neg_tmod] at this
    omega
  have h3 : (a.tmod 10 + 10).tmod 10 = (a.tmod 10 + 10) % 10 := Int.tmod_eq_emod_of_nonneg (by omega)
  have hk := Lib.hid (show (a.tmod 10 + 10).tmod 10 = key10 a from rfl)
  go_enter Try.func53, Try.ntmps53
  have e : a.tmod 10 % 10 = key10 a := by rw [← hk.out, h3]; omega
  have E := Lib.hid e
  clear e
  go_wp2
  go_ret
  exact ⟨by rw [← E.out]; rfl, rfl⟩
theorem less_tell : TellI 27 #[] (fun a b => decide (key10 a < key10 b)) (fun _ => True) (fun _ => True) := by
  refine ⟨fun a b w _ _ _ => ?_, fun args w => by kernel_rfl⟩
  show Calls Try.prog 27 #[.int .i64 a, .int .i64 b] w _
  have K1 := Lib.hid (refKey_is a); have K2 := Lib.hid (refKey_is b)
  generalize key10 a = x at K1 ⊢
  generalize key10 b = y at K2 ⊢
  go_enter Try.func27, Try.ntmps27
  go_wp2_with fail
  refine (K1.out w).mono ?_
  rintro e w1 ⟨rfl, rfl⟩
  go_wp2_with fail
  refine (K2.out w1).mono ?_
  rintro e w2 ⟨rfl, rfl⟩
  go_wp2_with fail
  go_ret
  exact ⟨rfl, Below.refl _ _⟩
theorem newSteady_is (L : FuncId) (caps : Array Value) (w : World) : Calls Try.prog 52 #[.func (.func L) #[] caps] w fun e w' => e = .returned (.func (.func 69) #[] #[.pointer (some ⟨w.heap.size, 0, none⟩)]) ∧ w' = w.alloc (.cells #[.func (.func L) #[] caps] 49) := by
  go_enter Try.func52, Try.ntmps52
  go_wp2
  go_ret
  exact ⟨rfl, rfl⟩
set_option maxRecDepth 100000 in
theorem newHeap_is (L : FuncId) (caps : Array Value) (w : World) : Calls Try.prog 26 #[.func (.func L) #[] caps] w fun e w' => e = .returned (.pointer (some ⟨w.heap.size + 1, 0, none⟩)) ∧ InBox w.heap.size L caps w' ∧ HeapAt (w.heap.size + 1) (w.heap.size + 1) 69 #[.pointer (some ⟨w.heap.size, 0, none⟩)] [] 0 w' ∧ Below w.heap.size w w' ∧ w'.heap.size = w.heap.size + 2 := by
  have hne : ∀ w : World, (binOp .eql 49 (.func (.func L) #[] caps) .nilFunc).run Try.prog w = .ok (.bool false) w := fun w => by kernel_rfl
  go_enter Try.func26, Try.ntmps26
  go_wp2_with fail
  refine (newSteady_is L caps w).mono ?_
  rintro e w1 ⟨rfl, rfl⟩
  go_wp2_with fail
  go_ret
  refine ⟨rfl, ?_, ⟨.slice none 0 0, ?_, World.ownsRow_nil _ _ _ _⟩, ((Below.refl _ w).alloc (Nat.le_refl _) _).alloc (by simp) _, by simp⟩
  · have h := heap_alloc_new w (.cells #[.func (.func L) #[] caps] 49)
    exact (Below.heap_alloc _ _ _ (Array.getElem?_eq_some_iff.1 h).1).trans h
  · have h := heap_alloc_new (w.alloc (.cells #[.func (.func L) #[] caps] 49)) (.cells #[.func (.func 69) #[] #[.pointer (some ⟨w.heap.size, 0, none⟩)], .slice none 0 0, .int .i64 0] 74)
    rw [World.size_alloc] at h
    exact h
end Go.Proofs.Ytiadljcfcncbkaa
