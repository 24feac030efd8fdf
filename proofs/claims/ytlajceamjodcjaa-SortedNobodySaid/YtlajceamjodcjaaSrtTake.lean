/- sorted: Take of a best one without an order. -/
import Derived.Test.YtlajceamjodcjaaSrtNil
import Derived.Test.YtlajceamjodcjaaHpPush
namespace Go.Proofs.Ytlajceamjodcjaa
open Go Go.RowKit
set_option linter.unusedVariables false

theorem set_same {w : World} {H : Nat} {cs : Array Value} {t : TypeId} {m : Nat × Nat} (hv : w.heap[H]? = some (.cells cs t m)) (k : Nat) (v : Value) (hk : cs[k]? = some v) : w.setCell ⟨H, k, none⟩ v = w := by
  obtain ⟨hlt, he⟩ := Array.getElem?_eq_some_iff.1 hv
  have h2 : (w.setCell ⟨H, k, none⟩ v).heap = w.heap := by
    apply Array.ext_getElem?
    intro j
    by_cases hj : j = H
    · subst hj
      rw [set_cellsH hv k v, hv]
      congr 2
      apply Array.ext_getElem?
      intro i
      rw [Array.getElem?_setIfInBounds]
      obtain ⟨hk1, hk2⟩ := Array.getElem?_eq_some_iff.1 hk
      by_cases hi : k = i
      · subst hi; simp [hk1, hk2]
      · simp [hi]
    · exact Below.heap_setCell _ _ _ j hj
  show { w with heap := (w.setCell ⟨H, k, none⟩ v).heap } = w
  rw [h2]
set_option maxHeartbeats 1000000
set_option maxRecDepth 100000
theorem take_empty (H : Nat) (w : World) (hv : w.heap[H]? = some (Obj.cells #[.int .i64 0, .nilFunc, .slice none 0 0, .int .i64 0] 77 (0, 0))) : Calls Try.prog 39 #[.pointer (some ⟨H, 0, none⟩)] w fun e w' => (∃ p c, e = .returned (.slice p 0 c)) ∧ Below w.heap.size w w' := by
  have c2 := (cell_of_row w H 2 _ _ _ hv).trans (show _ = some (Value.slice none 0 0) from rfl)
  have c3 := (cell_of_row w H 3 _ _ _ hv).trans (show _ = some (Value.int .i64 0) from rfl)
  have f2 := frozen_of_row w H 2 _ _ hv
  have f3 := frozen_of_row w H 3 _ _ hv
  have s2 := set_same hv 2 (.slice none 0 0) rfl
  have s3 := set_same hv 3 (.int .i64 0) rfl
  have hmk : ∀ W : World, (Instr.makeSlice 24 (.int .i64 0) (.int .i64 0)).run Try.prog W = .ok (.slice (some ⟨W.heap.size, 0, none⟩) 0 0) (W.alloc (.cells #[] 3)) := fun W => by
    have hi : ∃ i, Try.prog.info? 3 = some i ∧ i.zero = some (.int .i64 0) ∧ i.bytes = 8 ∧ i.size = 1 := ⟨_, rfl, rfl, rfl, rfl⟩
    obtain ⟨i, h1, h2, h3, h4⟩ := hi
    have hr := run_make (P := Try.prog) W 24 3 i (.int .i64 0) Try.underlying24 h1 h2 .i64 .i64 0 0 (by omega) (Int.le_refl _) (by rw [h3]; omega) (by omega)
    have hm : madeCells #[Value.int .i64 0] 0 = #[] := by
      apply Array.toList_inj.1
      rw [toList_madeCells_one]
      rfl
    rw [h4, show Int.toNat 0 * 1 = 0 from rfl, show (Value.int IntKind.i64 0).cells = #[Value.int .i64 0] from rfl, hm] at hr
    exact hr
  have hb : Below w.heap.size w (w.alloc (.cells #[] 3)) := (Below.refl _ w).alloc (Nat.le_refl _) _
  clear hv
  go_enter Try.func39, Try.ntmps39
  go_wp2
  clear c2 c3 f2 f3 s2 s3 hmk
  have HB := Lib.hid hb
  clear hb
  generalize w.alloc (.cells #[] 3) = w1 at HB ⊢
  go_loopw [5] (fun i wr => i = .int .i64 (-1) ∧ wr = w1) (fun _ _ => 0)
  case atStart => exact ⟨rfl, rfl⟩
  case round =>
    obtain ⟨rfl, rfl⟩ := hrel
    go_wp2
    go_ret
    exact ⟨⟨_, _, rfl⟩, HB.out⟩
theorem take_nil (v : Value) (w : World) (h : BNil w v) : Calls Try.prog 39 #[v] w fun e w' => (∃ p c, e = .returned (.slice p 0 c)) ∧ Below w.heap.size w w' := by
  rcases h with rfl | ⟨H, rfl, hv⟩
  · exact (take_none w).mono (by rintro e w' ⟨rfl, rfl⟩; exact ⟨⟨_, _, rfl⟩, Below.refl _ _⟩)
  · exact take_empty H w hv
end Go.Proofs.Ytlajceamjodcjaa
