/- sorted's Merge of no lists. -/
import Derived.Test.YtlajceamjodcjaaSrtNil
import Derived.Test.YtlajceamjodcjaaHpMerge
import Derived.Test.YtlajceamjodcjaaMemIntsOwn
namespace Go.Proofs.Ytlajceamjodcjaa
open Go Go.RowKit Hp
set_option linter.unusedVariables false

set_option maxHeartbeats 4000000
set_option maxRecDepth 100000
theorem merge_empty (L : FuncId) (caps : Array Value) (w : World) : Calls Try.prog 41 #[.func (.func L) #[] caps, .slice none 0 0] w fun e w' => (∃ p c, e = .returned (.slice p 0 c)) ∧ Below w.heap.size w w' := by
  have hne : ∀ w : World, (binOp .eql 49 (.func (.func L) #[] caps) .nilFunc).run Try.prog w = .ok (.bool false) w := fun w => by kernel_rfl
  have hmk : ∀ W : World, (Instr.makeSlice 24 (.int .i64 0) (.int .i64 0)).run Try.prog W = .ok (.slice (some ⟨W.heap.size, 0, none⟩) 0 0) (W.alloc (.cells #[] 3)) := fun W => by
    have hi : ∃ i, Try.prog.info? 3 = some i ∧ i.zero = some (.int .i64 0) ∧ i.bytes = 8 ∧ i.size = 1 := ⟨_, rfl, rfl, rfl, rfl⟩
    obtain ⟨i, h1, h2, h3, h4⟩ := hi
    have hr := run_make (P := Try.prog) W 24 3 i (.int .i64 0) Try.underlying24 h1 h2 .i64 .i64 0 0 (by omega) (Int.le_refl _) (by rw [h3]; omega) (by omega)
    have hm : madeCells #[Value.int .i64 0] 0 = #[] := by
      apply Array.toList_inj.1
      rw [toList_madeCells_one]
      rfl
    rw [h4, show Int.toNat 0 * 1 = 0 from rfl, show (Value.int IntKind.i64 0).cells = #[Value.int .i64 0] from rfl, hm] at hr
    exact hr
  have h3 := heap_alloc_new w (.cells #[.func (.func L) #[] caps] 49)
  have c0 := cell_alloc (.cells #[.slice none 0 0] 66) ((cell_of_row _ w.heap.size 0 _ _ _ h3).trans (show _ = some (.func (.func L) #[] caps) from rfl))
  have h4 := heap_alloc_new (w.alloc (.cells #[.func (.func L) #[] caps] 49)) (.cells #[.slice none 0 0] 66)
  rw [World.size_alloc] at h4
  have c1 := (cell_of_row _ (w.heap.size + 1) 0 _ _ _ h4).trans (show _ = some (.slice none 0 0) from rfl)
  have hb2 : Below w.heap.size w ((w.alloc (.cells #[.func (.func L) #[] caps] 49)).alloc (.cells #[.slice none 0 0] 66)) := ((Below.refl _ w).alloc (Nat.le_refl _) _).alloc (by simp) _
  have hz := Lib.hid (show ((w.alloc (.cells #[.func (.func L) #[] caps] 49)).alloc (.cells #[.slice none 0 0] 66)).heap.size = w.heap.size + 2 by simp)
  clear h3 h4
  go_enter Try.func41, Try.ntmps41
  go_wp2_with fail
  have b4 := (hb2.alloc (show w.heap.size ≤ _ by rw [hz.out]; omega) (.cells #[] 3)).alloc (by rw [World.size_alloc, hz.out]; omega) (.cells #[.slice (some ⟨w.heap.size + 1 + 1, 0, none⟩) 0 0] 24)
  have c4 := cell_alloc (.cells #[.slice (some ⟨w.heap.size + 1 + 1, 0, none⟩) 0 0] 24) (cell_alloc (.cells #[] 3) c1)
  generalize (((w.alloc (.cells #[.func (.func L) #[] caps] 49)).alloc (.cells #[.slice none 0 0] 66)).alloc (.cells #[] 3)).alloc (.cells #[.slice (some ⟨w.heap.size + 1 + 1, 0, none⟩) 0 0] 24) = w4 at b4 c4 ⊢
  clear c0 c1 hb2 hz
  refine (newHeap_is 60 #[.pointer (some ⟨w.heap.size + 1, 0, none⟩), .pointer (some ⟨w.heap.size + 1 + 1 + 1, 0, none⟩), .pointer (some ⟨w.heap.size, 0, none⟩)] w4).mono ?_
  rintro e w5 ⟨rfl, _, hh5, hb5, _⟩
  have hlt := World.block_lt_of_cell? w4 _ c4
  have c5 := (hb5.cell (p := ⟨w.heap.size + 1, 0, none⟩) hlt).trans c4
  have HH := Lib.hid hh5; have B5 := Lib.hid (thenBelow b4 hb5)
  clear b4 hb5 hh5 c4 hlt
  go_wp2_with fail
  go_loopw [7, 22] (fun a i wr => a = .int .i64 0 ∧ i = .int .i64 0 ∧ wr = w5) (fun _ _ _ => 0)
  case atStart => exact ⟨rfl, rfl, rfl⟩
  case round =>
    obtain ⟨rfl, rfl, rfl⟩ := hrel
    have hb6 : Below wr.heap.size wr (wr.alloc (.cells #[] 3)) := (Below.refl _ wr).alloc (Nat.le_refl _) _
    have HH6 := Lib.hid (heap_same HH.out (fun k cs t m hk _ => (hb6.block k (Array.getElem?_eq_some_iff.1 hk).1).trans hk))
    have B6 := Lib.hid (thenBelow B5.out hb6)
    clear hb6 HH B5
    go_wp2_with fail
    refine (pop_none _ _ _ _ _ _ HH6.out).mono ?_
    rintro e w7 ⟨rfl, rfl⟩
    go_wp2_with fail
    go_loopw [10, 12] (fun a i wq => (∃ p c, a = .slice p 0 c) ∧ i = .bool false ∧ wq = wr.alloc (.cells #[] 3)) (fun _ _ _ => 0)
    case atStart => exact ⟨⟨_, _, rfl⟩, rfl, rfl⟩
    case round =>
      obtain ⟨⟨p, c, rfl⟩, rfl, rfl⟩ := hrel
      go_wp2_with fail
      go_ret
      exact ⟨⟨_, _, rfl⟩, B6.out⟩
end Go.Proofs.Ytlajceamjodcjaa
