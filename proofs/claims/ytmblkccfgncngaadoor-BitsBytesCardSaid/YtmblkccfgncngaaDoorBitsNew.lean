/- A new set. -/
import Derived.Test.YtmblkccfgncngaaDoorBitsState
import Derived.Laws.OwnMore
namespace Go.Proofs.YtmblkccfgncngaaDoor
open Go Go.RowKit

theorem infoW : (Tryd.prog.info? 67).map (fun i => (i.zero, i.size, i.bytes)) = some (some (.int .u64 0), 1, 8) := by kernel_rfl
theorem wcells_none (n : Nat) : wcells n (fun _ => false) = madeCells #[.int .u64 0] (wcount n) := by
  apply Array.toList_inj.1
  rw [toList_madeCells_one]
  unfold wcells
  have : ∀ j, Bit.word (fun _ => false) j = 0 := fun j => Bit.word_zero fun _ _ => rfl
  simp only [this]
  exact List.ext_getElem (by simp) fun i h1 h2 => by simp
theorem mkWords (n : Nat) (hn : n ≤ 65536) (x : Int) (hx : x = wcount n) (w : World) :
    (Instr.makeSlice 56 (.int .i64 x) (.int .i64 x)).run Tryd.prog w = .ok (.slice (some ⟨w.heap.size, 0, none⟩) (wcount n) (wcount n)) (w.alloc (.cells (wcells n (fun _ => false)) 67)) := by
  obtain ⟨i0, hi, hz0, hz1, hz2⟩ := info_parts infoW
  have hk : wcount n ≤ 1024 := by unfold wcount; omega
  subst hx
  have h := run_make (P := Tryd.prog) w 56 67 i0 (.int .u64 0) Tryd.underlying56 hi hz0 .i64 .i64 (wcount n : Nat) (wcount n : Nat) (by omega) (by omega) (by rw [hz2]; omega) (by omega)
  rw [hz1, Nat.mul_one] at h
  simp only [Int.toNat_natCast] at h
  rw [wcells_none]
  exact h

/-- a new set of none -/
def NewSet (w : World) (n : Nat) (e : Ending) (w' : World) : Prop :=
  ∃ a G, e = .returned (.pointer (some ⟨a, 0, none⟩)) ∧ w.heap.size ≤ a ∧ w.heap.size ≤ G ∧ St w' a G n (fun _ => false) ∧ Below w.heap.size w w'
theorem newSet_mk (w : World) (n : Nat) (hn : n ≤ 65536) (x : Int) (hx : x = n) (ty : TypeId) :
    NewSet w n (.returned (.pointer (some ⟨w.heap.size + 1, 0, none⟩))) ((w.alloc (.cells (wcells n (fun _ => false)) 67)).alloc (.cells #[.int .i64 x, .slice (some ⟨w.heap.size, 0, none⟩) (wcount n) (wcount n)] ty)) := by
  subst hx
  have h2 := heap_alloc_new (w.alloc (.cells (wcells n (fun _ => false)) 67)) (.cells #[.int .i64 n, .slice (some ⟨w.heap.size, 0, none⟩) (wcount n) (wcount n)] ty)
  have e : (w.alloc (.cells (wcells n (fun _ => false)) 67)).heap.size = w.heap.size + 1 := by simp
  rw [e] at h2
  refine ⟨_, w.heap.size, rfl, by omega, Nat.le_refl _, ⟨?_, ?_, ?_, hn, fun _ _ => rfl⟩, ((Below.refl _ _).alloc (Nat.le_refl _) _).alloc (by simp) _⟩
  · rw [cell_of_row _ _ 0 _ _ _ h2]; rfl
  · rw [cell_of_row _ _ 1 _ _ _ h2]; rfl
  · rw [Below.heap_alloc _ _ _ (by simp), heap_alloc_new]

set_option maxHeartbeats 1000000 in
theorem newSet (x : Int) (n : Nat) (w : World) (h1 : -9223372036854775808 ≤ x) (h2 : x ≤ 9223372036854775807) (hn : (n : Int) = min (max x 0) 65536) : Calls Tryd.prog 19 #[.int .i64 x] w (NewSet w n) := by
  have hn6 : n ≤ 65536 := by omega
  rcases (show x < 0 ∧ n = 0 ∨ (0 ≤ x ∧ x ≤ 65536) ∧ x = n ∨ 65536 < x ∧ n = 65536 by omega) with ⟨k1, rfl⟩ | ⟨⟨k1, k2⟩, rfl⟩ | ⟨k1, rfl⟩
  · have hmk := mkWords 0 (by omega) 0 rfl
    clear hn
    go_enter Tryd.func19, Tryd.ntmps19
    go_wp2
    go_ret
    exact newSet_mk w 0 (by omega) 0 rfl _
  · have hw : ((n : Int) + 64 - 1) / 64 = (wcount n : Nat) := by unfold wcount; omega
    have hmk := mkWords n hn6 (wcount n : Nat) rfl
    clear hn
    go_enter Tryd.func19, Tryd.ntmps19
    go_wp2
    go_ret
    exact newSet_mk w n (by omega) n rfl _
  · have hmk := mkWords 65536 (by omega) 1024 rfl
    clear hn
    go_enter Tryd.func19, Tryd.ntmps19
    go_wp2
    go_ret
    exact newSet_mk w 65536 (by omega) 65536 rfl _
end Go.Proofs.YtmblkccfgncngaaDoor
