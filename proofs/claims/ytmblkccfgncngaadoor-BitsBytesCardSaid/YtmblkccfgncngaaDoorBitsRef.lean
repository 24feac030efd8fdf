/- The document's own set: its state, New, Set, Has. -/
import Derived.Test.YtmblkccfgncngaaDoorBitsList
namespace Go.Proofs.YtmblkccfgncngaaDoor
open Go Go.RowKit

def bcells (n : Nat) (f : Nat → Bool) : Array Value := ((List.range n).map fun j => Value.bool (f j)).toArray
theorem bcells_size (n : Nat) (f : Nat → Bool) : (bcells n f).size = n := by simp [bcells]
theorem bcells_get (n : Nat) (f : Nat → Bool) (j : Nat) (h : j < n) : (bcells n f)[j]? = some (.bool (f j)) := by simp [bcells, h]
/-- the document's set at a: what is in at G -/
structure RSt (w : World) (a G n : Nat) (f : Nat → Bool) : Prop where
  c0 : w.cell? ⟨a, 0, none⟩ = some (.slice (some ⟨G, 0, none⟩) n n)
  ins : w.heap[G]? = some (.cells (bcells n f) 4 (0, 0))
  le : n ≤ 65536
theorem RSt.lt {w : World} {a G n : Nat} {f : Nat → Bool} (h : RSt w a G n f) : G < w.heap.size := (Array.getElem?_eq_some_iff.1 h.ins).1
theorem RSt.alt {w : World} {a G n : Nat} {f : Nat → Bool} (h : RSt w a G n f) : a < w.heap.size := World.block_lt_of_cell? w _ h.c0
theorem RSt.cell {w : World} {a G n : Nat} {f : Nat → Bool} (h : RSt w a G n f) (j : Nat) (hj : j < n) : w.cell? ⟨G, j, none⟩ = some (.bool (f j)) := by
  rw [cell_of_row w G j _ _ _ h.ins, bcells_get n f j hj]
theorem RSt.free {w : World} {a G n : Nat} {f : Nat → Bool} (h : RSt w a G n f) (j : Nat) : w.frozen? ⟨G, j, none⟩ = false := by simp [World.frozen?, h.ins]
theorem RSt.below {w w' : World} {a G n : Nat} {f : Nat → Bool} (h : RSt w a G n f) (hb : Below w.heap.size w w') : RSt w' a G n f :=
  ⟨(hb.cell (p := ⟨a, 0, none⟩) h.alt).trans h.c0, (hb.block G h.lt).trans h.ins, h.le⟩
theorem RSt.ne {w : World} {a G n : Nat} {f : Nat → Bool} (h : RSt w a G n f) : a ≠ G := by
  rintro rfl
  have h1 := h.c0
  rw [cell_of_row w a 0 _ _ _ h.ins] at h1
  by_cases e : 0 < n
  · rw [bcells_get n f 0 e] at h1; cases h1
  · rw [Array.getElem?_eq_none (by rw [bcells_size]; omega)] at h1; cases h1
theorem RSt.kept {w w' : World} {a G n : Nat} {f : Nat → Bool} (h : RSt w a G n f) {row : Option Nat} (hg : w.grownBy w' row) (ha : some a ≠ row) (hG : some G ≠ row) : RSt w' a G n f :=
  ⟨hg.cell h.c0 ha, (hg.block G h.lt hG).trans h.ins, h.le⟩
theorem RSt.turn {w : World} {a G n : Nat} {f : Nat → Bool} (h : RSt w a G n f) (k : Nat) (b : Bool) (hk : k < n) : RSt (w.setCell ⟨G, k, none⟩ (.bool b)) a G n (Bit.turn f k b) := by
  have hg := grown_setCell w G k (.bool b)
  refine ⟨hg.cell h.c0 (fun e => h.ne (Option.some.inj e)), ?_, h.le⟩
  rw [heap_setCell_row h.ins]
  congr 2
  apply Array.ext_getElem?
  intro j
  rw [Array.getElem?_setIfInBounds]
  by_cases hj : k = j
  · subst hj
    rw [if_pos rfl, if_pos (by rw [bcells_size]; exact hk), bcells_get n _ k hk]
    simp [Bit.turn]
  · rw [if_neg hj]
    by_cases hw : j < n
    · rw [bcells_get n f j hw, bcells_get n _ j hw]
      simp [Bit.turn, show ¬ j = k by omega]
    · rw [Array.getElem?_eq_none (by rw [bcells_size]; omega), Array.getElem?_eq_none (by rw [bcells_size]; omega)]

theorem infoL : (Tryd.prog.info? 4).map (fun i => (i.zero, i.size, i.bytes)) = some (some (.bool false), 1, 1) := by kernel_rfl
theorem bcells_none (n : Nat) : bcells n (fun _ => false) = madeCells #[.bool false] n := by
  apply Array.toList_inj.1
  rw [toList_madeCells_one]
  unfold bcells
  exact List.ext_getElem (by simp) fun i h1 h2 => by simp
theorem mkBools (n : Nat) (hn : n ≤ 65536) (x : Int) (hx : x = n) (w : World) :
    (Instr.makeSlice 64 (.int .i64 x) (.int .i64 x)).run Tryd.prog w = .ok (.slice (some ⟨w.heap.size, 0, none⟩) n n) (w.alloc (.cells (bcells n (fun _ => false)) 4)) := by
  obtain ⟨i0, hi, hz0, hz1, hz2⟩ := info_parts infoL
  subst hx
  have h := run_make (P := Tryd.prog) w 64 4 i0 (.bool false) Tryd.underlying64 hi hz0 .i64 .i64 (n : Nat) (n : Nat) (by omega) (by omega) (by rw [hz2]; omega) (by omega)
  rw [hz1, Nat.mul_one] at h
  simp only [Int.toNat_natCast] at h
  rw [bcells_none]
  exact h
/-- a new set of the document's -/
def NewR (w : World) (n : Nat) (e : Ending) (w' : World) : Prop :=
  ∃ a G, e = .returned (.pointer (some ⟨a, 0, none⟩)) ∧ w.heap.size ≤ a ∧ w.heap.size ≤ G ∧ RSt w' a G n (fun _ => false) ∧ Below w.heap.size w w'
theorem newR_mk (w : World) (n : Nat) (hn : n ≤ 65536) (ty : TypeId) :
    NewR w n (.returned (.pointer (some ⟨w.heap.size + 1, 0, none⟩))) ((w.alloc (.cells (bcells n (fun _ => false)) 4)).alloc (.cells #[.slice (some ⟨w.heap.size, 0, none⟩) n n] ty)) := by
  have h2 := heap_alloc_new (w.alloc (.cells (bcells n (fun _ => false)) 4)) (.cells #[.slice (some ⟨w.heap.size, 0, none⟩) n n] ty)
  have e : (w.alloc (.cells (bcells n (fun _ => false)) 4)).heap.size = w.heap.size + 1 := by simp
  rw [e] at h2
  refine ⟨_, w.heap.size, rfl, by omega, Nat.le_refl _, ⟨?_, ?_, hn⟩, ((Below.refl _ _).alloc (Nat.le_refl _) _).alloc (by simp) _⟩
  · rw [cell_of_row _ _ 0 _ _ _ h2]; rfl
  · rw [Below.heap_alloc _ _ _ (by simp), heap_alloc_new]
set_option maxHeartbeats 1000000 in
theorem newR (x : Int) (n : Nat) (w : World) (h1 : -9223372036854775808 ≤ x) (h2 : x ≤ 9223372036854775807) (hn : (n : Int) = min (max x 0) 65536) : Calls Tryd.prog 41 #[.int .i64 x] w (NewR w n) := by
  have hn6 : n ≤ 65536 := by omega
  rcases (show x < 0 ∧ n = 0 ∨ (0 ≤ x ∧ x ≤ 65536) ∧ x = n ∨ 65536 < x ∧ n = 65536 by omega) with ⟨k1, rfl⟩ | ⟨⟨k1, k2⟩, rfl⟩ | ⟨k1, rfl⟩
  · have hmk := mkBools 0 (by omega) 0 rfl
    clear hn
    go_enter Tryd.func41, Tryd.ntmps41
    go_wp2
    go_ret
    exact newR_mk w 0 (by omega) _
  · have hmk := mkBools n hn6 n rfl
    clear hn
    go_enter Tryd.func41, Tryd.ntmps41
    go_wp2
    go_ret
    exact newR_mk w n hn6 _
  · have hmk := mkBools 65536 (by omega) 65536 rfl
    clear hn
    go_enter Tryd.func41, Tryd.ntmps41
    go_wp2
    go_ret
    exact newR_mk w 65536 (by omega) _

/-- the document's set in which one number has turned -/
def TurnedR (w : World) (a G n : Nat) (f : Nat → Bool) (e : Ending) (w' : World) : Prop := e = .returned (.bool true) ∧ RSt w' a G n f ∧ w.grownBy w' (some G)
theorem refSet_in (a G n : Nat) (f : Nat → Bool) (k : Nat) (b : Bool) (w : World) (h : RSt w a G n f) (hk : k < n) :
    Calls Tryd.prog 42 #[.pointer (some ⟨a, 0, none⟩), .int .i64 k, .bool b] w (TurnedR w a G n (Bit.turn f k b)) := by
  have T : Hid (TurnedR w a G n (Bit.turn f k b) (.returned (.bool true)) (w.setCell ⟨G, k, none⟩ (.bool b))) := ⟨rfl, h.turn k b hk, grown_setCell _ _ _ _⟩
  have hc0 := h.c0
  have hcell := h.cell k hk
  have hfr := h.free k
  have hle := h.le
  have hk' : (k : Int) < n := by omega
  have hk0 : ¬ (k : Int) < 0 := by omega
  clear h
  go_enter Tryd.func42, Tryd.ntmps42
  go_wp2
  go_ret
  exact T.out
theorem refSet_out (a G n : Nat) (f : Nat → Bool) (i : Int) (b : Bool) (w : World) (h : RSt w a G n f) (hi : ¬ (0 ≤ i ∧ i < n)) :
    Calls Tryd.prog 42 #[.pointer (some ⟨a, 0, none⟩), .int .i64 i, .bool b] w fun e w' => e = .returned (.bool false) ∧ w = w' := by
  have hc0 := h.c0
  have hle := h.le
  clear h
  by_cases h0 : i < 0
  · go_enter Tryd.func42, Tryd.ntmps42
    go_wp2
    go_ret
    exact ⟨rfl, rfl⟩
  · have h1 : (n : Int) ≤ i := by omega
    clear hi
    go_enter Tryd.func42, Tryd.ntmps42
    go_wp2
    go_ret
    exact ⟨rfl, rfl⟩
end Go.Proofs.YtmblkccfgncngaaDoor
