/- The state of a set of small numbers. -/
import Derived.Test.YtmblkccfgncngaaDoorBitsTrail
import Derived.Test.YtmblkccfgncngaaDoorMemOne
import Derived.Deep.QuietTactic
import Derived.BigQuiet
namespace Go.Proofs.YtmblkccfgncngaaDoor
open Go Go.RowKit

/-- how many words a size wants -/
def wcount (n : Nat) : Nat := (n + 63) / 64
/-- the words of f as they lie -/
def wcells (n : Nat) (f : Nat → Bool) : Array Value := ((List.range (wcount n)).map fun j => Value.int .u64 ((Bit.word f j : Nat) : Int)).toArray
theorem wcells_size (n : Nat) (f : Nat → Bool) : (wcells n f).size = wcount n := by simp [wcells]
theorem wcells_get (n : Nat) (f : Nat → Bool) (j : Nat) (h : j < wcount n) : (wcells n f)[j]? = some (.int .u64 ((Bit.word f j : Nat) : Int)) := by simp [wcells, h]
/-- a set at a: its words at G -/
structure St (w : World) (a G n : Nat) (f : Nat → Bool) : Prop where
  c0 : w.cell? ⟨a, 0, none⟩ = some (.int .i64 n)
  c1 : w.cell? ⟨a, 1, none⟩ = some (.slice (some ⟨G, 0, none⟩) (wcount n) (wcount n))
  words : w.heap[G]? = some (.cells (wcells n f) 67 (0, 0))
  le : n ≤ 65536
  past : ∀ i, n ≤ i → f i = false
theorem St.lt {w : World} {a G n : Nat} {f : Nat → Bool} (h : St w a G n f) : G < w.heap.size := (Array.getElem?_eq_some_iff.1 h.words).1
theorem St.alt {w : World} {a G n : Nat} {f : Nat → Bool} (h : St w a G n f) : a < w.heap.size := World.block_lt_of_cell? w _ h.c0
theorem St.cell {w : World} {a G n : Nat} {f : Nat → Bool} (h : St w a G n f) (j : Nat) (hj : j < wcount n) : w.cell? ⟨G, j, none⟩ = some (.int .u64 ((Bit.word f j : Nat) : Int)) := by
  rw [cell_of_row w G j _ _ _ h.words, wcells_get n f j hj]
theorem St.free {w : World} {a G n : Nat} {f : Nat → Bool} (h : St w a G n f) (j : Nat) : w.frozen? ⟨G, j, none⟩ = false := by simp [World.frozen?, h.words]
theorem St.below {w w' : World} {a G n : Nat} {f : Nat → Bool} (h : St w a G n f) (hb : Below w.heap.size w w') : St w' a G n f :=
  ⟨(hb.cell (p := ⟨a, 0, none⟩) h.alt).trans h.c0, (hb.cell (p := ⟨a, 1, none⟩) (World.block_lt_of_cell? w _ h.c1)).trans h.c1, (hb.block G h.lt).trans h.words, h.le, h.past⟩
theorem St.ne {w : World} {a G n : Nat} {f : Nat → Bool} (h : St w a G n f) : a ≠ G := by
  rintro rfl
  have h1 := h.c1
  rw [cell_of_row w a 1 _ _ _ h.words] at h1
  by_cases e : 1 < wcount n
  · rw [wcells_get n f 1 e] at h1; cases h1
  · rw [Array.getElem?_eq_none (by rw [wcells_size]; omega)] at h1; cases h1
/-- a set that another row's turning leaves -/
theorem St.kept {w w' : World} {a G n : Nat} {f : Nat → Bool} (h : St w a G n f) {row : Option Nat} (hg : w.grownBy w' row) (ha : some a ≠ row) (hG : some G ≠ row) : St w' a G n f :=
  ⟨hg.cell h.c0 ha, hg.cell h.c1 ha, (hg.block G h.lt hG).trans h.words, h.le, h.past⟩
theorem heap_setCell_row {w : World} {G j : Nat} {cs : Array Value} {ty : TypeId} {m : Nat × Nat} (h : w.heap[G]? = some (.cells cs ty m)) (v : Value) : (w.setCell ⟨G, j, none⟩ v).heap[G]? = some (.cells (cs.setIfInBounds j v) ty m) := by
  have hlt := lt_of_block h
  have h' : w.heap[G] = .cells cs ty m := by simpa [Array.getElem?_eq_getElem hlt] using h
  show (w.heap.modify G _)[G]? = _
  rw [Array.getElem?_eq_getElem (by simpa using hlt), Array.getElem_modify_self, h']
  rfl
theorem grown_setCell (w : World) (G j : Nat) (v : Value) : w.grownBy (w.setCell ⟨G, j, none⟩ v) (some G) :=
  ⟨rfl, rfl, rfl, by simp [World.setCell], fun i hi hne => Below.heap_setCell w ⟨G, j, none⟩ v i (fun e => hne (by rw [e]))⟩
/-- one number put in, or taken out -/
theorem St.turn {w : World} {a G n : Nat} {f : Nat → Bool} (h : St w a G n f) (k : Nat) (b : Bool) (hk : k < n) : St (w.setCell ⟨G, k / 64, none⟩ (.int .u64 ((Bit.word (Bit.turn f k b) (k / 64) : Nat) : Int))) a G n (Bit.turn f k b) := by
  have hg := grown_setCell w G (k / 64) (.int .u64 ((Bit.word (Bit.turn f k b) (k / 64) : Nat) : Int))
  have hne : some a ≠ some G := fun e => h.ne (Option.some.inj e)
  refine ⟨hg.cell h.c0 hne, hg.cell h.c1 hne, ?_, h.le, fun i hi => ?_⟩
  · rw [heap_setCell_row h.words]
    congr 2
    apply Array.ext_getElem?
    intro j
    rw [Array.getElem?_setIfInBounds]
    by_cases hj : k / 64 = j
    · subst hj
      have : k / 64 < wcount n := by unfold wcount; omega
      rw [if_pos rfl, if_pos (by rw [wcells_size]; exact this), wcells_get n _ _ this]
    · rw [if_neg hj]
      by_cases hw : j < wcount n
      · rw [wcells_get n f j hw, wcells_get n _ j hw, Bit.turn_other hj]
      · rw [Array.getElem?_eq_none (by rw [wcells_size]; omega), Array.getElem?_eq_none (by rw [wcells_size]; omega)]
  · unfold Bit.turn
    rw [if_neg (by omega)]; exact h.past i hi

theorem size_nil (w : World) : Calls Tryd.prog 20 #[.pointer none] w fun e w' => e = .returned (.int .i64 0) ∧ w = w' := by
  go_enter Tryd.func20, Tryd.ntmps20
  go_wp2
  go_ret
  exact ⟨rfl, rfl⟩
theorem size_at (a : Nat) (n : Int) (w : World) (h : w.cell? ⟨a, 0, none⟩ = some (.int .i64 n)) : Calls Tryd.prog 20 #[.pointer (some ⟨a, 0, none⟩)] w fun e w' => e = .returned (.int .i64 n) ∧ w = w' := by
  go_enter Tryd.func20, Tryd.ntmps20
  go_wp2
  go_ret
  exact ⟨rfl, rfl⟩
/-- a set whose size is n, whatever it is -/
def Sized (p : Option Addr) (n : Nat) (w : World) : Prop := (p = none ∧ n = 0) ∨ ∃ a, p = some ⟨a, 0, none⟩ ∧ w.cell? ⟨a, 0, none⟩ = some (.int .i64 n)
theorem Sized.calls {p : Option Addr} {n : Nat} {w : World} (h : Sized p n w) : Calls Tryd.prog 20 #[.pointer p] w fun e w' => e = .returned (.int .i64 n) ∧ w = w' := by
  rcases h with ⟨rfl, rfl⟩ | ⟨a, rfl, h⟩
  · exact size_nil w
  · exact size_at a n w h
theorem St.sized {w : World} {a G n : Nat} {f : Nat → Bool} (h : St w a G n f) : Sized (some ⟨a, 0, none⟩) n w := .inr ⟨a, rfl, h.c0⟩
theorem within_is (p : Option Addr) (n : Nat) (i : Int) (w : World) (h : Sized p n w) (b : Bool) (hb : b = decide (0 ≤ i ∧ i < n)) : Calls Tryd.prog 44 #[.pointer p, .int .i64 i] w fun e w' => e = .returned (.bool b) ∧ w = w' := by
  have S := Lib.hid h.calls
  have key : (i < 0 ∧ b = false) ∨ (0 ≤ i ∧ (i < n ∧ b = true ∨ ¬ i < n ∧ b = false)) := by
    subst hb
    simp only [decide_eq_true_eq, decide_eq_false_iff_not]; omega
  clear h hb
  rcases key with ⟨h1, rfl⟩ | ⟨h1, ⟨h2, rfl⟩ | ⟨h2, rfl⟩⟩
  · go_enter Tryd.func44, Tryd.ntmps44
    go_wp2_with fail
    go_ret
    exact ⟨ret_bool (by first | rfl | simp), rfl⟩
  all_goals
    go_enter Tryd.func44, Tryd.ntmps44
    go_wp2_with fail
    refine S.out.mono ?_
    rintro e w' ⟨rfl, rfl⟩
    go_wp2
    go_ret
    exact ⟨ret_bool (by first | rfl | (simp; done) | (simp; omega)), rfl⟩
end Go.Proofs.YtmblkccfgncngaaDoor
