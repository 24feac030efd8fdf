/- The state of a device of pages; its small calls: Size, made, within, Dead, act, Fuse, fresh. -/
import Derived.Test.YtfgjcgonlpbdbaaMem
import Derived.Test.YtfgjcgonlpbdbaaOpen
import Derived.Test.YtfgjcgonlpbdbaaRegionFree
import Derived.Deep.MidRow
namespace Go.Proofs.Ytfgjcgonlpbdbaa
open Go Go.RowKit
set_option linter.unusedVariables false

def dObj (dead : Bool) (fuse : Int) (P n M : Nat) : Obj := .cells #[.bool dead, .int .i64 fuse, .slice (some ⟨P, 0, none⟩) n n, .map (some M)] 56 (0, 0)
/-- a device at D: its power, its pages at P (what each has: pg), its map at M -/
structure Dk (w : World) (D P M n : Nat) (pg : Nat → List UInt8) (dead : Bool) (fuse : Int) : Prop where
  obj : w.heap[D]? = some (dObj dead fuse P n M)
  pos : 0 < n ∧ n ≤ 4096
  fz : -9223372036854775808 ≤ fuse ∧ fuse ≤ 9223372036854775807
  len : ∀ i, i < n → (pg i).length = 128
  has : ∀ i, i < n → w.rangeAt P (128 * i) (bys (pg i))
  may : w.there P 0 (128 * n)
  ne : D ≠ P ∧ D ≠ M ∧ P ≠ M
theorem d_cells {w : World} {D P n M : Nat} {dead : Bool} {fuse : Int} (h : w.heap[D]? = some (dObj dead fuse P n M)) :
    w.cell? ⟨D, 0, none⟩ = some (.bool dead) ∧ w.cell? ⟨D, 1, none⟩ = some (.int .i64 fuse) ∧ w.cell? ⟨D, 2, none⟩ = some (.slice (some ⟨P, 0, none⟩) n n) ∧ w.cell? ⟨D, 3, none⟩ = some (.map (some M)) := by
  unfold dObj at h
  exact ⟨by rw [cell_of_row w D 0 _ _ _ h]; rfl, by rw [cell_of_row w D 1 _ _ _ h]; rfl, by rw [cell_of_row w D 2 _ _ _ h]; rfl, by rw [cell_of_row w D 3 _ _ _ h]; rfl⟩
theorem d_frozen {w : World} {D P n M : Nat} {dead : Bool} {fuse : Int} (h : w.heap[D]? = some (dObj dead fuse P n M)) (i : Nat) : w.frozen? ⟨D, i, none⟩ = false := by
  unfold dObj at h; exact frozen_of_row w D i _ _ h
theorem Dk.lt {w : World} {D P M n : Nat} {pg : Nat → List UInt8} {dead : Bool} {fuse : Int} (h : Dk w D P M n pg dead fuse) : D < w.heap.size := (Array.getElem?_eq_some_iff.1 h.obj).1
theorem Dk.plt {w : World} {D P M n : Nat} {pg : Nat → List UInt8} {dead : Bool} {fuse : Int} (h : Dk w D P M n pg dead fuse) : P < w.heap.size := by
  obtain ⟨v, hv⟩ := Option.isSome_iff_exists.1 (h.may 0 (by have := h.pos; omega)).1
  exact World.block_lt_of_cell? w _ hv
theorem Dk.below {w w' : World} {D P M n : Nat} {pg : Nat → List UInt8} {dead : Bool} {fuse : Int} (h : Dk w D P M n pg dead fuse) (hb : Below w.heap.size w w') : Dk w' D P M n pg dead fuse :=
  ⟨(hb.block D h.lt).trans h.obj, h.pos, h.fz, h.len, fun i hi j v hj => (hb.cell (p := ⟨P, 128 * i + j, none⟩) h.plt).trans (h.has i hi j v hj),
    fun j hj => ⟨by rw [hb.cell (p := ⟨P, 0 + j, none⟩) h.plt]; exact (h.may j hj).1, by
      have := (h.may j hj).2
      unfold World.frozen? at this ⊢
      rw [show w'.heap[(⟨P, 0 + j, none⟩ : Addr).block]? = w.heap[(⟨P, 0 + j, none⟩ : Addr).block]? from hb.block P h.plt]
      exact this⟩, h.ne⟩
/-- a device that no call made: nil, or one of no pages -/
def NoDisk (w : World) (p : Option Addr) : Prop := p = none ∨ ∃ a, p = some ⟨a, 0, none⟩ ∧ w.heap[a]? = some (.cells #[.bool false, .int .i64 0, .slice none 0 0, .map none] 56 (0, 0))
theorem NoDisk.below {w w' : World} {p : Option Addr} (h : NoDisk w p) (hb : Below w.heap.size w w') : NoDisk w' p := by
  rcases h with rfl | ⟨a, rfl, h⟩
  · exact .inl rfl
  · exact .inr ⟨a, rfl, (hb.block a (Array.getElem?_eq_some_iff.1 h).1).trans h⟩
/-- a device whose size is n -/
def SizedD (w : World) (p : Option Addr) (n : Nat) : Prop := (p = none ∧ n = 0) ∨ ∃ a q c, p = some ⟨a, 0, none⟩ ∧ w.cell? ⟨a, 2, none⟩ = some (.slice q n c)
theorem NoDisk.sized {w : World} {p : Option Addr} (h : NoDisk w p) : SizedD w p 0 := by
  rcases h with rfl | ⟨a, rfl, h⟩
  · exact .inl ⟨rfl, rfl⟩
  · exact .inr ⟨a, none, 0, rfl, by rw [cell_of_row w a 2 _ _ _ h]; rfl⟩
theorem Dk.sized {w : World} {D P M n : Nat} {pg : Nat → List UInt8} {dead : Bool} {fuse : Int} (h : Dk w D P M n pg dead fuse) : SizedD w (some ⟨D, 0, none⟩) n := .inr ⟨D, _, _, rfl, (d_cells h.obj).2.2.1⟩
theorem sizeD_is (p : Option Addr) (n : Nat) (w : World) (h : SizedD w p n) : Calls Try.prog 21 #[.pointer p] w fun e w' => e = .returned (.int .i64 n) ∧ w = w' := by
  rcases h with ⟨rfl, rfl⟩ | ⟨a, q, c, rfl, h⟩
  · go_enter Try.func21, Try.ntmps21
    go_wp2
    go_ret
    exact ⟨rfl, rfl⟩
  · go_enter Try.func21, Try.ntmps21
    go_wp2
    go_ret
    exact ⟨rfl, rfl⟩
theorem made_none (p : Option Addr) (w : World) (h : SizedD w p 0) : Calls Try.prog 28 #[.pointer p] w fun e w' => e = .returned (.bool false) ∧ w = w' := by
  have S := Lib.hid (sizeD_is p 0 w h)
  clear h
  go_enter Try.func28, Try.ntmps28
  go_wp2_with fail
  refine S.out.mono ?_
  rintro e w' ⟨rfl, rfl⟩
  go_wp2
  go_ret
  exact ⟨ret_bool (by first | rfl | (simp; done)), rfl⟩
theorem made_is (p : Option Addr) (n : Nat) (w : World) (h : SizedD w p n) (hn : 0 < n) : Calls Try.prog 28 #[.pointer p] w fun e w' => e = .returned (.bool true) ∧ w = w' := by
  have S := Lib.hid (sizeD_is p n w h)
  clear h
  have hn' : (n : Int) > 0 := by omega
  go_enter Try.func28, Try.ntmps28
  go_wp2_with fail
  refine S.out.mono ?_
  rintro e w' ⟨rfl, rfl⟩
  go_wp2
  go_ret
  exact ⟨ret_bool (by first | rfl | (simp; done) | (simp; omega)), rfl⟩
theorem within_is (p : Option Addr) (n : Nat) (i : Int) (w : World) (h : SizedD w p n) (b : Bool) (hb : b = decide (0 ≤ i ∧ i < n)) : Calls Try.prog 31 #[.pointer p, .int .i64 i] w fun e w' => e = .returned (.bool b) ∧ w = w' := by
  have S := Lib.hid (sizeD_is p n w h)
  have key : (i < 0 ∧ b = false) ∨ (0 ≤ i ∧ (i < n ∧ b = true ∨ ¬ i < n ∧ b = false)) := by
    subst hb
    simp only [decide_eq_true_eq, decide_eq_false_iff_not]; omega
  clear h hb
  rcases key with ⟨h1, rfl⟩ | ⟨h1, ⟨h2, rfl⟩ | ⟨h2, rfl⟩⟩
  · go_enter Try.func31, Try.ntmps31
    go_wp2_with fail
    go_ret
    exact ⟨ret_bool (by first | rfl | simp), rfl⟩
  all_goals
    go_enter Try.func31, Try.ntmps31
    go_wp2_with fail
    refine S.out.mono ?_
    rintro e w' ⟨rfl, rfl⟩
    go_wp2
    go_ret
    exact ⟨ret_bool (by first | rfl | (simp; done) | (simp; omega)), rfl⟩
/-! what a device that no call made tells -/
theorem nobody_read (p : Option Addr) (i : Int) (w : World) (h : NoDisk w p) : Calls Try.prog 12 #[.pointer p, .int .i64 i] w fun e w' => e = .returned (.tuple #[.slice none 0 0, .int .i64 2]) ∧ w = w' := by
  have S := Lib.hid (made_none p w h.sized)
  clear h
  go_enter Try.func12, Try.ntmps12
  go_wp2_with fail
  refine S.out.mono ?_
  rintro e w' ⟨rfl, rfl⟩
  go_wp2
  go_ret2
  exact ⟨rfl, rfl⟩
theorem nobody_write (p : Option Addr) (i : Int) (b : Value) (w : World) (h : NoDisk w p) : Calls Try.prog 14 #[.pointer p, .int .i64 i, b] w fun e w' => e = .returned (.int .i64 2) ∧ w = w' := by
  have S := Lib.hid (made_none p w h.sized)
  clear h
  go_enter Try.func14, Try.ntmps14
  go_wp2_with fail
  refine S.out.mono ?_
  rintro e w' ⟨rfl, rfl⟩
  go_wp2
  go_ret
  exact ⟨rfl, rfl⟩
theorem nobody_sync (p : Option Addr) (w : World) (h : NoDisk w p) : Calls Try.prog 17 #[.pointer p] w fun e w' => e = .returned (.int .i64 2) ∧ w = w' := by
  have S := Lib.hid (made_none p w h.sized)
  clear h
  go_enter Try.func17, Try.ntmps17
  go_wp2_with fail
  refine S.out.mono ?_
  rintro e w' ⟨rfl, rfl⟩
  go_wp2
  go_ret
  exact ⟨rfl, rfl⟩
theorem nobody_loose (p : Option Addr) (w : World) (h : NoDisk w p) : Calls Try.prog 22 #[.pointer p] w fun e w' => e = .returned (.slice none 0 0) ∧ w = w' := by
  have S := Lib.hid (made_none p w h.sized)
  clear h
  go_enter Try.func22, Try.ntmps22
  go_wp2_with fail
  refine S.out.mono ?_
  rintro e w' ⟨rfl, rfl⟩
  go_wp2
  go_ret
  exact ⟨rfl, rfl⟩
theorem nobody_crash (p : Option Addr) (keep torn cut : Value) (w : World) (h : NoDisk w p) : Calls Try.prog 15 #[.pointer p, keep, torn, cut] w fun e w' => e = .returned (.int .i64 2) ∧ w = w' := by
  have S := Lib.hid (made_none p w h.sized)
  clear h
  go_enter Try.func15, Try.ntmps15
  go_wp2_with fail
  refine S.out.mono ?_
  rintro e w' ⟨rfl, rfl⟩
  go_wp2
  go_ret
  exact ⟨rfl, rfl⟩
theorem nobody_fuse (p : Option Addr) (n : Value) (w : World) (h : NoDisk w p) : Calls Try.prog 19 #[.pointer p, n] w fun e w' => e = .returned (.int .i64 2) ∧ w = w' := by
  have S := Lib.hid (made_none p w h.sized)
  clear h
  go_enter Try.func19, Try.ntmps19
  go_wp2_with fail
  refine S.out.mono ?_
  rintro e w' ⟨rfl, rfl⟩
  go_wp2
  go_ret
  exact ⟨rfl, rfl⟩
theorem nobody_dead (p : Option Addr) (w : World) (h : NoDisk w p) : Calls Try.prog 20 #[.pointer p] w fun e w' => e = .returned (.bool false) ∧ w = w' := by
  have S := Lib.hid (made_none p w h.sized)
  clear h
  go_enter Try.func20, Try.ntmps20
  go_wp2_with fail
  refine S.out.mono ?_
  rintro e w' ⟨rfl, rfl⟩
  go_wp2
  go_ret
  exact ⟨rfl, rfl⟩
theorem nobody_clone (p : Option Addr) (w : World) (h : NoDisk w p) : Calls Try.prog 11 #[.pointer p] w fun e w' => e = .returned (.pointer none) ∧ w = w' := by
  have S := Lib.hid (made_none p w h.sized)
  clear h
  go_enter Try.func11, Try.ntmps11
  go_wp2_with fail
  refine S.out.mono ?_
  rintro e w' ⟨rfl, rfl⟩
  go_wp2
  go_ret
  exact ⟨rfl, rfl⟩
/-! one act -/
theorem act_dead (D P M n : Nat) (pg : Nat → List UInt8) (fuse : Int) (w : World) (h : Dk w D P M n pg true fuse) (hf : fuse ≠ 0) :
    Calls Try.prog 33 #[.pointer (some ⟨D, 0, none⟩)] w fun e w' => e = .returned (.int .i64 9) ∧ w = w' := by
  obtain ⟨c0, c1, _, _⟩ := d_cells h.obj
  clear h
  go_enter Try.func33, Try.ntmps33
  go_wp2
  go_ret
  exact ⟨rfl, rfl⟩
theorem act_free (D P M n : Nat) (pg : Nat → List UInt8) (fuse : Int) (w : World) (h : Dk w D P M n pg false fuse) (hf : fuse < 0) :
    Calls Try.prog 33 #[.pointer (some ⟨D, 0, none⟩)] w fun e w' => e = .returned (.int .i64 0) ∧ w = w' := by
  obtain ⟨c0, c1, _, _⟩ := d_cells h.obj
  have h1 : ¬ fuse = 0 := by omega
  have h2 : ¬ fuse > 0 := by omega
  clear h
  go_enter Try.func33, Try.ntmps33
  go_wp2
  go_ret
  exact ⟨rfl, rfl⟩
end Go.Proofs.Ytfgjcgonlpbdbaa
