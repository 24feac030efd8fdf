/- The contracts of utf's Sign, led, shaped. -/
import Derived.Test.YtnmigbbokmibnaaDoorStd
import Derived.Outline
namespace Go.Proofs.YtnmigbbokmibnaaDoor
open Go Go.RowKit

namespace Utf
def sg (r : Int) : Bool := decide ((0 ≤ r ∧ r < 55296) ∨ (57343 < r ∧ r ≤ 1114111))
def led (f : Nat) : Nat := if f < 192 then 0 else if f < 224 then 1 else if f < 240 then 2 else 3
def lead (k : Nat) : Nat := if k = 0 then 0 else if k = 1 then 192 else if k = 2 then 224 else 240
def sh (r : Int) : Nat := if r ≤ 127 then 0 else if r ≤ 2047 then 1 else if r ≤ 65535 then 2 else 3
theorem led_le (f : Nat) : led f ≤ 3 := by unfold led; (repeat' split) <;> omega
theorem led_lead (f : Nat) (hf : f < 256) : lead (led f) ≤ f ∧ f - lead (led f) ≤ 191 := by unfold lead led; (repeat' split) <;> omega
theorem sh_le (r : Int) : sh r ≤ 3 := by unfold sh; (repeat' split) <;> omega
theorem led_iff (f : Nat) : (led f ≤ 0 ↔ f < 192) ∧ (led f ≤ 1 ↔ f < 224) ∧ (led f ≤ 2 ↔ f < 240) := by unfold led; (repeat' split) <;> omega
theorem sh_iff (r : Int) : (1 ≤ sh r ↔ 127 < r) ∧ (2 ≤ sh r ↔ 2047 < r) ∧ (3 ≤ sh r ↔ 65535 < r) := by unfold sh; (repeat' split) <;> omega
end Utf

/-- the table of shapes -/
structure Shapes (w : World) : Prop where
  c0 : w.cell? ⟨0, 0, none⟩ = some (.int .i64 127)
  c1 : w.cell? ⟨0, 1, none⟩ = some (.int .i64 0)
  c2 : w.cell? ⟨0, 2, none⟩ = some (.int .i64 0)
  c3 : w.cell? ⟨0, 3, none⟩ = some (.int .i64 2047)
  c4 : w.cell? ⟨0, 4, none⟩ = some (.int .i64 192)
  c5 : w.cell? ⟨0, 5, none⟩ = some (.int .i64 1)
  c6 : w.cell? ⟨0, 6, none⟩ = some (.int .i64 65535)
  c7 : w.cell? ⟨0, 7, none⟩ = some (.int .i64 224)
  c8 : w.cell? ⟨0, 8, none⟩ = some (.int .i64 2)
  c9 : w.cell? ⟨0, 9, none⟩ = some (.int .i64 1114111)
  c10 : w.cell? ⟨0, 10, none⟩ = some (.int .i64 240)
  c11 : w.cell? ⟨0, 11, none⟩ = some (.int .i64 3)
theorem Shapes.below {w w' : World} (h : Shapes w) (hb : Below w.heap.size w w') : Shapes w' := by
  have k : ∀ (a : Addr) v, w.cell? a = some v → w'.cell? a = some v := fun a v q => by
    rw [hb.cell (p := a) (World.block_lt_of_cell? w _ q)]; exact q
  exact ⟨k _ _ h.c0, k _ _ h.c1, k _ _ h.c2, k _ _ h.c3, k _ _ h.c4, k _ _ h.c5, k _ _ h.c6, k _ _ h.c7, k _ _ h.c8, k _ _ h.c9, k _ _ h.c10, k _ _ h.c11⟩

theorem ret_intU {k : IntKind} {a b : Int} (h : a = b) : Ending.returned (.int k a) = .returned (.int k b) := by rw [h]

set_option maxHeartbeats 1000000 in
theorem sign_is (r : Int) (w : World) : Calls Tryd.prog 67 #[.int .i64 r] w fun e w' => e = .returned (.bool (Utf.sg r)) ∧ w = w' := by
  obtain ⟨b, hb⟩ : ∃ b, b = Utf.sg r := ⟨_, rfl⟩
  rw [← hb]
  have key : (r < 0 ∧ b = false) ∨ ((0 ≤ r ∧ r < 55296) ∧ b = true) ∨ ((55296 ≤ r ∧ r ≤ 57343) ∧ b = false) ∨ ((57343 < r ∧ r ≤ 1114111) ∧ b = true) ∨ (1114111 < r ∧ b = false) := by
    rw [hb]; unfold Utf.sg
    simp only [decide_eq_true_eq, decide_eq_false_iff_not]
    omega
  clear hb
  rcases key with ⟨h1, rfl⟩ | ⟨⟨h1, h2⟩, rfl⟩ | ⟨⟨h1, h2⟩, rfl⟩ | ⟨⟨h1, h2⟩, rfl⟩ | ⟨h1, rfl⟩
  all_goals
    go_enter Tryd.func67, Tryd.ntmps67
    go_wp2
    go_ret
    exact ⟨ret_bool (by first | rfl | (simp; done) | (simp; omega)), rfl⟩

set_option maxHeartbeats 1000000 in
set_option maxRecDepth 100000 in
theorem led_is (f : Nat) (w : World) (h : Shapes w) : Calls Tryd.prog 66 #[.int .i64 f] w fun e w' => e = .returned (.int .i64 (Utf.led f : Nat)) ∧ w = w' := by
  obtain ⟨c0, c1, c2, c3, c4, c5, c6, c7, c8, c9, c10, c11⟩ := h
  clear c0 c2 c3 c5 c6 c8 c9 c11
  have hi := Utf.led_iff f
  have hle := Utf.led_le f
  obtain ⟨m, hm⟩ : ∃ m, m = Utf.led f := ⟨_, rfl⟩
  rw [← hm] at hi hle ⊢
  clear hm
  obtain ⟨i0, i1, i2⟩ := hi
  have I0 := Lib.hid i0; have I1 := Lib.hid i1; have I2 := Lib.hid i2
  clear i0 i1 i2
  go_enter Tryd.func66, Tryd.ntmps66
  go_wp2
  go_loop [3] (fun i => ∃ k : Nat, k ≤ 3 ∧ i = .int .i64 k ∧ m ≤ k) (fun i => (intOf i).toNat)
  case atStart => exact ⟨3, by omega, rfl, hle⟩
  case round =>
    obtain ⟨k, hk, rfl, hb⟩ := hrel
    match k, hk, hb with
    | 0, _, hb =>
      have h1 := I0.out.1 hb
      obtain rfl : m = 0 := by omega
      go_wp2
      go_ret
      exact ⟨rfl, rfl⟩
    | 1, _, hb =>
      have h2 := I1.out.1 hb
      by_cases h1 : f < 192
      · have h1' := I0.out.2 h1
        go_wp2
        go_round
        case rel => exact ⟨0, by omega, rfl, h1'⟩
        case measure => simp [intOf]
      · obtain rfl : m = 1 := by have : ¬ m ≤ 0 := fun h => h1 (I0.out.1 h); omega
        go_wp2
        go_ret
        exact ⟨rfl, rfl⟩
    | 2, _, hb =>
      have h2 := I2.out.1 hb
      by_cases h1 : f < 224
      · have h1' := I1.out.2 h1
        go_wp2
        go_round
        case rel => exact ⟨1, by omega, rfl, h1'⟩
        case measure => simp [intOf]
      · obtain rfl : m = 2 := by have : ¬ m ≤ 1 := fun h => h1 (I1.out.1 h); omega
        go_wp2
        go_ret
        exact ⟨rfl, rfl⟩
    | 3, _, hb =>
      by_cases h1 : f < 240
      · have h1' := I2.out.2 h1
        go_wp2
        go_round
        case rel => exact ⟨2, by omega, rfl, h1'⟩
        case measure => simp [intOf]
      · obtain rfl : m = 3 := by have : ¬ m ≤ 2 := fun h => h1 (I2.out.1 h); omega
        go_wp2
        go_ret
        exact ⟨rfl, rfl⟩

set_option maxHeartbeats 1000000 in
theorem shaped_is (r : Int) (w : World) (h : Shapes w) (hr : r ≤ 1114111) : Calls Tryd.prog 68 #[.int .i64 r] w fun e w' => e = .returned (.int .i64 (Utf.sh r : Nat)) ∧ w = w' := by
  obtain ⟨c0, c1, c2, c3, c4, c5, c6, c7, c8, c9, c10, c11⟩ := h
  clear c1 c2 c4 c5 c7 c8 c10 c11
  have hi := Utf.sh_iff r
  have hle := Utf.sh_le r
  obtain ⟨m, hm⟩ : ∃ m, m = Utf.sh r := ⟨_, rfl⟩
  rw [← hm] at hi hle ⊢
  clear hm
  obtain ⟨i0, i1, i2⟩ := hi
  have I0 := Lib.hid i0; have I1 := Lib.hid i1; have I2 := Lib.hid i2
  clear i0 i1 i2
  go_enter Tryd.func68, Tryd.ntmps68
  go_wp2
  go_loop [3] (fun i => ∃ k : Nat, k ≤ 3 ∧ i = .int .i64 k ∧ k ≤ m) (fun i => 3 - (intOf i).toNat)
  case atStart => exact ⟨0, by omega, rfl, Nat.zero_le _⟩
  case round =>
    obtain ⟨k, hk, rfl, hb⟩ := hrel
    match k, hk, hb with
    | 0, _, hb =>
      by_cases h1 : 127 < r
      · have h1' := I0.out.2 h1
        go_wp2
        go_round
        case rel => exact ⟨1, by omega, rfl, h1'⟩
        case measure => simp [intOf]
      · obtain rfl : m = 0 := by have : ¬ 1 ≤ m := fun h => h1 (I0.out.1 h); omega
        go_wp2
        go_ret
        exact ⟨rfl, rfl⟩
    | 1, _, hb =>
      have h0 := I0.out.1 hb
      by_cases h1 : 2047 < r
      · have h1' := I1.out.2 h1
        go_wp2
        go_round
        case rel => exact ⟨2, by omega, rfl, h1'⟩
        case measure => simp [intOf]
      · obtain rfl : m = 1 := by have : ¬ 2 ≤ m := fun h => h1 (I1.out.1 h); omega
        go_wp2
        go_ret
        exact ⟨rfl, rfl⟩
    | 2, _, hb =>
      have h0 := I1.out.1 hb
      by_cases h1 : 65535 < r
      · have h1' := I2.out.2 h1
        go_wp2
        go_round
        case rel => exact ⟨3, by omega, rfl, h1'⟩
        case measure => simp [intOf]
      · obtain rfl : m = 2 := by have : ¬ 3 ≤ m := fun h => h1 (I2.out.1 h); omega
        go_wp2
        go_ret
        exact ⟨rfl, rfl⟩
    | 3, _, hb =>
      have h0 := I2.out.1 hb
      obtain rfl : m = 3 := by omega
      go_wp2
      go_ret
      exact ⟨rfl, rfl⟩
end Go.Proofs.YtnmigbbokmibnaaDoor
