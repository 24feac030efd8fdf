/- The statement DocsBack, proved for every input that its row reads: part 2 of 6. -/
import Derived.Outline
import Derived.Laws.BitsLemmas
import Derived.Laws.BitsAllLaws
import Derived.Lib.Hide
import Derived.Lib.Strings
import Derived.OneCell
import Derived.Lib.AppendZerosOnto
import Derived.Lib.AppendZeros
import Derived.Lib.SliceRun
import Derived.Deep.DeepAppendWide
import Derived.Lib.BitFns
import Derived.BigQuiet
import Derived.Deep.QuietTactic
import Derived.Sort.Walk0
import Derived.Test.YtjmglgcifekhgaaDoorProg
import Derived.Test.YtjmglgcifekhgaaDoorPackDocsBack1
/- The contracts of utf's Sign, led, shaped. -/
namespace Go.Proofs.YtjmglgcifekhgaaDoor
open Go Go.RowKit

namespace Utf
def sg (r : Int) : Bool := decide ((0 ≤ r ∧ r < 55296) ∨ (57343 < r ∧ r ≤ 1114111))
def led (f : Nat) : Nat := if f < 192 then 0 else if f < 224 then 1 else if f < 240 then 2 else 3
def lead (k : Nat) : Nat := if k = 0 then 0 else if k = 1 then 192 else if k = 2 then 224 else 240
def sh (r : Int) : Nat := if r ≤ 127 then 0 else if r ≤ 2047 then 1 else if r ≤ 65535 then 2 else 3
theorem led_le (f : Nat) : led f ≤ 3 := by unfold led; (repeat' split) <;> omega
theorem led_lead (f : Nat) (hf : f < 256) : lead (led f) ≤ f ∧ f - lead (led f) ≤ 191 := by unfold lead led; (repeat' split) <;> omega
theorem sh_le (r : Int) : sh r ≤ 3 := by unfold sh; (repeat' split) <;> omega
theorem led_iff (f : Nat) : (led f ≤ 0 ↔ f < 192) ∧ (led f ≤ 1 ↔ f < 224) ∧ (led f ≤ 2 ↔ f < 240) := by unfold led; (repeat' split) <;> omega
theorem sh_iff (r : Int) : (1 ≤ sh r ↔ 127 < r) ∧ (2 ≤ sh r ↔ 2047 < r) ∧ (3 ≤ sh r ↔ 65535 < r) := by unfold sh; (repeat' split) <;> omega
end Utf

/-- the table of shapes -/
structure Shapes (w : World) : Prop where
  c0 : w.cell? ⟨0, 0, none⟩ = some (.int .i64 127)
  c1 : w.cell? ⟨0, 1, none⟩ = some (.int .i64 0)
  c2 : w.cell? ⟨0, 2, none⟩ = some (.int .i64 0)
  c3 : w.cell? ⟨0, 3, none⟩ = some (.int .i64 2047)
  c4 : w.cell? ⟨0, 4, none⟩ = some (.int .i64 192)
  c5 : w.cell? ⟨0, 5, none⟩ = some (.int .i64 1)
  c6 : w.cell? ⟨0, 6, none⟩ = some (.int .i64 65535)
  c7 : w.cell? ⟨0, 7, none⟩ = some (.int .i64 224)
  c8 : w.cell? ⟨0, 8, none⟩ = some (.int .i64 2)
  c9 : w.cell? ⟨0, 9, none⟩ = some (.int .i64 1114111)
  c10 : w.cell? ⟨0, 10, none⟩ = some (.int .i64 240)
  c11 : w.cell? ⟨0, 11, none⟩ = some (.int .i64 3)
theorem Shapes.below {w w' : World} (h : Shapes w) (hb : Below w.heap.size w w') : Shapes w' := by
  have k : ∀ (a : Addr) v, w.cell? a = some v → w'.cell? a = some v := fun a v q => by
    rw [hb.cell (p := a) (World.block_lt_of_cell? w _ q)]; exact q
  exact ⟨k _ _ h.c0, k _ _ h.c1, k _ _ h.c2, k _ _ h.c3, k _ _ h.c4, k _ _ h.c5, k _ _ h.c6, k _ _ h.c7, k _ _ h.c8, k _ _ h.c9, k _ _ h.c10, k _ _ h.c11⟩

theorem ret_intU {k : IntKind} {a b : Int} (h : a = b) : Ending.returned (.int k a) = .returned (.int k b) := by rw [h]

set_option maxHeartbeats 1000000 in
theorem sign_is (r : Int) (w : World) : Calls Tryd.prog 100 #[.int .i64 r] w fun e w' => e = .returned (.bool (Utf.sg r)) ∧ w = w' := by
  obtain ⟨b, hb⟩ : ∃ b, b = Utf.sg r := ⟨_, rfl⟩
  rw [← hb]
  have key : (r < 0 ∧ b = false) ∨ ((0 ≤ r ∧ r < 55296) ∧ b = true) ∨ ((55296 ≤ r ∧ r ≤ 57343) ∧ b = false) ∨ ((57343 < r ∧ r ≤ 1114111) ∧ b = true) ∨ (1114111 < r ∧ b = false) := by
    rw [hb]; unfold Utf.sg
    simp only [decide_eq_true_eq, decide_eq_false_iff_not]
    omega
  clear hb
  rcases key with ⟨h1, rfl⟩ | ⟨⟨h1, h2⟩, rfl⟩ | ⟨⟨h1, h2⟩, rfl⟩ | ⟨⟨h1, h2⟩, rfl⟩ | ⟨h1, rfl⟩
  all_goals
    go_enter Tryd.func100, Tryd.ntmps100
    go_wp2
    go_ret
    exact ⟨ret_bool (by first | rfl | (simp; done) | (simp; omega)), rfl⟩

set_option maxHeartbeats 1000000 in
set_option maxRecDepth 100000 in
theorem led_is (f : Nat) (w : World) (h : Shapes w) : Calls Tryd.prog 99 #[.int .i64 f] w fun e w' => e = .returned (.int .i64 (Utf.led f : Nat)) ∧ w = w' := by
  obtain ⟨c0, c1, c2, c3, c4, c5, c6, c7, c8, c9, c10, c11⟩ := h
  clear c0 c2 c3 c5 c6 c8 c9 c11
  have hi := Utf.led_iff f
  have hle := Utf.led_le f
  obtain ⟨m, hm⟩ : ∃ m, m = Utf.led f := ⟨_, rfl⟩
  rw [← hm] at hi hle ⊢
  clear hm
  obtain ⟨i0, i1, i2⟩ := hi
  have I0 := Lib.hid i0; have I1 := Lib.hid i1; have I2 := Lib.hid i2
  clear i0 i1 i2
  go_enter Tryd.func99, Tryd.ntmps99
  go_wp2
  go_loop [3] (fun i => ∃ k : Nat, k ≤ 3 ∧ i = .int .i64 k ∧ m ≤ k) (fun i => (intOf i).toNat)
  case atStart => exact ⟨3, by omega, rfl, hle⟩
  case round =>
    obtain ⟨k, hk, rfl, hb⟩ := hrel
    match k, hk, hb with
    | 0, _, hb =>
      have h1 := I0.out.1 hb
      obtain rfl : m = 0 := by omega
      go_wp2
      go_ret
      exact ⟨rfl, rfl⟩
    | 1, _, hb =>
      have h2 := I1.out.1 hb
      by_cases h1 : f < 192
      · have h1' := I0.out.2 h1
        go_wp2
        go_round
        case rel => exact ⟨0, by omega, rfl, h1'⟩
        case measure => simp [intOf]
      · obtain rfl : m = 1 := by have : ¬ m ≤ 0 := fun h => h1 (I0.out.1 h); omega
        go_wp2
        go_ret
        exact ⟨rfl, rfl⟩
    | 2, _, hb =>
      have h2 := I2.out.1 hb
      by_cases h1 : f < 224
      · have h1' := I1.out.2 h1
        go_wp2
        go_round
        case rel => exact ⟨1, by omega, rfl, h1'⟩
        case measure => simp [intOf]
      · obtain rfl : m = 2 := by have : ¬ m ≤ 1 := fun h => h1 (I1.out.1 h); omega
        go_wp2
        go_ret
        exact ⟨rfl, rfl⟩
    | 3, _, hb =>
      by_cases h1 : f < 240
      · have h1' := I2.out.2 h1
        go_wp2
        go_round
        case rel => exact ⟨2, by omega, rfl, h1'⟩
        case measure => simp [intOf]
      · obtain rfl : m = 3 := by have : ¬ m ≤ 2 := fun h => h1 (I2.out.1 h); omega
        go_wp2
        go_ret
        exact ⟨rfl, rfl⟩

set_option maxHeartbeats 1000000 in
theorem shaped_is (r : Int) (w : World) (h : Shapes w) (hr : r ≤ 1114111) : Calls Tryd.prog 101 #[.int .i64 r] w fun e w' => e = .returned (.int .i64 (Utf.sh r : Nat)) ∧ w = w' := by
  obtain ⟨c0, c1, c2, c3, c4, c5, c6, c7, c8, c9, c10, c11⟩ := h
  clear c1 c2 c4 c5 c7 c8 c10 c11
  have hi := Utf.sh_iff r
  have hle := Utf.sh_le r
  obtain ⟨m, hm⟩ : ∃ m, m = Utf.sh r := ⟨_, rfl⟩
  rw [← hm] at hi hle ⊢
  clear hm
  obtain ⟨i0, i1, i2⟩ := hi
  have I0 := Lib.hid i0; have I1 := Lib.hid i1; have I2 := Lib.hid i2
  clear i0 i1 i2
  go_enter Tryd.func101, Tryd.ntmps101
  go_wp2
  go_loop [3] (fun i => ∃ k : Nat, k ≤ 3 ∧ i = .int .i64 k ∧ k ≤ m) (fun i => 3 - (intOf i).toNat)
  case atStart => exact ⟨0, by omega, rfl, Nat.zero_le _⟩
  case round =>
    obtain ⟨k, hk, rfl, hb⟩ := hrel
    match k, hk, hb with
    | 0, _, hb =>
      by_cases h1 : 127 < r
      · have h1' := I0.out.2 h1
        go_wp2
        go_round
        case rel => exact ⟨1, by omega, rfl, h1'⟩
        case measure => simp [intOf]
      · obtain rfl : m = 0 := by have : ¬ 1 ≤ m := fun h => h1 (I0.out.1 h); omega
        go_wp2
        go_ret
        exact ⟨rfl, rfl⟩
    | 1, _, hb =>
      have h0 := I0.out.1 hb
      by_cases h1 : 2047 < r
      · have h1' := I1.out.2 h1
        go_wp2
        go_round
        case rel => exact ⟨2, by omega, rfl, h1'⟩
        case measure => simp [intOf]
      · obtain rfl : m = 1 := by have : ¬ 2 ≤ m := fun h => h1 (I1.out.1 h); omega
        go_wp2
        go_ret
        exact ⟨rfl, rfl⟩
    | 2, _, hb =>
      have h0 := I1.out.1 hb
      by_cases h1 : 65535 < r
      · have h1' := I2.out.2 h1
        go_wp2
        go_round
        case rel => exact ⟨3, by omega, rfl, h1'⟩
        case measure => simp [intOf]
      · obtain rfl : m = 2 := by have : ¬ 3 ≤ m := fun h => h1 (I2.out.1 h); omega
        go_wp2
        go_ret
        exact ⟨rfl, rfl⟩
    | 3, _, hb =>
      have h0 := I2.out.1 hb
      obtain rfl : m = 3 := by omega
      go_wp2
      go_ret
      exact ⟨rfl, rfl⟩
theorem i64_fits (n : Int) (h0 : 0 ≤ n) (h1 : n < 2 ^ 63) : IntKind.i64.wrap n = n := IntWalk.i64_in _ ⟨by omega, by omega⟩
theorem i64_and_nat (a b : Nat) (ha : a < 9223372036854775808) (hb : b < 9223372036854775808) : bits .and .i64 (a : Int) (b : Int) = ((a &&& b : Nat) : Int) :=
  (bits_nat .i64 63 (by decide) i64_fits a b (by simpa using ha) (by simpa using hb)).1
theorem i64_or_nat (a b : Nat) (ha : a < 9223372036854775808) (hb : b < 9223372036854775808) : bits .or .i64 (a : Int) (b : Int) = ((a ||| b : Nat) : Int) :=
  (bits_nat .i64 63 (by decide) i64_fits a b (by simpa using ha) (by simpa using hb)).2
theorem i64_join (u c : Nat) (hu : u < 1000000000) : bits .or .i64 ((u : Int) * 64) ((c % 64 : Nat) : Int) = ((u * 64 + c % 64 : Nat) : Int) := by
  rw [show ((u : Int) * 64) = ((u * 64 : Nat) : Int) from by simp, i64_or_nat _ _ (by omega) (by omega)]
  have := Nat.two_pow_add_eq_or_of_lt (i := 6) (b := c % 64) (by omega) u
  rw [show u * 64 = 2 ^ 6 * u from by omega, ← this]
theorem mask63 (c : Nat) (hc : c < 256) : bits .and .i64 (c : Int) 63 = ((c % 64 : Nat) : Int) := by
  rw [show (63 : Int) = ((63 : Nat) : Int) from rfl, i64_and_nat _ _ (by omega) (by omega), show (63 : Nat) = 2 ^ 6 - 1 from rfl, Nat.and_two_pow_sub_one_eq_mod]
theorem top192 : ∀ c : Fin 256, (c.val &&& 192 = 128) ↔ (128 ≤ c.val ∧ c.val < 192) := by decide +kernel

namespace Utf
/-- the byte at a place -/
def gt (s : ByteArray) (i : Nat) : Nat := (s.data.toList.getD i 0).toNat
theorem gt_lt (s : ByteArray) (i : Nat) : gt s i < 256 := UInt8.toNat_lt _
theorem gt_at (s : ByteArray) (i : Nat) (h : i < s.size) : s[i].toNat = gt s i := by
  have h' : i < s.data.toList.length := by rw [Array.length_toList]; exact h
  unfold gt
  rw [List.getD, List.getElem?_eq_getElem h', Option.getD_some, Array.getElem_toList]; rfl
def cont (s : ByteArray) (i : Nat) : Prop := 128 ≤ gt s i ∧ gt s i < 192
def acc (s : ByteArray) (p : Nat) : Nat → Nat
  | 0 => gt s p - lead (led (gt s p))
  | j + 1 => acc s p j * 64 + gt s (p + 1 + j) % 64
theorem acc_le (s : ByteArray) (p j : Nat) (hj : j ≤ 3) : acc s p j < 50331648 := by
  have h0 := (led_lead (gt s p) (gt_lt s p)).2
  match j, hj with
  | 0, _ => simp only [acc]; omega
  | 1, _ => simp only [acc]; omega
  | 2, _ => simp only [acc]; omega
  | 3, _ => simp only [acc]; omega
def ok (s : ByteArray) (p : Nat) : Prop := p + led (gt s p) + 1 ≤ s.size ∧ (∀ j, j < led (gt s p) → cont s (p + 1 + j)) ∧ sg (acc s p (led (gt s p))) = true ∧ sh (acc s p (led (gt s p))) = led (gt s p)
instance (s : ByteArray) (p : Nat) : Decidable (ok s p) := by unfold ok cont; infer_instance
def nx (s : ByteArray) (p : Nat) : Int × Nat := if ok s p then ((acc s p (led (gt s p)) : Nat), led (gt s p) + 1) else (-1, 1)
theorem nx_yes {s : ByteArray} {p : Nat} (h : ok s p) : nx s p = (((acc s p (led (gt s p)) : Nat) : Int), led (gt s p) + 1) := if_pos h
theorem nx_no {s : ByteArray} {p : Nat} (h : ¬ ok s p) : nx s p = (-1, 1) := if_neg h
end Utf

theorem shapes_at {w : World} (h : Shapes w) (k : Nat) (hk : k ≤ 3) : w.cell? ⟨0, k * 3 + 1, none⟩ = some (.int .i64 (Utf.lead k : Nat)) ∧ w.cell? ⟨0, k * 3 + 2, none⟩ = some (.int .i64 k) := by
  match k, hk with
  | 0, _ => exact ⟨h.c1, h.c2⟩
  | 1, _ => exact ⟨h.c4, h.c5⟩
  | 2, _ => exact ⟨h.c7, h.c8⟩
  | 3, _ => exact ⟨h.c10, h.c11⟩

theorem next_out (s : ByteArray) (at_ : Int) (w : World) (h : at_ < 0 ∨ (s.size : Int) ≤ at_) : Calls Tryd.prog 93 #[.string s, .int .i64 at_] w fun e w' => e = .returned (.tuple #[.int .i64 (-1), .int .i64 0]) ∧ w = w' := by
  rcases h with h | h
  · go_enter Tryd.func93, Tryd.ntmps93
    go_wp2
    go_ret2
    exact ⟨rfl, rfl⟩
  · by_cases h0 : at_ < 0
    all_goals
      go_enter Tryd.func93, Tryd.ntmps93
      go_wp2
      go_ret2
      exact ⟨rfl, rfl⟩

theorem ret_two {a b c d : Int} (h1 : a = c) (h2 : b = d) : Ending.returned (.tuple #[.int .i64 a, .int .i64 b]) = .returned (.tuple #[.int .i64 c, .int .i64 d]) := by rw [h1, h2]

set_option maxHeartbeats 2000000 in
set_option maxRecDepth 100000 in
theorem next_in (s : ByteArray) (p : Nat) (w : World) (h : p < s.size) (hs : s.size ≤ 140737488351232) (hT : Shapes w) :
    Calls Tryd.prog 93 #[.string s, .int .i64 p] w fun e w' => e = .returned (.tuple #[.int .i64 (Utf.nx s p).1, .int .i64 ((Utf.nx s p).2 : Nat)]) ∧ w = w' := by
  have h' : (p : Int) < s.size := by omega
  have hok : Hid (Utf.ok s p ↔ Utf.ok s p) := Iff.rfl
  obtain ⟨X, hX⟩ : ∃ X, X = (Utf.nx s p).1 := ⟨_, rfl⟩
  obtain ⟨N, hN⟩ : ∃ N, N = (Utf.nx s p).2 := ⟨_, rfl⟩
  rw [← hX, ← hN]
  have hyes : Utf.ok s p → X = (Utf.acc s p (Utf.led (Utf.gt s p)) : Nat) ∧ N = Utf.led (Utf.gt s p) + 1 := fun h => by rw [hX, hN, Utf.nx_yes h]; exact ⟨rfl, rfl⟩
  have hno : ¬ Utf.ok s p → X = -1 ∧ N = 1 := fun h => by rw [hX, hN, Utf.nx_no h]; exact ⟨rfl, rfl⟩
  clear hX hN hok
  unfold Utf.ok at hyes hno
  have hacc0 : Utf.acc s p 0 = Utf.gt s p - Utf.lead (Utf.led (Utf.gt s p)) := rfl
  have hll := Utf.led_lead (Utf.gt s p) (Utf.gt_lt s p)
  have hf := Utf.gt_at s p h
  have hfb := Utf.gt_lt s p
  have hkl := Utf.led_le (Utf.gt s p)
  have hled := led_is (Utf.gt s p) w hT
  obtain ⟨f, hfe⟩ : ∃ f, f = Utf.gt s p := ⟨_, rfl⟩
  rw [← hfe] at hacc0 hf hfb hll hkl hled hyes hno
  obtain ⟨k, hk⟩ : ∃ k, k = Utf.led f := ⟨_, rfl⟩
  rw [← hk] at hacc0 hll hkl hled hyes hno
  obtain ⟨q1, q2⟩ := shapes_at hT k hkl
  obtain ⟨ld, hld⟩ : ∃ ld, ld = Utf.lead k := ⟨_, rfl⟩
  rw [← hld] at hacc0 hll q1
  obtain ⟨l1, l2⟩ := hll
  have hsub : (f : Int) - ld = ((f - ld : Nat) : Int) := by omega
  have HY := Lib.hid hyes; have HNO := Lib.hid hno; have HA := Lib.hid hacc0; have HT := Lib.hid hT; have HS := Lib.hid hsub
  clear hfe hk hld hyes hno hacc0 hT hsub
  by_cases hfit : p + k + 1 ≤ s.size
  · go_enter Tryd.func93, Tryd.ntmps93
    go_wp2_with fail
    refine hled.mono ?_
    rintro e w' ⟨rfl, rfl⟩
    clear hled
    go_wp2
    rw [HS.out, ← HA.out]
    go_loop [9, 47] (fun r i => ∃ j : Nat, j ≤ k ∧ i = .int .i64 j ∧ r = .int .i64 (Utf.acc s p j : Nat) ∧ ∀ i, i < j → Utf.cont s (p + 1 + i)) (fun _ i => k - (intOf i).toNat)
    case atStart => exact ⟨0, Nat.zero_le _, rfl, rfl, fun i hi => by omega⟩
    case round =>
      obtain ⟨j, hj, rfl, rfl, hcont⟩ := hrel
      have HC := Lib.hid hcont
      have hb := Utf.acc_le s p j (by omega)
      have HJ : Hid (Utf.acc s p (j + 1) = Utf.acc s p j * 64 + Utf.gt s (p + 1 + j) % 64) := rfl
      clear hcont
      by_cases hjk : j < k
      · have hcg := Utf.gt_at s (p + 1 + j) (by omega)
        have hcb := Utf.gt_lt s (p + 1 + j)
        have hcn : Hid (Utf.cont s (p + 1 + j) ↔ 128 ≤ Utf.gt s (p + 1 + j) ∧ Utf.gt s (p + 1 + j) < 192) := Iff.rfl
        obtain ⟨u, hu⟩ : ∃ u, u = Utf.acc s p j := ⟨_, rfl⟩
        obtain ⟨c, hc⟩ : ∃ c, c = Utf.gt s (p + 1 + j) := ⟨_, rfl⟩
        rw [← hu] at hb HJ ⊢
        rw [← hc] at hcg hcb hcn HJ
        have hm := mask63 c hcb
        have hjn := i64_join u c (by omega)
        have ht := top192 ⟨c, hcb⟩
        have h192 : bits .and .i64 (c : Int) 192 = ((c &&& 192 : Nat) : Int) := by rw [show (192 : Int) = ((192 : Nat) : Int) from rfl, i64_and_nat _ _ (by omega) (by omega)]
        simp only at ht
        obtain ⟨t, htt⟩ : ∃ t, t = c &&& 192 := ⟨_, rfl⟩
        rw [← htt] at ht h192
        have hix : (p : Int) + 1 + j < s.size := by omega
        clear hu hc htt
        obtain ⟨m6, hm6⟩ : ∃ m6, m6 = c % 64 := ⟨_, rfl⟩
        rw [← hm6] at hm hjn HJ
        have hm6b : m6 < 64 := by omega
        have HT6 := Lib.hid ht
        clear hm6 ht
        by_cases hcc : 128 ≤ c ∧ c < 192
        · have ht2 := HT6.out.2 hcc
          rw [ht2] at h192
          have HCC : Hid (∀ i, i < j + 1 → Utf.cont s (p + 1 + i)) := fun i hi => by
            rcases Nat.lt_or_ge i j with h1 | h1
            · exact HC.out i h1
            · obtain rfl : i = j := by omega
              exact hcn.2 hcc
          clear HT6 ht2 hcn
          go_wp2
          go_round
          case rel => exact ⟨j + 1, by omega, by go_num, by rw [HJ.out]; go_num, HCC.out⟩
          case measure => simp [intOf]; omega
        · have ht2 : ¬ (t : Int) = 128 := fun e => hcc (HT6.out.1 (by omega))
          have hn : Hid (X = -1 ∧ N = 1) := HNO.out fun h => hcc (hcn.1 (h.2.1 j hjk))
          clear HT6 hcn
          go_wp2
          go_ret2
          exact ⟨ret_two (by rw [hn.out.1]) (by rw [hn.out.2]; rfl), rfl⟩
      · obtain rfl : j = k := by omega
        have hsg : Hid (Utf.sg (Utf.acc s p j : Nat) = true → ((Utf.acc s p j : Nat) : Int) ≤ 1114111) := fun h => by
          unfold Utf.sg at h; simp only [decide_eq_true_eq] at h; omega
        have his := sign_is (Utf.acc s p j : Nat) w
        have hsh := fun h => shaped_is (Utf.acc s p j : Nat) w HT.out h
        clear HJ
        generalize Utf.acc s p j = a at hsg his hsh hb HY HNO ⊢
        cases hsv : Utf.sg (a : Int) with
        | false =>
          have hn : Hid (X = -1 ∧ N = 1) := HNO.out fun h => by rw [hsv] at h; exact absurd h.2.2.1 (by decide)
          rw [hsv] at his
          clear hsh hsv HY HNO
          go_wp2_with fail
          refine his.mono ?_
          rintro e w' ⟨rfl, rfl⟩
          go_wp2
          go_ret2
          exact ⟨ret_two (by rw [hn.out.1]) (by rw [hn.out.2]; rfl), rfl⟩
        | true =>
          have hs2 := hsh (hsg.out hsv)
          rw [hsv] at his
          by_cases hk : Utf.sh (a : Int) = j
          · have hn : Hid (X = (a : Int) ∧ N = j + 1) := HY.out ⟨hfit, HC.out, hsv, hk⟩
            rw [hk] at hs2
            clear hsh hsv HY HNO hk
            go_wp2_with fail
            refine his.mono ?_
            rintro e w' ⟨rfl, rfl⟩
            go_wp2_with fail
            refine hs2.mono ?_
            rintro e w' ⟨rfl, rfl⟩
            go_wp2
            go_ret2
            exact ⟨ret_two (by rw [hn.out.1]) (by rw [hn.out.2]; omega), rfl⟩
          · have hn : Hid (X = -1 ∧ N = 1) := HNO.out fun h => hk h.2.2.2
            obtain ⟨m, hm⟩ : ∃ m, m = Utf.sh (a : Int) := ⟨_, rfl⟩
            rw [← hm] at hk hs2
            clear hsh hsv HY HNO hm
            have hk' : ¬ (m : Int) = j := by omega
            go_wp2_with fail
            refine his.mono ?_
            rintro e w' ⟨rfl, rfl⟩
            go_wp2_with fail
            refine hs2.mono ?_
            rintro e w' ⟨rfl, rfl⟩
            go_wp2
            go_ret2
            exact ⟨ret_two (by rw [hn.out.1]) (by rw [hn.out.2]; rfl), rfl⟩
  · have hn := HNO.out (fun h => hfit h.1)
    have HN := Lib.hid hn
    clear hn
    go_enter Tryd.func93, Tryd.ntmps93
    go_wp2_with fail
    refine hled.mono ?_
    rintro e w' ⟨rfl, rfl⟩
    go_wp2
    go_ret2
    exact ⟨ret_two (by rw [HN.out.1]) (by rw [HN.out.2]; rfl), rfl⟩
end Go.Proofs.YtjmglgcifekhgaaDoor
/- The contract of utf's Valid; the example that each law of layer 3 ends with. -/
namespace Go.Proofs.YtjmglgcifekhgaaDoor
open Go Go.RowKit

namespace Utf
theorem nx_step (s : ByteArray) (p : Nat) (h : p < s.size) : 1 ≤ (nx s p).2 ∧ (nx s p).2 ≤ 4 ∧ p + (nx s p).2 ≤ s.size := by
  unfold nx
  split
  · rename_i h1
    have h2 := h1.1
    have := led_le (gt s p)
    simp only
    omega
  · simp only
    omega
theorem nx_small (s : ByteArray) (p : Nat) : -1 ≤ (nx s p).1 ∧ (nx s p).1 ≤ 1114111 := by
  unfold nx
  split
  · rename_i h1
    have h2 := h1.2.2.1
    unfold sg at h2
    simp only [decide_eq_true_eq] at h2
    simp only
    omega
  · simp only
    omega
def vd (s : ByteArray) : Nat → Nat → Bool
  | 0, _ => true
  | f + 1, p => if p < s.size then (if (nx s p).1 < 0 then false else vd s f (p + (nx s p).2)) else true
def valid (s : ByteArray) : Bool := vd s s.size 0
theorem vd_end (s : ByteArray) (f p : Nat) (h : s.size ≤ p) : vd s f p = true := by
  cases f with
  | zero => rfl
  | succ f => rw [vd, if_neg (by omega)]
theorem vd_no (s : ByteArray) (f p : Nat) (h : p < s.size) (hf : s.size ≤ p + f) (hn : (nx s p).1 < 0) : vd s f p = false := by
  cases f with
  | zero => omega
  | succ f => rw [vd, if_pos h, if_pos hn]
theorem vd_step (s : ByteArray) (f p : Nat) (h : p < s.size) (hf : s.size ≤ p + f) (hn : ¬ (nx s p).1 < 0) : vd s f p = vd s (f - 1) (p + (nx s p).2) := by
  cases f with
  | zero => omega
  | succ f => rw [vd, if_pos h, if_neg hn]; rfl
end Utf

set_option maxHeartbeats 1000000 in
theorem utfValid_is (s : ByteArray) (w : World) (hs : s.size ≤ 140737488351232) (hT : Shapes w) :
    Calls Tryd.prog 80 #[.string s] w fun e w' => e = .returned (.bool (Utf.valid s)) ∧ w = w' := by
  obtain ⟨b, hb⟩ : ∃ b, b = Utf.valid s := ⟨_, rfl⟩
  rw [← hb]
  have HB : Hid (b = Utf.vd s s.size 0) := hb
  have HT := Lib.hid hT
  clear hb hT
  go_enter Tryd.func80, Tryd.ntmps80
  go_wp2
  go_loop [3] (fun i => ∃ p f : Nat, p ≤ s.size ∧ s.size ≤ p + f ∧ i = .int .i64 p ∧ b = Utf.vd s f p) (fun i => s.size - (intOf i).toNat)
  case atStart => exact ⟨0, s.size, Nat.zero_le _, by omega, rfl, HB.out⟩
  case round =>
    obtain ⟨p, f, hp, hf, rfl, hbv⟩ := hrel
    have BV := Lib.hid hbv
    clear hbv
    by_cases hps : p < s.size
    · have hn := next_in s p w hps hs HT.out
      have hst := Utf.nx_step s p hps
      have hv := fun h => Utf.vd_no s f p hps hf h
      have hv2 := fun h => Utf.vd_step s f p hps hf h
      have HV := Lib.hid hv; have HV2 := Lib.hid hv2
      clear hv hv2
      generalize (Utf.nx s p).1 = x at hn HV HV2
      generalize (Utf.nx s p).2 = n at hn hst HV2
      obtain ⟨n1, n2, n3⟩ := hst
      have hp' : (p : Int) < s.size := by omega
      by_cases hx : x < 0
      · have HE := Lib.hid (HV.out hx)
        go_wp2_with fail
        refine hn.mono ?_
        rintro e w' ⟨rfl, rfl⟩
        clear hn
        go_wp2
        go_ret
        exact ⟨ret_bool (by rw [BV.out, HE.out]), rfl⟩
      · have HE := Lib.hid (HV2.out hx)
        go_wp2_with fail
        refine hn.mono ?_
        rintro e w' ⟨rfl, rfl⟩
        clear hn
        go_wp2
        go_round
        case rel => exact ⟨p + n, f - 1, by omega, by omega, by go_num, by rw [BV.out, HE.out]⟩
        case measure => simp [intOf]; omega
    · have HE := Lib.hid (Utf.vd_end s f p (by omega))
      have hp' : ¬ (p : Int) < s.size := by omega
      go_wp2
      go_ret
      exact ⟨ret_bool (by rw [BV.out, HE.out]), rfl⟩

theorem utfEx1 : Utf.nx ⟨#[195, 169]⟩ 0 = (233, 2) := by decide +kernel
theorem utfEx2 : Utf.valid ⟨#[97, 195, 169]⟩ = true := by decide +kernel
theorem utfEx3 : Utf.valid ⟨#[255]⟩ = false := by decide +kernel

end Go.Proofs.YtjmglgcifekhgaaDoor
/- The contract of utf's Valid (UtfValid without layer 3's example). -/
namespace Go.Proofs.YtjmglgcifekhgaaDoor
open Go Go.RowKit

/-- may a byte stand in a name? -/
def inN (c : Nat) : Bool := decide ((97 ≤ c ∧ c ≤ 122) ∨ (48 ≤ c ∧ c ≤ 57) ∨ c = 45)
theorem inName_is (c : Nat) (w : World) : Calls Tryd.prog 79 #[.int .u8 (c : Int)] w fun e w' => e = .returned (.bool (inN c)) ∧ w = w' := by
  obtain ⟨b, hb⟩ : ∃ b, b = inN c := ⟨_, rfl⟩
  rw [← hb]
  have key : ((c : Int) < 45 ∧ b = false) ∨ ((c : Int) = 45 ∧ b = true) ∨ ((45 < (c : Int) ∧ (c : Int) < 48) ∧ b = false) ∨ ((48 ≤ (c : Int) ∧ (c : Int) ≤ 57) ∧ b = true) ∨ ((57 < (c : Int) ∧ (c : Int) < 97) ∧ b = false) ∨ ((97 ≤ (c : Int) ∧ (c : Int) ≤ 122) ∧ b = true) ∨ (122 < (c : Int) ∧ b = false) := by
    rw [hb]; unfold inN
    simp only [decide_eq_true_eq, decide_eq_false_iff_not]
    omega
  clear hb
  rcases key with ⟨h1, rfl⟩ | ⟨h1, rfl⟩ | ⟨⟨h1, h2⟩, rfl⟩ | ⟨⟨h1, h2⟩, rfl⟩ | ⟨⟨h1, h2⟩, rfl⟩ | ⟨⟨h1, h2⟩, rfl⟩ | ⟨h1, rfl⟩
  all_goals
    go_enter Tryd.func79, Tryd.ntmps79
    go_wp2
    go_ret
    exact ⟨ret_bool (by first | rfl | (simp; omega)), rfl⟩

/-- may it be a document's name? -/
def nameB (s : ByteArray) : Bool := decide (1 ≤ s.size ∧ s.size ≤ 12 ∧ ∀ i, i < s.size → inN (Utf.gt s i) = true)
theorem name_no {s : ByteArray} {i : Nat} (hi : i < s.size) (h : inN (Utf.gt s i) = false) : nameB s = false := by
  unfold nameB
  simp only [decide_eq_false_iff_not]
  intro h2
  rw [h2.2.2 i hi] at h; cases h
theorem name_len {s : ByteArray} (h : s.size < 1 ∨ 12 < s.size) : nameB s = false := by
  unfold nameB
  simp only [decide_eq_false_iff_not]
  intro h2; omega
theorem name_yes {s : ByteArray} (h1 : 1 ≤ s.size) (h2 : s.size ≤ 12) (h : ∀ i, i < s.size → inN (Utf.gt s i) = true) : nameB s = true := by
  unfold nameB
  simp only [decide_eq_true_eq]
  exact ⟨h1, h2, h⟩
set_option maxHeartbeats 1000000 in
theorem docName_is (s : ByteArray) (w : World) : Calls Tryd.prog 55 #[.string s] w fun e w' => e = .returned (.bool (nameB s)) ∧ w = w' := by
  obtain ⟨b, hb⟩ : ∃ b, b = nameB s := ⟨_, rfl⟩
  rw [← hb]
  have HB := Lib.hid hb
  clear hb
  by_cases h1 : s.size < 1
  · have h1' : (s.size : Int) < 1 := by omega
    go_enter Tryd.func55, Tryd.ntmps55
    go_wp2
    go_ret
    exact ⟨ret_bool (by rw [HB.out, name_len (.inl h1)]), rfl⟩
  · have h1' : ¬ (s.size : Int) < 1 := by omega
    by_cases h2 : 12 < s.size
    · have h2' : (s.size : Int) > 12 := by omega
      go_enter Tryd.func55, Tryd.ntmps55
      go_wp2
      go_ret
      exact ⟨ret_bool (by rw [HB.out, name_len (.inr h2)]), rfl⟩
    · have h2' : ¬ (s.size : Int) > 12 := by omega
      go_enter Tryd.func55, Tryd.ntmps55
      go_wp2
      go_loop [14] (fun i => ∃ k : Nat, k ≤ s.size ∧ i = .int .i64 k ∧ ∀ i, i < k → inN (Utf.gt s i) = true) (fun i => s.size - (intOf i).toNat)
      case atStart => exact ⟨0, Nat.zero_le _, rfl, fun i hi => by omega⟩
      case round =>
        obtain ⟨k, hk, rfl, hall⟩ := hrel
        have HA := Lib.hid hall
        clear hall
        by_cases hks : k < s.size
        · have hks' : (k : Int) < s.size := by omega
          have hg := Utf.gt_at s k hks
          have IN := Lib.hid (inName_is (Utf.gt s k))
          have HI : Hid (∀ i, i < k + 1 → inN (Utf.gt s k) = true → inN (Utf.gt s i) = true) := Lib.hid fun i hi h => by
            rcases Nat.lt_or_ge i k with h3 | h3
            · exact HA.out i h3
            · obtain rfl : i = k := by omega
              exact h
          have NO : Hid (inN (Utf.gt s k) = false → nameB s = false) := Lib.hid fun h => name_no hks h
          generalize Utf.gt s k = c at hg IN HI NO
          generalize inN c = r at IN HI NO
          go_wp2_with fail
          refine (IN.out _).mono ?_
          rintro e w' ⟨rfl, rfl⟩
          cases r with
          | true =>
            go_wp2
            go_round
            case rel => exact ⟨k + 1, by omega, by go_num, fun i hi => HI.out i hi (by first | exact rfl | trivial)⟩
            case measure => simp [intOf]; omega
          | false =>
            go_wp2
            go_ret
            exact ⟨ret_bool (by first | exact (HB.out.trans (NO.out (by first | exact rfl | trivial))) | exact (HB.out.trans (NO.out (by first | exact rfl | trivial))).symm), rfl⟩
        · have hks' : ¬ (k : Int) < s.size := by omega
          go_wp2
          go_ret
          exact ⟨ret_bool (by rw [HB.out, name_yes (by omega) (by omega) (fun i hi => HA.out i (by omega))]), rfl⟩

/-- may a text stand in a field? -/
def txtE (f : Int) (s : ByteArray) : Int := if f < 0 ∨ 4 < f ∨ (f = 0 ∧ s.size ≠ 0) then 1 else if 160 < s.size then 5 else if Utf.valid s then 0 else 7
theorem toList_size (s : ByteArray) : s.toList.length = s.size := by rw [Lib.toList_data]; rfl
set_option maxHeartbeats 1000000 in
theorem docText_is (f : Int) (s : ByteArray) (w : World) (hT : Shapes w) : Calls Tryd.prog 57 #[.int .i64 f, .string s] w fun e w' => e = .returned (.int .i64 (txtE f s)) ∧ w = w' := by
  obtain ⟨x, hx⟩ : ∃ x, x = txtE f s := ⟨_, rfl⟩
  rw [← hx]
  have UVH := Lib.hid (fun hs : s.size ≤ 160 => utfValid_is s w (by omega) hT)
  have key : (f < 0 ∧ x = 1) ∨ ((¬ f < 0 ∧ f > 4) ∧ x = 1) ∨ (f = 0 ∧ s.size ≠ 0 ∧ x = 1) ∨ ((¬ f < 0 ∧ ¬ f > 4) ∧ (f ≠ 0 ∨ s.size = 0) ∧ ((160 < s.size ∧ x = 5) ∨ (¬ 160 < s.size ∧ Utf.valid s = true ∧ x = 0) ∨ (¬ 160 < s.size ∧ Utf.valid s = false ∧ x = 7))) := by
    rw [hx]; unfold txtE
    by_cases c1 : f < 0
    · exact .inl ⟨c1, by rw [if_pos (.inl c1)]⟩
    by_cases c2 : f > 4
    · exact .inr (.inl ⟨⟨c1, c2⟩, by rw [if_pos (.inr (.inl (by omega)))]⟩)
    by_cases c3 : f = 0 ∧ s.size ≠ 0
    · exact .inr (.inr (.inl ⟨c3.1, c3.2, by rw [if_pos (.inr (.inr c3))]⟩))
    · refine .inr (.inr (.inr ⟨⟨c1, c2⟩, by omega, ?_⟩))
      rw [if_neg (by omega)]
      by_cases c4 : 160 < s.size
      · exact .inl ⟨c4, by rw [if_pos c4]⟩
      · rw [if_neg c4]
        cases e : Utf.valid s
        · exact .inr (.inr ⟨c4, rfl, rfl⟩)
        · exact .inr (.inl ⟨c4, rfl, rfl⟩)
  clear hx hT
  have TS := toList_size s
  have full : s.size ≠ 0 → s.toList ≠ [] := fun h e => by rw [e] at TS; exact h TS.symm
  have full2 : s.size ≠ 0 → s.toList.isEmpty = false := fun h => by simpa using full h
  have emp : s.size = 0 → s.toList = [] := fun h => List.eq_nil_of_length_eq_zero (by rw [TS, h])
  have FU := Lib.hid full; have FU2 := Lib.hid full2; have EM := Lib.hid emp
  clear full full2 emp TS
  rcases key with ⟨h1, rfl⟩ | ⟨⟨h1, h2⟩, rfl⟩ | ⟨rfl, h1, rfl⟩ | ⟨⟨h1, h2⟩, h3, h4⟩
  · go_enter Tryd.func57, Tryd.ntmps57
    go_wp2
    go_ret
    exact ⟨rfl, rfl⟩
  · go_enter Tryd.func57, Tryd.ntmps57
    go_wp2
    go_ret
    exact ⟨rfl, rfl⟩
  · have f1 := FU.out h1; have f2 := FU2.out h1
    go_enter Tryd.func57, Tryd.ntmps57
    go_wp2
    go_ret
    exact ⟨rfl, rfl⟩
  · have f0 : f ≠ 0 ∨ (f = 0 ∧ s.toList = []) := by
      rcases h3 with h3 | h3
      · exact .inl h3
      · by_cases h0 : f = 0
        · exact .inr ⟨h0, EM.out h3⟩
        · exact .inl h0
    clear h3
    rcases f0 with f0 | ⟨rfl, f0⟩
    all_goals
      rcases h4 with ⟨c1, rfl⟩ | ⟨c1, c2, rfl⟩ | ⟨c1, c2, rfl⟩
      · have c1' : (s.size : Int) > 160 := by omega
        go_enter Tryd.func57, Tryd.ntmps57
        go_wp2
        go_ret
        exact ⟨rfl, rfl⟩
      all_goals
        have c1' : ¬ (s.size : Int) > 160 := by omega
        have UV := Lib.hid (UVH.out (by omega))
        rw [c2] at UV
        go_enter Tryd.func57, Tryd.ntmps57
        go_wp2_with fail
        refine UV.out.mono ?_
        rintro e w' ⟨rfl, rfl⟩
        go_wp2
        go_ret
        exact ⟨rfl, rfl⟩
end Go.Proofs.YtjmglgcifekhgaaDoor
/- Which dots an event may take away. -/
namespace Go.Proofs.YtjmglgcifekhgaaDoor
open Go Go.RowKit
set_option linter.unusedVariables false
set_option maxRecDepth 1000000

/-- may these be the dots that an event of that dot takes away? -/
def GoP (l : List Dt) (by_ : Dt) : Prop := l.length ≤ 120 ∧ (∀ i (h : i < l.length), vl l[i] = true ∧ l[i] ≠ by_) ∧ ∀ i (h : i + 1 < l.length), ltD l[i] l[i + 1] = true
noncomputable def goB (l : List Dt) (by_ : Dt) : Bool := @decide (GoP l by_) (Classical.propDecidable _)
theorem goB_iff {l : List Dt} {y : Dt} : goB l y = true ↔ GoP l y := @decide_eq_true_iff _ (Classical.propDecidable _)
theorem goB_no {l : List Dt} {y : Dt} (h : ¬ GoP l y) : goB l y = false := by
  cases e : goB l y with
  | false => rfl
  | true => exact absurd (goB_iff.1 e) h
theorem go_long {l : List Dt} {y : Dt} (h : 120 < l.length) : goB l y = false := goB_no fun h2 => by have := h2.1; omega
theorem go_bad {l : List Dt} {y : Dt} {k : Nat} (h : k < l.length) (h2 : vl l[k] = false ∨ l[k] = y) : goB l y = false := goB_no fun h3 => by
  have := h3.2.1 k h
  rcases h2 with h2 | h2
  · rw [h2] at this; cases this.1
  · exact this.2 h2
theorem go_order {l : List Dt} {y : Dt} {k : Nat} (h : k + 1 < l.length) (h2 : ltD l[k] l[k + 1] = false) : goB l y = false := goB_no fun h3 => by
  have := h3.2.2 k h
  rw [h2] at this; cases this
theorem range_nil (w : World) (b o : Nat) : w.rangeAt b o [] := fun j v hq => by cases hq
theorem exec_eqlE {o : Oper} {a : Act} (t : TypeId) (x y : Operand) (ho : o.op = .binOp .eql 28 x y t) (X Y : Dt) (b : Bool) (hb : eqDt X Y = b) (hx : a.eval x = .agg #[.int .i64 X.1, .int .i64 X.2]) (hy : a.eval y = .agg #[.int .i64 Y.1, .int .i64 Y.2]) (w : World) :
    (execOp a.eval o).run Tryd.prog w = .ok (.value (.bool b)) w := by
  subst hb
  have h := eqlDt X Y w
  unfold execOp
  simp only [ho, hx, hy]
  refine run_value_of ?_
  rw [Sem.run_bind]
  have hg : (eqGuard .eql 28 x y (.agg #[.int .i64 X.1, .int .i64 X.2]) (.agg #[.int .i64 Y.1, .int .i64 Y.2])).run Tryd.prog w = .ok () w := by
    unfold eqGuard
    go_simp
  rw [hg]
  exact h
theorem exec_gtrB {P : Program} {o : Oper} {a : Act} (t yt : TypeId) (x y : Operand) (ho : o.op = .binOp .gtr t x y yt) (X Y : Int) (b : Bool) (hb : decide (X > Y) = b) (hx : a.eval x = .int .i64 X) (hy : a.eval y = .int .i64 Y) (w : World) :
    (execOp a.eval o).run P w = .ok (.value (.bool b)) w := by
  subst hb
  unfold execOp
  simp only [ho, hx, hy]
  rfl
theorem exec_geqB {P : Program} {o : Oper} {a : Act} (t yt : TypeId) (x y : Operand) (ho : o.op = .binOp .geq t x y yt) (X Y : Int) (b : Bool) (hb : decide (X ≥ Y) = b) (hx : a.eval x = .int .i64 X) (hy : a.eval y = .int .i64 Y) (w : World) :
    (execOp a.eval o).run P w = .ok (.value (.bool b)) w := by
  subst hb
  unfold execOp
  simp only [ho, hx, hy]
  rfl
set_option maxHeartbeats 8000000 in
set_option maxRecDepth 1000000 in
theorem mayGo_is (p : Option Addr) (c : Nat) (l : List Dt) (y1 y2 : Int) (w : World) (h : DRow w p l) :
    Calls Tryd.prog 56 #[.slice p l.length c, .agg (dcs y1 y2)] w (RetBool w (goB l (y1, y2))) := by
  have H := Lib.hid h; clear h
  obtain ⟨b, hb⟩ : ∃ b, goB l (y1, y2) = b := ⟨_, rfl⟩
  rw [hb]
  have HB := Lib.hid hb; clear hb
  obtain ⟨n, hn⟩ : ∃ n, l.length = n := ⟨_, rfl⟩
  rw [hn]
  have HN := Lib.hid hn; clear hn
  by_cases h120 : n > 120
  · have h120' : (n : Int) > 120 := by omega
    have hf : b = false := by rw [← HB.out]; exact go_long (by rw [HN.out]; omega)
    subst hf
    go_enter Tryd.func56, Tryd.ntmps56
    go_wp2_with (refine wpList_gbox rfl _ rfl (dcs y1 y2) rfl ?_)
    intro g3 w1 l3 h3 hb1
    have B1 := Lib.hid hb1
    clear hb1 h3
    go_wp2
    go_ret
    exact ⟨rfl, B1.out⟩
  · have h120' : ¬ (n : Int) > 120 := by omega
    go_enter Tryd.func56, Tryd.ntmps56
    go_wp2_with (refine wpList_gbox rfl _ rfl (dcs y1 y2) rfl ?_)
    intro g3 w1 l3 h3 hb1
    have B1 := Lib.hid hb1
    have Y1 := Lib.hid (range_of_block h3)
    clear hb1 h3
    go_wp2
    go_loopw [12] (fun i wr => ∃ k : Nat, k ≤ n ∧ i = .int .i64 k ∧ (∀ i (h : i < l.length), i < k → vl l[i] = true ∧ l[i] ≠ (y1, y2)) ∧ (∀ i (h : i + 1 < l.length), i + 1 < k → ltD l[i] l[i + 1] = true) ∧ Below w1.heap.size w1 wr) (fun i _ => n - (intOf i).toNat)
    case atStart => exact ⟨0, Nat.zero_le _, rfl, fun i _ h => by omega, fun i _ h => by omega, Below.refl _ _⟩
    case round =>
      obtain ⟨k, hk, rfl, hall, hord, hb⟩ := hrel
      have BB := Lib.hid hb; have HA := Lib.hid hall; have HO := Lib.hid hord
      clear hall hord hb
      by_cases hkl : k < n
      · have hkl' : (k : Int) < n := by omega
        have hk1 : k < l.length := by rw [HN.out]; exact hkl
        have hr := thenBelow B1.out BB.out
        have HR := Lib.hid hr
        have HD := Lib.hid (H.out.below hr)
        obtain ⟨b1, o1, hpe, q1⟩ := drow_at HD.out hk1
        subst hpe
        have d0 := q1 0 _ rfl
        have d1 := q1 1 _ rfl
        have Q1 := Lib.hid q1
        clear q1 hr
        obtain ⟨⟨x1, x2⟩, hx⟩ : ∃ x, l[k] = x := ⟨_, rfl⟩
        have HX := Lib.hid hx
        rw [hx] at Q1 d0 d1
        clear hx
        simp only [Nat.add_zero] at Q1 d0 d1
        have n6 := heap_alloc_new wr (.cells #[.int .i64 x1, .int .i64 x2] 28)
        have b6 := below_alloc wr (.cells #[.int .i64 x1, .int .i64 x2] 28)
        have N6 := Lib.hid (show (wr.alloc (.cells #[.int .i64 x1, .int .i64 x2] 28)).drew.rangeAt wr.heap.size 0 [.int .i64 x1, .int .i64 x2] from range_of_block n6)
        have Y6 := Lib.hid (range_below Y1.out (to_drew (thenBelow BB.out b6)))
        have Y6 : Hid ((wr.alloc (.cells #[.int .i64 x1, .int .i64 x2] 28)).drew.rangeAt g3 0 [.int .i64 y1, .int .i64 y2]) := Y6
        have B6 := Lib.hid (to_drew (thenBelow BB.out b6))
        have L6 := Lib.hid (H.out.below (to_drew (thenBelow HR.out b6)))
        have SZ : ∀ z1 z2 : Int, (Tryd.prog.info? 28).map (·.size) = some [Value.int .i64 z1, .int .i64 z2].length := fun z1 z2 => by kernel_rfl
        clear n6 b6
        go_wp2_with fail
        rename_i K2 hK2
        generalize hW : wr.alloc (.cells #[.int .i64 x1, .int .i64 x2] 28) = W6 at N6 Y6 B6 L6 ⊢
        generalize hG : wr.heap.size = G6 at N6 ⊢
        clear hW hG d0 d1
        cases hv : vldB x1 x2 with
        | false =>
          have VA := Lib.hid (fun W : World => valid_is x1 x2 W)
          rw [hv] at VA
          have hf : b = false := by rw [← HB.out]; exact go_bad hk1 (.inl (by rw [HX.out]; exact hv))
          subst hf
          clear hv
          refine rg_calm (by kernel_rfl) rfl (S := fun U => U.rangeAt G6 0 [.int .i64 x1, .int .i64 x2] ∧ U.rangeAt g3 0 [.int .i64 y1, .int .i64 y2] ∧ U.rangeAt b1 0 [] ∧ Below w1.heap.size w1 U) ?_
          have m0 := And.intro N6.out (And.intro Y6.out (And.intro (range_nil W6.drew b1 0) B6.out))
          have keep : ∀ U U' : World, Below U.heap.size U U' → U.rangeAt G6 0 [.int .i64 x1, .int .i64 x2] ∧ U.rangeAt g3 0 [.int .i64 y1, .int .i64 y2] ∧ U.rangeAt b1 0 [] ∧ Below w1.heap.size w1 U → U'.rangeAt G6 0 [.int .i64 x1, .int .i64 x2] ∧ U'.rangeAt g3 0 [.int .i64 y1, .int .i64 y2] ∧ U'.rangeAt b1 0 [] ∧ Below w1.heap.size w1 U' := fun U U' hb h => ⟨range_below h.1 hb, range_below h.2.1 hb, range_below h.2.2.1 hb, thenBelow h.2.2.2 hb⟩
          refine rgd_pureS 0 (some 17) rfl rfl (.agg #[.int .i64 x1, .int .i64 x2]) (by kernel_rfl) (by kernel_rfl) (by kernel_rfl) (fun _ _ _ _ h => h) (by kernel_rfl) (fun U hU => exec_gload 28 _ rfl G6 (0) (by kernel_rfl) _ hU.1 Tryd.underlying28 rfl (SZ x1 x2)) m0 ?_
          refine rgd_call 1 (some 18) (by kernel_rfl) rfl rfl (by kernel_rfl) 54 (#[.agg (dcs x1 x2)]) (by kernel_rfl) (VA.out _) ?_
          rintro _ U1 ⟨rfl, bU1⟩
          have m1 := keep _ _ bU1 m0
          refine ⟨_, rfl, m1, ?_⟩
          refine rgd_pure 2 (some 19) rfl rfl (.bool true) (by kernel_rfl) (by kernel_rfl) (by kernel_rfl) (fun _ _ _ _ h => h) (by kernel_rfl) (fun w => by kernel_rfl) m1 ?_
          refine rgd_pure 3 (some 20) rfl rfl (.bool true) (by kernel_rfl) (by kernel_rfl) (by kernel_rfl) (fun _ _ _ _ h => h) (by kernel_rfl) (fun w => by kernel_rfl) m1 ?_
          refine rgd_skip 4 (some 21) rfl rfl (by kernel_rfl) (by kernel_rfl) (by kernel_rfl) (fun _ _ _ _ h => h) (by kernel_rfl) m1 ?_
          refine rgd_skip 5 (some 22) rfl rfl (by kernel_rfl) (by kernel_rfl) (by kernel_rfl) (fun _ _ _ _ h => h) (by kernel_rfl) m1 ?_
          refine rgd_skip 6 (some 23) rfl rfl (by kernel_rfl) (by kernel_rfl) (by kernel_rfl) (fun _ _ _ _ h => h) (by kernel_rfl) m1 ?_
          refine rgd_pure 7 (some 24) rfl rfl (.bool true) (by kernel_rfl) (by kernel_rfl) (by kernel_rfl) (fun _ _ _ _ h => h) (by kernel_rfl) (fun w => by kernel_rfl) m1 ?_
          refine rgd_pure 8 (some 25) rfl rfl (.bool true) (by kernel_rfl) (by kernel_rfl) (by kernel_rfl) (fun _ _ _ _ h => h) (by kernel_rfl) (fun w => by kernel_rfl) m1 ?_
          refine rgd_skip 9 (some 26) rfl rfl (by kernel_rfl) (by kernel_rfl) (by kernel_rfl) (fun _ _ _ _ h => h) (by kernel_rfl) m1 ?_
          refine rgd_skip 10 (some 27) rfl rfl (by kernel_rfl) (by kernel_rfl) (by kernel_rfl) (fun _ _ _ _ h => h) (by kernel_rfl) m1 ?_
          refine rgd_skip 11 (some 28) rfl rfl (by kernel_rfl) (by kernel_rfl) (by kernel_rfl) (fun _ _ _ _ h => h) (by kernel_rfl) m1 ?_
          refine rgd_skip 12 (some 29) rfl rfl (by kernel_rfl) (by kernel_rfl) (by kernel_rfl) (fun _ _ _ _ h => h) (by kernel_rfl) m1 ?_
          refine rgd_skip 13 (some 30) rfl rfl (by kernel_rfl) (by kernel_rfl) (by kernel_rfl) (fun _ _ _ _ h => h) (by kernel_rfl) m1 ?_
          refine rgd_skip 14 (some 31) rfl rfl (by kernel_rfl) (by kernel_rfl) (by kernel_rfl) (fun _ _ _ _ h => h) (by kernel_rfl) m1 ?_
          refine rgd_skip 15 (some 32) rfl rfl (by kernel_rfl) (by kernel_rfl) (by kernel_rfl) (fun _ _ _ _ h => h) (by kernel_rfl) m1 ?_
          refine rgd_skip 16 (some 33) rfl rfl (by kernel_rfl) (by kernel_rfl) (by kernel_rfl) (fun _ _ _ _ h => h) (by kernel_rfl) m1 ?_
          refine rgd_skip 17 (some 34) rfl rfl (by kernel_rfl) (by kernel_rfl) (by kernel_rfl) (fun _ _ _ _ h => h) (by kernel_rfl) m1 ?_
          refine rgd_skip 18 (some 35) rfl rfl (by kernel_rfl) (by kernel_rfl) (by kernel_rfl) (fun _ _ _ _ h => h) (by kernel_rfl) m1 ?_
          refine rgd_skip 19 (some 36) rfl rfl (by kernel_rfl) (by kernel_rfl) (by kernel_rfl) (fun _ _ _ _ h => h) (by kernel_rfl) m1 ?_
          refine rgd_skip 20 (some 37) rfl rfl (by kernel_rfl) (by kernel_rfl) (by kernel_rfl) (fun _ _ _ _ h => h) (by kernel_rfl) m1 ?_
          refine rgd_pure 21 (some 38) rfl rfl (.bool true) (by kernel_rfl) (by kernel_rfl) (by kernel_rfl) (fun _ _ _ _ h => h) (by kernel_rfl) (fun w => by kernel_rfl) m1 ?_
          have BU := Lib.hid m1.2.2.2
          have KE : K2 { tmps := #[.slice (some ⟨b1, o1, none⟩) n c, .agg (dcs y1 y2), undef, .pointer (some ⟨g3, 0, none⟩), u4, .int .i64 (k : Int), .pointer (some ⟨G6, 0, none⟩), .slice (some ⟨b1, o1, none⟩) n c, .int .i64 (n : Int), .bool (decide (120 < (n : Int))), .slice (some ⟨b1, o1, none⟩) n c, .int .i64 (n : Int), .int .i64 (k : Int), .bool true, .int .i64 (k : Int), .pointer (some ⟨b1, o1 + k * 2, none⟩), .agg #[.int .i64 x1, .int .i64 x2], .agg #[.int .i64 x1, .int .i64 x2], .bool false, .bool true, .bool true, undef, undef, undef, .bool true, .bool true, undef, undef, undef, undef, undef, undef, undef, undef, undef, undef, undef, undef, .bool true, u39], defers := [] } U1 := by
            refine hK2 _ _ ?_
            clear hK2 keep m0 m1
            go_wp2
            go_ret
            exact ⟨rfl, thenBelow B1.out BU.out⟩
          exact wpAnyH_done (by kernel_rfl) (Eq.mp (by kernel_rfl) KE) _
        | true =>
          have VA := Lib.hid (fun W : World => valid_is x1 x2 W)
          rw [hv] at VA
          have HV := Lib.hid hv
          clear hv
          by_cases he : ((x1, x2) : Dt) = (y1, y2)
          · have EQ := Lib.hid ((eqDt_iff _ _).2 he)
            have hf : b = false := by rw [← HB.out]; exact go_bad hk1 (.inr (by rw [HX.out]; exact he))
            subst hf
            clear he
            refine rg_calm (by kernel_rfl) rfl (S := fun U => U.rangeAt G6 0 [.int .i64 x1, .int .i64 x2] ∧ U.rangeAt g3 0 [.int .i64 y1, .int .i64 y2] ∧ U.rangeAt b1 0 [] ∧ Below w1.heap.size w1 U) ?_
            have m0 := And.intro N6.out (And.intro Y6.out (And.intro (range_nil W6.drew b1 0) B6.out))
            have keep : ∀ U U' : World, Below U.heap.size U U' → U.rangeAt G6 0 [.int .i64 x1, .int .i64 x2] ∧ U.rangeAt g3 0 [.int .i64 y1, .int .i64 y2] ∧ U.rangeAt b1 0 [] ∧ Below w1.heap.size w1 U → U'.rangeAt G6 0 [.int .i64 x1, .int .i64 x2] ∧ U'.rangeAt g3 0 [.int .i64 y1, .int .i64 y2] ∧ U'.rangeAt b1 0 [] ∧ Below w1.heap.size w1 U' := fun U U' hb h => ⟨range_below h.1 hb, range_below h.2.1 hb, range_below h.2.2.1 hb, thenBelow h.2.2.2 hb⟩
            refine rgd_pureS 0 (some 17) rfl rfl (.agg #[.int .i64 x1, .int .i64 x2]) (by kernel_rfl) (by kernel_rfl) (by kernel_rfl) (fun _ _ _ _ h => h) (by kernel_rfl) (fun U hU => exec_gload 28 _ rfl G6 (0) (by kernel_rfl) _ hU.1 Tryd.underlying28 rfl (SZ x1 x2)) m0 ?_
            refine rgd_call 1 (some 18) (by kernel_rfl) rfl rfl (by kernel_rfl) 54 (#[.agg (dcs x1 x2)]) (by kernel_rfl) (VA.out _) ?_
            rintro _ U1 ⟨rfl, bU1⟩
            have m1 := keep _ _ bU1 m0
            refine ⟨_, rfl, m1, ?_⟩
            refine rgd_pure 2 (some 19) rfl rfl (.bool false) (by kernel_rfl) (by kernel_rfl) (by kernel_rfl) (fun _ _ _ _ h => h) (by kernel_rfl) (fun w => by kernel_rfl) m1 ?_
            refine rgd_pure 3 (some 20) rfl rfl (.bool false) (by kernel_rfl) (by kernel_rfl) (by kernel_rfl) (fun _ _ _ _ h => h) (by kernel_rfl) (fun w => by kernel_rfl) m1 ?_
            refine rgd_pureS 4 (some 21) rfl rfl (.agg #[.int .i64 x1, .int .i64 x2]) (by kernel_rfl) (by kernel_rfl) (by kernel_rfl) (fun _ _ _ _ h => h) (by kernel_rfl) (fun U hU => exec_gload 28 _ rfl G6 (0) (by kernel_rfl) _ hU.1 Tryd.underlying28 rfl (SZ x1 x2)) m1 ?_
            refine rgd_pureS 5 (some 22) rfl rfl (.agg #[.int .i64 y1, .int .i64 y2]) (by kernel_rfl) (by kernel_rfl) (by kernel_rfl) (fun _ _ _ _ h => h) (by kernel_rfl) (fun U hU => exec_gload 28 _ rfl g3 (0) (by kernel_rfl) _ hU.2.1 Tryd.underlying28 rfl (SZ y1 y2)) m1 ?_
            refine rgd_pure 6 (some 23) rfl rfl (.bool true) (by kernel_rfl) (by kernel_rfl) (by kernel_rfl) (fun _ _ _ _ h => h) (by kernel_rfl) (exec_eqlE _ _ _ rfl (x1, x2) (y1, y2) true EQ.out (by kernel_rfl) (by kernel_rfl)) m1 ?_
            refine rgd_pure 7 (some 24) rfl rfl (.bool true) (by kernel_rfl) (by kernel_rfl) (by kernel_rfl) (fun _ _ _ _ h => h) (by kernel_rfl) (fun w => by kernel_rfl) m1 ?_
            refine rgd_pure 8 (some 25) rfl rfl (.bool true) (by kernel_rfl) (by kernel_rfl) (by kernel_rfl) (fun _ _ _ _ h => h) (by kernel_rfl) (fun w => by kernel_rfl) m1 ?_
            refine rgd_skip 9 (some 26) rfl rfl (by kernel_rfl) (by kernel_rfl) (by kernel_rfl) (fun _ _ _ _ h => h) (by kernel_rfl) m1 ?_
            refine rgd_skip 10 (some 27) rfl rfl (by kernel_rfl) (by kernel_rfl) (by kernel_rfl) (fun _ _ _ _ h => h) (by kernel_rfl) m1 ?_
            refine rgd_skip 11 (some 28) rfl rfl (by kernel_rfl) (by kernel_rfl) (by kernel_rfl) (fun _ _ _ _ h => h) (by kernel_rfl) m1 ?_
            refine rgd_skip 12 (some 29) rfl rfl (by kernel_rfl) (by kernel_rfl) (by kernel_rfl) (fun _ _ _ _ h => h) (by kernel_rfl) m1 ?_
            refine rgd_skip 13 (some 30) rfl rfl (by kernel_rfl) (by kernel_rfl) (by kernel_rfl) (fun _ _ _ _ h => h) (by kernel_rfl) m1 ?_
            refine rgd_skip 14 (some 31) rfl rfl (by kernel_rfl) (by kernel_rfl) (by kernel_rfl) (fun _ _ _ _ h => h) (by kernel_rfl) m1 ?_
            refine rgd_skip 15 (some 32) rfl rfl (by kernel_rfl) (by kernel_rfl) (by kernel_rfl) (fun _ _ _ _ h => h) (by kernel_rfl) m1 ?_
            refine rgd_skip 16 (some 33) rfl rfl (by kernel_rfl) (by kernel_rfl) (by kernel_rfl) (fun _ _ _ _ h => h) (by kernel_rfl) m1 ?_
            refine rgd_skip 17 (some 34) rfl rfl (by kernel_rfl) (by kernel_rfl) (by kernel_rfl) (fun _ _ _ _ h => h) (by kernel_rfl) m1 ?_
            refine rgd_skip 18 (some 35) rfl rfl (by kernel_rfl) (by kernel_rfl) (by kernel_rfl) (fun _ _ _ _ h => h) (by kernel_rfl) m1 ?_
            refine rgd_skip 19 (some 36) rfl rfl (by kernel_rfl) (by kernel_rfl) (by kernel_rfl) (fun _ _ _ _ h => h) (by kernel_rfl) m1 ?_
            refine rgd_skip 20 (some 37) rfl rfl (by kernel_rfl) (by kernel_rfl) (by kernel_rfl) (fun _ _ _ _ h => h) (by kernel_rfl) m1 ?_
            refine rgd_pure 21 (some 38) rfl rfl (.bool true) (by kernel_rfl) (by kernel_rfl) (by kernel_rfl) (fun _ _ _ _ h => h) (by kernel_rfl) (fun w => by kernel_rfl) m1 ?_
            have BU := Lib.hid m1.2.2.2
            have KE : K2 { tmps := #[.slice (some ⟨b1, o1, none⟩) n c, .agg (dcs y1 y2), undef, .pointer (some ⟨g3, 0, none⟩), u4, .int .i64 (k : Int), .pointer (some ⟨G6, 0, none⟩), .slice (some ⟨b1, o1, none⟩) n c, .int .i64 (n : Int), .bool (decide (120 < (n : Int))), .slice (some ⟨b1, o1, none⟩) n c, .int .i64 (n : Int), .int .i64 (k : Int), .bool true, .int .i64 (k : Int), .pointer (some ⟨b1, o1 + k * 2, none⟩), .agg #[.int .i64 x1, .int .i64 x2], .agg #[.int .i64 x1, .int .i64 x2], .bool true, .bool false, .bool false, .agg #[.int .i64 x1, .int .i64 x2], .agg #[.int .i64 y1, .int .i64 y2], .bool true, .bool true, .bool true, undef, undef, undef, undef, undef, undef, undef, undef, undef, undef, undef, undef, .bool true, u39], defers := [] } U1 := by
              refine hK2 _ _ ?_
              clear hK2 keep m0 m1
              go_wp2
              go_ret
              exact ⟨rfl, thenBelow B1.out BU.out⟩
            exact wpAnyH_done (by kernel_rfl) (Eq.mp (by kernel_rfl) KE) _
          · have EQ := Lib.hid (eqDt_no he)
            have NA : Hid (∀ i (h : i < l.length), i < k + 1 → vl l[i] = true ∧ l[i] ≠ (y1, y2)) := Lib.hid fun i h hi => by
              rcases Nat.lt_or_ge i k with h3 | h3
              · exact HA.out i h h3
              · obtain rfl : i = k := by omega
                rw [HX.out]; exact ⟨HV.out, he⟩
            clear he
            by_cases hk0 : k = 0
            · have GK : Hid (decide ((k : Int) > 0) = false) := Lib.hid (decide_eq_false (by omega))
              have NO : Hid (∀ i (h : i + 1 < l.length), i + 1 < k + 1 → ltD l[i] l[i + 1] = true) := Lib.hid fun i h hi => by omega
              refine rg_calm (by kernel_rfl) rfl (S := fun U => U.rangeAt G6 0 [.int .i64 x1, .int .i64 x2] ∧ U.rangeAt g3 0 [.int .i64 y1, .int .i64 y2] ∧ U.rangeAt b1 0 [] ∧ Below w1.heap.size w1 U) ?_
              have m0 := And.intro N6.out (And.intro Y6.out (And.intro (range_nil W6.drew b1 0) B6.out))
              have keep : ∀ U U' : World, Below U.heap.size U U' → U.rangeAt G6 0 [.int .i64 x1, .int .i64 x2] ∧ U.rangeAt g3 0 [.int .i64 y1, .int .i64 y2] ∧ U.rangeAt b1 0 [] ∧ Below w1.heap.size w1 U → U'.rangeAt G6 0 [.int .i64 x1, .int .i64 x2] ∧ U'.rangeAt g3 0 [.int .i64 y1, .int .i64 y2] ∧ U'.rangeAt b1 0 [] ∧ Below w1.heap.size w1 U' := fun U U' hb h => ⟨range_below h.1 hb, range_below h.2.1 hb, range_below h.2.2.1 hb, thenBelow h.2.2.2 hb⟩
              refine rgd_pureS 0 (some 17) rfl rfl (.agg #[.int .i64 x1, .int .i64 x2]) (by kernel_rfl) (by kernel_rfl) (by kernel_rfl) (fun _ _ _ _ h => h) (by kernel_rfl) (fun U hU => exec_gload 28 _ rfl G6 (0) (by kernel_rfl) _ hU.1 Tryd.underlying28 rfl (SZ x1 x2)) m0 ?_
              refine rgd_call 1 (some 18) (by kernel_rfl) rfl rfl (by kernel_rfl) 54 (#[.agg (dcs x1 x2)]) (by kernel_rfl) (VA.out _) ?_
              rintro _ U1 ⟨rfl, bU1⟩
              have m1 := keep _ _ bU1 m0
              refine ⟨_, rfl, m1, ?_⟩
              refine rgd_pure 2 (some 19) rfl rfl (.bool false) (by kernel_rfl) (by kernel_rfl) (by kernel_rfl) (fun _ _ _ _ h => h) (by kernel_rfl) (fun w => by kernel_rfl) m1 ?_
              refine rgd_pure 3 (some 20) rfl rfl (.bool false) (by kernel_rfl) (by kernel_rfl) (by kernel_rfl) (fun _ _ _ _ h => h) (by kernel_rfl) (fun w => by kernel_rfl) m1 ?_
              refine rgd_pureS 4 (some 21) rfl rfl (.agg #[.int .i64 x1, .int .i64 x2]) (by kernel_rfl) (by kernel_rfl) (by kernel_rfl) (fun _ _ _ _ h => h) (by kernel_rfl) (fun U hU => exec_gload 28 _ rfl G6 (0) (by kernel_rfl) _ hU.1 Tryd.underlying28 rfl (SZ x1 x2)) m1 ?_
              refine rgd_pureS 5 (some 22) rfl rfl (.agg #[.int .i64 y1, .int .i64 y2]) (by kernel_rfl) (by kernel_rfl) (by kernel_rfl) (fun _ _ _ _ h => h) (by kernel_rfl) (fun U hU => exec_gload 28 _ rfl g3 (0) (by kernel_rfl) _ hU.2.1 Tryd.underlying28 rfl (SZ y1 y2)) m1 ?_
              refine rgd_pure 6 (some 23) rfl rfl (.bool false) (by kernel_rfl) (by kernel_rfl) (by kernel_rfl) (fun _ _ _ _ h => h) (by kernel_rfl) (exec_eqlE _ _ _ rfl (x1, x2) (y1, y2) false EQ.out (by kernel_rfl) (by kernel_rfl)) m1 ?_
              refine rgd_pure 7 (some 24) rfl rfl (.bool false) (by kernel_rfl) (by kernel_rfl) (by kernel_rfl) (fun _ _ _ _ h => h) (by kernel_rfl) (fun w => by kernel_rfl) m1 ?_
              refine rgd_pure 8 (some 25) rfl rfl (.bool false) (by kernel_rfl) (by kernel_rfl) (by kernel_rfl) (fun _ _ _ _ h => h) (by kernel_rfl) (fun w => by kernel_rfl) m1 ?_
              refine rgd_pure 9 (some 26) rfl rfl (.int .i64 (k : Int)) (by kernel_rfl) (by kernel_rfl) (by kernel_rfl) (fun _ _ _ _ h => h) (by kernel_rfl) (fun w => by kernel_rfl) m1 ?_
              refine rgd_pure 10 (some 27) rfl rfl (.bool false) (by kernel_rfl) (by kernel_rfl) (by kernel_rfl) (fun _ _ _ _ h => h) (by kernel_rfl) (exec_gtrB _ _ _ _ rfl (k : Int) 0 false GK.out (by kernel_rfl) (by kernel_rfl)) m1 ?_
              refine rgd_pure 11 (some 28) rfl rfl (.bool false) (by kernel_rfl) (by kernel_rfl) (by kernel_rfl) (fun _ _ _ _ h => h) (by kernel_rfl) (fun w => by kernel_rfl) m1 ?_
              refine rgd_skip 12 (some 29) rfl rfl (by kernel_rfl) (by kernel_rfl) (by kernel_rfl) (fun _ _ _ _ h => h) (by kernel_rfl) m1 ?_
              refine rgd_skip 13 (some 30) rfl rfl (by kernel_rfl) (by kernel_rfl) (by kernel_rfl) (fun _ _ _ _ h => h) (by kernel_rfl) m1 ?_
              refine rgd_skip 14 (some 31) rfl rfl (by kernel_rfl) (by kernel_rfl) (by kernel_rfl) (fun _ _ _ _ h => h) (by kernel_rfl) m1 ?_
              refine rgd_skip 15 (some 32) rfl rfl (by kernel_rfl) (by kernel_rfl) (by kernel_rfl) (fun _ _ _ _ h => h) (by kernel_rfl) m1 ?_
              refine rgd_skip 16 (some 33) rfl rfl (by kernel_rfl) (by kernel_rfl) (by kernel_rfl) (fun _ _ _ _ h => h) (by kernel_rfl) m1 ?_
              refine rgd_skip 17 (some 34) rfl rfl (by kernel_rfl) (by kernel_rfl) (by kernel_rfl) (fun _ _ _ _ h => h) (by kernel_rfl) m1 ?_
              refine rgd_skip 18 (some 35) rfl rfl (by kernel_rfl) (by kernel_rfl) (by kernel_rfl) (fun _ _ _ _ h => h) (by kernel_rfl) m1 ?_
              refine rgd_skip 19 (some 36) rfl rfl (by kernel_rfl) (by kernel_rfl) (by kernel_rfl) (fun _ _ _ _ h => h) (by kernel_rfl) m1 ?_
              refine rgd_pure 20 (some 37) rfl rfl (.bool false) (by kernel_rfl) (by kernel_rfl) (by kernel_rfl) (fun _ _ _ _ h => h) (by kernel_rfl) (fun w => by kernel_rfl) m1 ?_
              refine rgd_pure 21 (some 38) rfl rfl (.bool false) (by kernel_rfl) (by kernel_rfl) (by kernel_rfl) (fun _ _ _ _ h => h) (by kernel_rfl) (fun w => by kernel_rfl) m1 ?_
              have BU := Lib.hid m1.2.2.2
              have KE : K2 { tmps := #[.slice (some ⟨b1, o1, none⟩) n c, .agg (dcs y1 y2), undef, .pointer (some ⟨g3, 0, none⟩), u4, .int .i64 (k : Int), .pointer (some ⟨G6, 0, none⟩), .slice (some ⟨b1, o1, none⟩) n c, .int .i64 (n : Int), .bool (decide (120 < (n : Int))), .slice (some ⟨b1, o1, none⟩) n c, .int .i64 (n : Int), .int .i64 (k : Int), .bool true, .int .i64 (k : Int), .pointer (some ⟨b1, o1 + k * 2, none⟩), .agg #[.int .i64 x1, .int .i64 x2], .agg #[.int .i64 x1, .int .i64 x2], .bool true, .bool false, .bool false, .agg #[.int .i64 x1, .int .i64 x2], .agg #[.int .i64 y1, .int .i64 y2], .bool false, .bool false, .bool false, .int .i64 (k : Int), .bool false, .bool false, undef, undef, undef, undef, undef, undef, undef, undef, .bool false, .bool false, u39], defers := [] } U1 := by
                refine hK2 _ _ ?_
                clear hK2 keep m0 m1
                go_wp2
                go_roundw
                case rel => exact ⟨k + 1, by omega, by go_num, NA.out, NO.out, BU.out⟩
                case measure => simp [intOf]; omega
              exact wpAnyH_done (by kernel_rfl) (Eq.mp (by kernel_rfl) KE) _
            · have GK : Hid (decide ((k : Int) > 0) = true) := Lib.hid (decide_eq_true (by omega))
              obtain ⟨j, hj⟩ : ∃ j, k = j + 1 := ⟨k - 1, by omega⟩
              have hjl : j < l.length := by omega
              have hjn : j < n := by omega
              have SB : Hid (IntKind.i64.wrap ((k : Int) - 1) = (j : Int)) := Lib.hid (by rw [IntWalk.i64_in _ (by omega)]; omega)
              obtain ⟨b2, o2, hpe, q1⟩ := drow_at L6.out hjl
              have hpe2 : b2 = b1 ∧ o2 = o1 := by injection hpe with hpe; injection hpe with h1 h2; exact ⟨h1.symm, h2.symm⟩
              obtain ⟨rfl, rfl⟩ := hpe2
              obtain ⟨⟨z1, z2⟩, hz⟩ : ∃ z, l[j] = z := ⟨_, rfl⟩
              have HZ := Lib.hid hz
              rw [hz] at q1
              have Q3 := Lib.hid q1
              clear hz q1 hpe
              simp only at Q3
              have HLT : Hid (ltD l[j] l[k] = lessD z1 z2 x1 x2) := Lib.hid (by rw [HZ.out, HX.out]; rfl)
              have HJ := Lib.hid hj
              cases hlt : lessD z1 z2 x1 x2 with
              | false =>
                have GE : Hid (decide (cmpD z1 z2 x1 x2 ≥ 0) = true) := Lib.hid (by
                  have := cmpD_lt z1 z2 x1 x2
                  rw [hlt] at this
                  exact decide_eq_true (by have := of_decide_eq_false this; omega))
                have hf : b = false := by
                  rw [← HB.out]
                  refine go_order (k := j) (by omega) ?_
                  have h1 := HLT.out
                  rw [hlt] at h1
                  simpa only [hj] using h1
                subst hf
                clear hlt hj HLT
                refine rg_calm (by kernel_rfl) rfl (S := fun U => U.rangeAt G6 0 [.int .i64 x1, .int .i64 x2] ∧ U.rangeAt g3 0 [.int .i64 y1, .int .i64 y2] ∧ U.rangeAt b2 (o2 + j * 2) [.int .i64 z1, .int .i64 z2] ∧ Below w1.heap.size w1 U) ?_
                have m0 := And.intro N6.out (And.intro Y6.out (And.intro Q3.out B6.out))
                have keep : ∀ U U' : World, Below U.heap.size U U' → U.rangeAt G6 0 [.int .i64 x1, .int .i64 x2] ∧ U.rangeAt g3 0 [.int .i64 y1, .int .i64 y2] ∧ U.rangeAt b2 (o2 + j * 2) [.int .i64 z1, .int .i64 z2] ∧ Below w1.heap.size w1 U → U'.rangeAt G6 0 [.int .i64 x1, .int .i64 x2] ∧ U'.rangeAt g3 0 [.int .i64 y1, .int .i64 y2] ∧ U'.rangeAt b2 (o2 + j * 2) [.int .i64 z1, .int .i64 z2] ∧ Below w1.heap.size w1 U' := fun U U' hb h => ⟨range_below h.1 hb, range_below h.2.1 hb, range_below h.2.2.1 hb, thenBelow h.2.2.2 hb⟩
                refine rgd_pureS 0 (some 17) rfl rfl (.agg #[.int .i64 x1, .int .i64 x2]) (by kernel_rfl) (by kernel_rfl) (by kernel_rfl) (fun _ _ _ _ h => h) (by kernel_rfl) (fun U hU => exec_gload 28 _ rfl G6 (0) (by kernel_rfl) _ hU.1 Tryd.underlying28 rfl (SZ x1 x2)) m0 ?_
                refine rgd_call 1 (some 18) (by kernel_rfl) rfl rfl (by kernel_rfl) 54 (#[.agg (dcs x1 x2)]) (by kernel_rfl) (VA.out _) ?_
                rintro _ U1 ⟨rfl, bU1⟩
                have m1 := keep _ _ bU1 m0
                refine ⟨_, rfl, m1, ?_⟩
                refine rgd_pure 2 (some 19) rfl rfl (.bool false) (by kernel_rfl) (by kernel_rfl) (by kernel_rfl) (fun _ _ _ _ h => h) (by kernel_rfl) (fun w => by kernel_rfl) m1 ?_
                refine rgd_pure 3 (some 20) rfl rfl (.bool false) (by kernel_rfl) (by kernel_rfl) (by kernel_rfl) (fun _ _ _ _ h => h) (by kernel_rfl) (fun w => by kernel_rfl) m1 ?_
                refine rgd_pureS 4 (some 21) rfl rfl (.agg #[.int .i64 x1, .int .i64 x2]) (by kernel_rfl) (by kernel_rfl) (by kernel_rfl) (fun _ _ _ _ h => h) (by kernel_rfl) (fun U hU => exec_gload 28 _ rfl G6 (0) (by kernel_rfl) _ hU.1 Tryd.underlying28 rfl (SZ x1 x2)) m1 ?_
                refine rgd_pureS 5 (some 22) rfl rfl (.agg #[.int .i64 y1, .int .i64 y2]) (by kernel_rfl) (by kernel_rfl) (by kernel_rfl) (fun _ _ _ _ h => h) (by kernel_rfl) (fun U hU => exec_gload 28 _ rfl g3 (0) (by kernel_rfl) _ hU.2.1 Tryd.underlying28 rfl (SZ y1 y2)) m1 ?_
                refine rgd_pure 6 (some 23) rfl rfl (.bool false) (by kernel_rfl) (by kernel_rfl) (by kernel_rfl) (fun _ _ _ _ h => h) (by kernel_rfl) (exec_eqlE _ _ _ rfl (x1, x2) (y1, y2) false EQ.out (by kernel_rfl) (by kernel_rfl)) m1 ?_
                refine rgd_pure 7 (some 24) rfl rfl (.bool false) (by kernel_rfl) (by kernel_rfl) (by kernel_rfl) (fun _ _ _ _ h => h) (by kernel_rfl) (fun w => by kernel_rfl) m1 ?_
                refine rgd_pure 8 (some 25) rfl rfl (.bool false) (by kernel_rfl) (by kernel_rfl) (by kernel_rfl) (fun _ _ _ _ h => h) (by kernel_rfl) (fun w => by kernel_rfl) m1 ?_
                refine rgd_pure 9 (some 26) rfl rfl (.int .i64 (k : Int)) (by kernel_rfl) (by kernel_rfl) (by kernel_rfl) (fun _ _ _ _ h => h) (by kernel_rfl) (fun w => by kernel_rfl) m1 ?_
                refine rgd_pure 10 (some 27) rfl rfl (.bool true) (by kernel_rfl) (by kernel_rfl) (by kernel_rfl) (fun _ _ _ _ h => h) (by kernel_rfl) (exec_gtrB _ _ _ _ rfl (k : Int) 0 true GK.out (by kernel_rfl) (by kernel_rfl)) m1 ?_
                refine rgd_pure 11 (some 28) rfl rfl (.bool true) (by kernel_rfl) (by kernel_rfl) (by kernel_rfl) (fun _ _ _ _ h => h) (by kernel_rfl) (fun w => by kernel_rfl) m1 ?_
                refine rgd_pure 12 (some 29) rfl rfl (.slice (some ⟨b2, o2, none⟩) n c) (by kernel_rfl) (by kernel_rfl) (by kernel_rfl) (fun _ _ _ _ h => h) (by kernel_rfl) (fun w => by kernel_rfl) m1 ?_
                refine rgd_pure 13 (some 30) rfl rfl (.int .i64 (k : Int)) (by kernel_rfl) (by kernel_rfl) (by kernel_rfl) (fun _ _ _ _ h => h) (by kernel_rfl) (fun w => by kernel_rfl) m1 ?_
                refine rgd_pure 14 (some 31) rfl rfl (.int .i64 (j : Int)) (by kernel_rfl) (by kernel_rfl) (by kernel_rfl) (fun _ _ _ _ h => h) (by kernel_rfl) (exec_subI _ _ _ _ rfl (k : Int) 1 (j : Int) SB.out (by kernel_rfl) (by kernel_rfl)) m1 ?_
                refine rgd_pure 15 (some 32) rfl rfl (.pointer (some ⟨b2, o2 + j * 2, none⟩)) (by kernel_rfl) (by kernel_rfl) (by kernel_rfl) (fun _ _ _ _ h => h) (by kernel_rfl) (exec_idxD _ _ rfl b2 o2 n c j (by kernel_rfl) (by kernel_rfl) hjn) m1 ?_
                refine rgd_pureS 16 (some 33) rfl rfl (.agg #[.int .i64 z1, .int .i64 z2]) (by kernel_rfl) (by kernel_rfl) (by kernel_rfl) (fun _ _ _ _ h => h) (by kernel_rfl) (fun U hU => exec_gload 28 _ rfl b2 (o2 + j * 2) (by kernel_rfl) _ hU.2.2.1 Tryd.underlying28 rfl (SZ z1 z2)) m1 ?_
                refine rgd_pureS 17 (some 34) rfl rfl (.agg #[.int .i64 x1, .int .i64 x2]) (by kernel_rfl) (by kernel_rfl) (by kernel_rfl) (fun _ _ _ _ h => h) (by kernel_rfl) (fun U hU => exec_gload 28 _ rfl G6 (0) (by kernel_rfl) _ hU.1 Tryd.underlying28 rfl (SZ x1 x2)) m1 ?_
                refine rgd_call 18 (some 35) (by kernel_rfl) rfl rfl (by kernel_rfl) 65 (#[.agg #[.int .i64 z1, .int .i64 z2], .agg #[.int .i64 x1, .int .i64 x2]]) (by kernel_rfl) (dotCompare_is z1 z2 x1 x2 _) ?_
                rintro _ U2 ⟨rfl, bU2⟩
                have m2 := keep _ _ bU2 m1
                refine ⟨_, rfl, m2, ?_⟩
                refine rgd_pure 19 (some 36) rfl rfl (.bool true) (by kernel_rfl) (by kernel_rfl) (by kernel_rfl) (fun _ _ _ _ h => h) (by kernel_rfl) (exec_geqB _ _ _ _ rfl (cmpD z1 z2 x1 x2) 0 true GE.out (by kernel_rfl) (by kernel_rfl)) m2 ?_
                refine rgd_pure 20 (some 37) rfl rfl (.bool true) (by kernel_rfl) (by kernel_rfl) (by kernel_rfl) (fun _ _ _ _ h => h) (by kernel_rfl) (fun w => by kernel_rfl) m2 ?_
                refine rgd_pure 21 (some 38) rfl rfl (.bool true) (by kernel_rfl) (by kernel_rfl) (by kernel_rfl) (fun _ _ _ _ h => h) (by kernel_rfl) (fun w => by kernel_rfl) m2 ?_
                have BU := Lib.hid m2.2.2.2
                have KE : K2 { tmps := #[.slice (some ⟨b2, o2, none⟩) n c, .agg (dcs y1 y2), undef, .pointer (some ⟨g3, 0, none⟩), u4, .int .i64 (k : Int), .pointer (some ⟨G6, 0, none⟩), .slice (some ⟨b2, o2, none⟩) n c, .int .i64 (n : Int), .bool (decide (120 < (n : Int))), .slice (some ⟨b2, o2, none⟩) n c, .int .i64 (n : Int), .int .i64 (k : Int), .bool true, .int .i64 (k : Int), .pointer (some ⟨b2, o2 + k * 2, none⟩), .agg #[.int .i64 x1, .int .i64 x2], .agg #[.int .i64 x1, .int .i64 x2], .bool true, .bool false, .bool false, .agg #[.int .i64 x1, .int .i64 x2], .agg #[.int .i64 y1, .int .i64 y2], .bool false, .bool false, .bool false, .int .i64 (k : Int), .bool true, .bool true, .slice (some ⟨b2, o2, none⟩) n c, .int .i64 (k : Int), .int .i64 (j : Int), .pointer (some ⟨b2, o2 + j * 2, none⟩), .agg #[.int .i64 z1, .int .i64 z2], .agg #[.int .i64 x1, .int .i64 x2], .int .i64 (cmpD z1 z2 x1 x2), .bool true, .bool true, .bool true, u39], defers := [] } U2 := by
                  refine hK2 _ _ ?_
                  clear hK2 keep m0 m1 m2
                  go_wp2
                  go_ret
                  exact ⟨rfl, thenBelow B1.out BU.out⟩
                exact wpAnyH_done (by kernel_rfl) (Eq.mp (by kernel_rfl) KE) _
              | true =>
                have GE : Hid (decide (cmpD z1 z2 x1 x2 ≥ 0) = false) := Lib.hid (by
                  have := cmpD_lt z1 z2 x1 x2
                  rw [hlt] at this
                  exact decide_eq_false (by have := of_decide_eq_true this; omega))
                have NO : Hid (∀ i (h : i + 1 < l.length), i + 1 < k + 1 → ltD l[i] l[i + 1] = true) := Lib.hid fun i h hi => by
                  rcases Nat.lt_or_ge (i + 1) k with h3 | h3
                  · exact HO.out i h h3
                  · obtain rfl : i = j := by omega
                    have h1 := HLT.out
                    rw [hlt] at h1
                    simpa only [hj] using h1
                clear hlt hj HLT
                refine rg_calm (by kernel_rfl) rfl (S := fun U => U.rangeAt G6 0 [.int .i64 x1, .int .i64 x2] ∧ U.rangeAt g3 0 [.int .i64 y1, .int .i64 y2] ∧ U.rangeAt b2 (o2 + j * 2) [.int .i64 z1, .int .i64 z2] ∧ Below w1.heap.size w1 U) ?_
                have m0 := And.intro N6.out (And.intro Y6.out (And.intro Q3.out B6.out))
                have keep : ∀ U U' : World, Below U.heap.size U U' → U.rangeAt G6 0 [.int .i64 x1, .int .i64 x2] ∧ U.rangeAt g3 0 [.int .i64 y1, .int .i64 y2] ∧ U.rangeAt b2 (o2 + j * 2) [.int .i64 z1, .int .i64 z2] ∧ Below w1.heap.size w1 U → U'.rangeAt G6 0 [.int .i64 x1, .int .i64 x2] ∧ U'.rangeAt g3 0 [.int .i64 y1, .int .i64 y2] ∧ U'.rangeAt b2 (o2 + j * 2) [.int .i64 z1, .int .i64 z2] ∧ Below w1.heap.size w1 U' := fun U U' hb h => ⟨range_below h.1 hb, range_below h.2.1 hb, range_below h.2.2.1 hb, thenBelow h.2.2.2 hb⟩
                refine rgd_pureS 0 (some 17) rfl rfl (.agg #[.int .i64 x1, .int .i64 x2]) (by kernel_rfl) (by kernel_rfl) (by kernel_rfl) (fun _ _ _ _ h => h) (by kernel_rfl) (fun U hU => exec_gload 28 _ rfl G6 (0) (by kernel_rfl) _ hU.1 Tryd.underlying28 rfl (SZ x1 x2)) m0 ?_
                refine rgd_call 1 (some 18) (by kernel_rfl) rfl rfl (by kernel_rfl) 54 (#[.agg (dcs x1 x2)]) (by kernel_rfl) (VA.out _) ?_
                rintro _ U1 ⟨rfl, bU1⟩
                have m1 := keep _ _ bU1 m0
                refine ⟨_, rfl, m1, ?_⟩
                refine rgd_pure 2 (some 19) rfl rfl (.bool false) (by kernel_rfl) (by kernel_rfl) (by kernel_rfl) (fun _ _ _ _ h => h) (by kernel_rfl) (fun w => by kernel_rfl) m1 ?_
                refine rgd_pure 3 (some 20) rfl rfl (.bool false) (by kernel_rfl) (by kernel_rfl) (by kernel_rfl) (fun _ _ _ _ h => h) (by kernel_rfl) (fun w => by kernel_rfl) m1 ?_
                refine rgd_pureS 4 (some 21) rfl rfl (.agg #[.int .i64 x1, .int .i64 x2]) (by kernel_rfl) (by kernel_rfl) (by kernel_rfl) (fun _ _ _ _ h => h) (by kernel_rfl) (fun U hU => exec_gload 28 _ rfl G6 (0) (by kernel_rfl) _ hU.1 Tryd.underlying28 rfl (SZ x1 x2)) m1 ?_
                refine rgd_pureS 5 (some 22) rfl rfl (.agg #[.int .i64 y1, .int .i64 y2]) (by kernel_rfl) (by kernel_rfl) (by kernel_rfl) (fun _ _ _ _ h => h) (by kernel_rfl) (fun U hU => exec_gload 28 _ rfl g3 (0) (by kernel_rfl) _ hU.2.1 Tryd.underlying28 rfl (SZ y1 y2)) m1 ?_
                refine rgd_pure 6 (some 23) rfl rfl (.bool false) (by kernel_rfl) (by kernel_rfl) (by kernel_rfl) (fun _ _ _ _ h => h) (by kernel_rfl) (exec_eqlE _ _ _ rfl (x1, x2) (y1, y2) false EQ.out (by kernel_rfl) (by kernel_rfl)) m1 ?_
                refine rgd_pure 7 (some 24) rfl rfl (.bool false) (by kernel_rfl) (by kernel_rfl) (by kernel_rfl) (fun _ _ _ _ h => h) (by kernel_rfl) (fun w => by kernel_rfl) m1 ?_
                refine rgd_pure 8 (some 25) rfl rfl (.bool false) (by kernel_rfl) (by kernel_rfl) (by kernel_rfl) (fun _ _ _ _ h => h) (by kernel_rfl) (fun w => by kernel_rfl) m1 ?_
                refine rgd_pure 9 (some 26) rfl rfl (.int .i64 (k : Int)) (by kernel_rfl) (by kernel_rfl) (by kernel_rfl) (fun _ _ _ _ h => h) (by kernel_rfl) (fun w => by kernel_rfl) m1 ?_
                refine rgd_pure 10 (some 27) rfl rfl (.bool true) (by kernel_rfl) (by kernel_rfl) (by kernel_rfl) (fun _ _ _ _ h => h) (by kernel_rfl) (exec_gtrB _ _ _ _ rfl (k : Int) 0 true GK.out (by kernel_rfl) (by kernel_rfl)) m1 ?_
                refine rgd_pure 11 (some 28) rfl rfl (.bool true) (by kernel_rfl) (by kernel_rfl) (by kernel_rfl) (fun _ _ _ _ h => h) (by kernel_rfl) (fun w => by kernel_rfl) m1 ?_
                refine rgd_pure 12 (some 29) rfl rfl (.slice (some ⟨b2, o2, none⟩) n c) (by kernel_rfl) (by kernel_rfl) (by kernel_rfl) (fun _ _ _ _ h => h) (by kernel_rfl) (fun w => by kernel_rfl) m1 ?_
                refine rgd_pure 13 (some 30) rfl rfl (.int .i64 (k : Int)) (by kernel_rfl) (by kernel_rfl) (by kernel_rfl) (fun _ _ _ _ h => h) (by kernel_rfl) (fun w => by kernel_rfl) m1 ?_
                refine rgd_pure 14 (some 31) rfl rfl (.int .i64 (j : Int)) (by kernel_rfl) (by kernel_rfl) (by kernel_rfl) (fun _ _ _ _ h => h) (by kernel_rfl) (exec_subI _ _ _ _ rfl (k : Int) 1 (j : Int) SB.out (by kernel_rfl) (by kernel_rfl)) m1 ?_
                refine rgd_pure 15 (some 32) rfl rfl (.pointer (some ⟨b2, o2 + j * 2, none⟩)) (by kernel_rfl) (by kernel_rfl) (by kernel_rfl) (fun _ _ _ _ h => h) (by kernel_rfl) (exec_idxD _ _ rfl b2 o2 n c j (by kernel_rfl) (by kernel_rfl) hjn) m1 ?_
                refine rgd_pureS 16 (some 33) rfl rfl (.agg #[.int .i64 z1, .int .i64 z2]) (by kernel_rfl) (by kernel_rfl) (by kernel_rfl) (fun _ _ _ _ h => h) (by kernel_rfl) (fun U hU => exec_gload 28 _ rfl b2 (o2 + j * 2) (by kernel_rfl) _ hU.2.2.1 Tryd.underlying28 rfl (SZ z1 z2)) m1 ?_
                refine rgd_pureS 17 (some 34) rfl rfl (.agg #[.int .i64 x1, .int .i64 x2]) (by kernel_rfl) (by kernel_rfl) (by kernel_rfl) (fun _ _ _ _ h => h) (by kernel_rfl) (fun U hU => exec_gload 28 _ rfl G6 (0) (by kernel_rfl) _ hU.1 Tryd.underlying28 rfl (SZ x1 x2)) m1 ?_
                refine rgd_call 18 (some 35) (by kernel_rfl) rfl rfl (by kernel_rfl) 65 (#[.agg #[.int .i64 z1, .int .i64 z2], .agg #[.int .i64 x1, .int .i64 x2]]) (by kernel_rfl) (dotCompare_is z1 z2 x1 x2 _) ?_
                rintro _ U2 ⟨rfl, bU2⟩
                have m2 := keep _ _ bU2 m1
                refine ⟨_, rfl, m2, ?_⟩
                refine rgd_pure 19 (some 36) rfl rfl (.bool false) (by kernel_rfl) (by kernel_rfl) (by kernel_rfl) (fun _ _ _ _ h => h) (by kernel_rfl) (exec_geqB _ _ _ _ rfl (cmpD z1 z2 x1 x2) 0 false GE.out (by kernel_rfl) (by kernel_rfl)) m2 ?_
                refine rgd_pure 20 (some 37) rfl rfl (.bool false) (by kernel_rfl) (by kernel_rfl) (by kernel_rfl) (fun _ _ _ _ h => h) (by kernel_rfl) (fun w => by kernel_rfl) m2 ?_
                refine rgd_pure 21 (some 38) rfl rfl (.bool false) (by kernel_rfl) (by kernel_rfl) (by kernel_rfl) (fun _ _ _ _ h => h) (by kernel_rfl) (fun w => by kernel_rfl) m2 ?_
                have BU := Lib.hid m2.2.2.2
                have KE : K2 { tmps := #[.slice (some ⟨b2, o2, none⟩) n c, .agg (dcs y1 y2), undef, .pointer (some ⟨g3, 0, none⟩), u4, .int .i64 (k : Int), .pointer (some ⟨G6, 0, none⟩), .slice (some ⟨b2, o2, none⟩) n c, .int .i64 (n : Int), .bool (decide (120 < (n : Int))), .slice (some ⟨b2, o2, none⟩) n c, .int .i64 (n : Int), .int .i64 (k : Int), .bool true, .int .i64 (k : Int), .pointer (some ⟨b2, o2 + k * 2, none⟩), .agg #[.int .i64 x1, .int .i64 x2], .agg #[.int .i64 x1, .int .i64 x2], .bool true, .bool false, .bool false, .agg #[.int .i64 x1, .int .i64 x2], .agg #[.int .i64 y1, .int .i64 y2], .bool false, .bool false, .bool false, .int .i64 (k : Int), .bool true, .bool true, .slice (some ⟨b2, o2, none⟩) n c, .int .i64 (k : Int), .int .i64 (j : Int), .pointer (some ⟨b2, o2 + j * 2, none⟩), .agg #[.int .i64 z1, .int .i64 z2], .agg #[.int .i64 x1, .int .i64 x2], .int .i64 (cmpD z1 z2 x1 x2), .bool false, .bool false, .bool false, u39], defers := [] } U2 := by
                  refine hK2 _ _ ?_
                  clear hK2 keep m0 m1 m2
                  go_wp2
                  go_roundw
                  case rel => exact ⟨k + 1, by omega, by go_num, NA.out, NO.out, BU.out⟩
                  case measure => simp [intOf]; omega
                exact wpAnyH_done (by kernel_rfl) (Eq.mp (by kernel_rfl) KE) _
      · obtain rfl : k = n := by omega
        have hkl' : ¬ ((k : Nat) : Int) < k := by omega
        have ht : b = true := by
          rw [← HB.out]
          exact goB_iff.2 ⟨by rw [HN.out]; omega, fun i h => HA.out i h (by rw [← HN.out]; exact h), fun i h => HO.out i h (by rw [← HN.out]; exact h)⟩
        subst ht
        go_wp2
        go_ret
        exact ⟨rfl, thenBelow B1.out BB.out⟩
set_option maxRecDepth 1000000

/-- may this be, but for what it writes? -/
noncomputable def headB (e : Ev) : Bool := vldB e.rep e.n && decide (1 ≤ e.time ∧ e.time ≤ 1099511627776) && nameB e.doc && goB e.gone (e.rep, e.n)
/-- why an event may not be -/
noncomputable def chk (e : Ev) : Int := if headB e then (if e.kind = 1 then txtE e.field e.text else if e.kind = 2 ∧ e.field = 0 ∧ e.text.size = 0 then 0 else 1) else 1
theorem chk_no {e : Ev} (h : headB e = false) : chk e = 1 := by unfold chk; rw [h]; rfl
theorem chk_put {e : Ev} (h : headB e = true) (hk : e.kind = 1) : chk e = txtE e.field e.text := by unfold chk; rw [h, if_pos rfl, if_pos hk]
theorem chk_drop {e : Ev} (h : headB e = true) (hk : e.kind = 2) (hf : e.field = 0) (ht : e.text.size = 0) : chk e = 0 := by unfold chk; rw [h, if_pos rfl, if_neg (by omega), if_pos ⟨hk, hf, ht⟩]
theorem chk_else {e : Ev} (hk : e.kind ≠ 1) (h2 : ¬ (e.kind = 2 ∧ e.field = 0 ∧ e.text.size = 0)) : chk e = 1 := by
  unfold chk
  rw [if_neg hk, if_neg h2]
  split <;> rfl
theorem head_iff (e : Ev) : headB e = true ↔ vldB e.rep e.n = true ∧ (1 ≤ e.time ∧ e.time ≤ 1099511627776) ∧ nameB e.doc = true ∧ goB e.gone (e.rep, e.n) = true := by
  unfold headB
  simp only [Bool.and_eq_true, decide_eq_true_eq, and_assoc]
theorem head_no {e : Ev} (h : ¬ (vldB e.rep e.n = true ∧ (1 ≤ e.time ∧ e.time ≤ 1099511627776) ∧ nameB e.doc = true ∧ goB e.gone (e.rep, e.n) = true)) : headB e = false := by
  cases q : headB e with
  | false => rfl
  | true => exact absurd ((head_iff e).1 q) h
def Check1 (w : World) (x : Int) (e : Ending) (w' : World) : Prop := e = .returned (.int .i64 x) ∧ Below w.heap.size w w'
set_option maxHeartbeats 8000000 in
theorem check_is (x : EvP) (w : World) (hx : x.Ok w) (hT : Shapes w) :
    Calls Tryd.prog 24 #[.agg x.cells.toArray] w (Check1 w (chk x.e)) := by
  have HX := Lib.hid hx; have HT := Lib.hid hT
  clear hx hT
  obtain ⟨X, hX⟩ : ∃ X, chk x.e = X := ⟨_, rfl⟩
  rw [hX]
  have HC := Lib.hid hX
  clear hX
  go_enter Tryd.func24, Tryd.ntmps24
  go_wp2_with (refine wpList_gbox rfl _ rfl x.cells.toArray rfl ?_)
  intro g1 w1 lg1 hg1 hb1
  have B1 := Lib.hid hb1
  have R1 := Lib.hid (range_of_block hg1)
  have R1 : Hid (w1.rangeAt g1 0 x.cells) := Lib.hid (by have := R1.out; simpa using this)
  have OKX : Hid (∀ W, Below w.heap.size w W → x.Ok W) := Lib.hid fun W hW => ⟨HX.out.1.below hW, HX.out.2⟩
  clear hg1 hb1
  obtain ⟨⟨r, n, t, kd, d, fl, tx, gn⟩, gp, gc⟩ := x
  have MG := Lib.hid (fun (W : World) (hW : Below w.heap.size w W) => mayGo_is gp gc gn r n W (OKX.out W hW).1)
  clear OKX
  simp only at HC
  obtain ⟨c0, c1, c2, c3, c4, c5, c6, c7⟩ := ev_cells R1.out
  simp only [Nat.zero_add] at c0 c1 c2 c3 c4 c5 c6 c7
  go_wp2_with fail
  refine (valid_is r n _).mono ?_
  rintro e w2 ⟨rfl, hb2⟩
  have B2 := Lib.hid (thenBelow B1.out hb2)
  have R2 := Lib.hid (range_below R1.out hb2)
  clear c0 c1 c2 c3 c4 c5 c6 c7 hb2
  obtain ⟨c0, c1, c2, c3, c4, c5, c6, c7⟩ := ev_cells R2.out
  simp only [Nat.zero_add] at c0 c1 c2 c3 c4 c5 c6 c7
  have NO : Hid (¬ (vldB r n = true ∧ (1 ≤ t ∧ t ≤ 1099511627776) ∧ nameB d = true ∧ goB gn (r, n) = true) → X = 1) := Lib.hid fun h => HC.out.symm.trans (chk_no (head_no h))
  have EL : Hid (kd ≠ 1 → ¬ (kd = 2 ∧ fl = 0 ∧ tx.size = 0) → X = 1) := Lib.hid fun h h2 => HC.out.symm.trans (chk_else h h2)
  cases hv : vldB r n with
  | false =>
    have hf := NO.out (by rw [hv]; simp)
    subst hf
    go_wp2
    go_ret
    exact ⟨rfl, B2.out⟩
  | true =>
    have HV := Lib.hid hv
    clear hv
    by_cases ht1 : t < 1
    · have hf := NO.out (by omega)
      subst hf
      go_wp2
      go_ret
      exact ⟨rfl, B2.out⟩
    · by_cases ht2 : t > 1099511627776
      · have hf := NO.out (by omega)
        subst hf
        go_wp2
        go_ret
        exact ⟨rfl, B2.out⟩
      · have DN := Lib.hid (docName_is d w2)
        go_wp2_with fail
        refine DN.out.mono ?_
        rintro e w3 ⟨rfl, rfl⟩
        clear DN
        cases hd : nameB d with
        | false =>
          have hf := NO.out (by rw [hd]; simp)
          subst hf
          clear hd
          go_wp2
          go_ret
          exact ⟨rfl, B2.out⟩
        | true =>
          have HD := Lib.hid hd
          clear hd
          go_wp2_with fail
          refine (MG.out _ B2.out).mono ?_
          rintro e w4 ⟨rfl, hb4⟩
          have B4 := Lib.hid (thenBelow B2.out hb4)
          have R4 := Lib.hid (range_below R2.out hb4)
          clear c0 c1 c2 c3 c4 c5 c6 c7 hb4 MG
          obtain ⟨c0, c1, c2, c3, c4, c5, c6, c7⟩ := ev_cells R4.out
          simp only [Nat.zero_add] at c0 c1 c2 c3 c4 c5 c6 c7
          cases hg : goB gn (r, n) with
          | false =>
            have hf := NO.out (by rw [hg]; simp)
            subst hf
            clear hg
            go_wp2
            go_ret
            exact ⟨rfl, B4.out⟩
          | true =>
            have hH : headB ⟨r, n, t, kd, d, fl, tx, gn⟩ = true := (head_iff _).2 ⟨HV.out, by constructor <;> simp only <;> omega, HD.out, hg⟩
            have HH := Lib.hid hH
            clear hH hg NO
            by_cases hk1 : kd = 1
            · subst hk1
              have hX : X = txtE fl tx := HC.out.symm.trans (chk_put HH.out rfl)
              have DT := Lib.hid (docText_is fl tx w4 (HT.out.below B4.out))
              rw [← hX] at DT
              clear hX EL HC
              go_wp2_with fail
              refine DT.out.mono ?_
              rintro e w5 ⟨rfl, rfl⟩
              go_wp2
              go_ret
              exact ⟨rfl, B4.out⟩
            · have hk1' : (kd == 1) = false := by simp [hk1]
              by_cases hk2 : kd = 2
              · subst hk2
                by_cases hf0 : fl = 0
                · subst hf0
                  by_cases ht0 : tx.size = 0
                  · have hX : X = 0 := HC.out.symm.trans (chk_drop HH.out rfl rfl ht0)
                    subst hX
                    have he : tx = ByteArray.empty := by
                      apply ByteArray.ext
                      exact Array.eq_empty_of_size_eq_zero ht0
                    subst he
                    clear HC EL
                    go_wp2
                    go_ret
                    exact ⟨rfl, B4.out⟩
                  · have hX := EL.out hk1 (by omega)
                    subst hX
                    have TS := toList_size tx
                    have f1 : tx.toList ≠ [] := fun h => by rw [h] at TS; exact ht0 TS.symm
                    have f2 : tx.toList.isEmpty = false := by simpa using f1
                    clear TS HC EL
                    go_wp2
                    go_ret
                    exact ⟨rfl, B4.out⟩
                · have hX := EL.out hk1 (by omega)
                  subst hX
                  have hf0' : (fl == 0) = false := by simp [hf0]
                  clear HC EL
                  go_wp2
                  go_ret
                  exact ⟨rfl, B4.out⟩
              · have hX := EL.out hk1 (by omega)
                subst hX
                have hk2' : (kd == 2) = false := by simp [hk2]
                clear HC EL
                go_wp2
                go_ret
                exact ⟨rfl, B4.out⟩
end Go.Proofs.YtjmglgcifekhgaaDoor
/- The plain mathematics of numbers as bytes (layer 1). No program stands here. -/
namespace Go.Proofs.YtjmglgcifekhgaaDoor.Cod
/-- how many bytes stand behind the first -/
def bh (x : Nat) : Nat :=
  if x < 128 then 0 else if x < 16384 then 1 else if x < 2097152 then 2 else if x < 268435456 then 3 else if x < 34359738368 then 4
  else if x < 4398046511104 then 5 else if x < 562949953421312 then 6 else if x < 72057594037927936 then 7 else 8
theorem bh_le (x : Nat) : bh x ≤ 8 := by unfold bh; (repeat' split) <;> omega
theorem bh_iff (x k : Nat) (hk : k < 8) : bh x ≤ k ↔ x < 2 ^ (7 + 7 * k) := by
  unfold bh
  match k, hk with
  | 0, _ => simp only [Nat.reduceMul, Nat.reduceAdd, Nat.reducePow]; (repeat' split) <;> omega
  | 1, _ => simp only [Nat.reduceMul, Nat.reduceAdd, Nat.reducePow]; (repeat' split) <;> omega
  | 2, _ => simp only [Nat.reduceMul, Nat.reduceAdd, Nat.reducePow]; (repeat' split) <;> omega
  | 3, _ => simp only [Nat.reduceMul, Nat.reduceAdd, Nat.reducePow]; (repeat' split) <;> omega
  | 4, _ => simp only [Nat.reduceMul, Nat.reduceAdd, Nat.reducePow]; (repeat' split) <;> omega
  | 5, _ => simp only [Nat.reduceMul, Nat.reduceAdd, Nat.reducePow]; (repeat' split) <;> omega
  | 6, _ => simp only [Nat.reduceMul, Nat.reduceAdd, Nat.reducePow]; (repeat' split) <;> omega
  | 7, _ => simp only [Nat.reduceMul, Nat.reduceAdd, Nat.reducePow]; (repeat' split) <;> omega
theorem bh_div (x k : Nat) (hk : k < 8) : x / 2 ^ (7 + 7 * k) = 0 ↔ bh x ≤ k := by
  rw [bh_iff x k hk]
  constructor
  · intro h
    rcases Nat.lt_or_ge x (2 ^ (7 + 7 * k)) with h1 | h1
    · exact h1
    · have := Nat.div_pos h1 (Nat.two_pow_pos _); omega
  · exact fun h => Nat.div_eq_of_lt h

/-- the last k bytes of a number, the highest first -/
def dig : Nat → Nat → List UInt8
  | 0, _ => []
  | k + 1, x => UInt8.ofNat (x / 256 ^ k) :: dig k x
theorem dig_length (k x : Nat) : (dig k x).length = k := by induction k with | zero => rfl | succ k ih => simp [dig, ih]
theorem dig_get (k x i : Nat) (hi : i < k) : (dig k x).getD i 0 = UInt8.ofNat (x / 256 ^ (k - 1 - i)) := by
  induction k generalizing i with
  | zero => omega
  | succ k ih =>
    match i with
    | 0 => simp [dig]
    | i + 1 =>
      have := ih i (by omega)
      simp only [dig, List.getD_cons_succ]
      rw [this, show k + 1 - 1 - (i + 1) = k - 1 - i from by omega]

def head (x k : Nat) : Nat := 256 - 2 ^ (8 - k) + x / 256 ^ k
def enc (x : Nat) : List UInt8 := UInt8.ofNat (head x (bh x)) :: dig (bh x) x
theorem enc_length (x : Nat) : (enc x).length = bh x + 1 := by simp [enc, dig_length]
theorem pow256 (k : Nat) : 256 ^ k = 2 ^ (8 * k) := by rw [show (256 : Nat) = 2 ^ 8 from rfl, ← Nat.pow_mul]
theorem enc_get (x i : Nat) (hi : i < bh x) : (enc x).getD (i + 1) 0 = UInt8.ofNat (x / 2 ^ (8 * (bh x - 1 - i))) := by
  unfold enc; rw [List.getD_cons_succ, dig_get _ _ _ hi, pow256]
/-- the first byte's own part is small -/
theorem top_lt (x : Nat) (hx : x < 18446744073709551616) (k : Nat) (hk : k = bh x) : x / 256 ^ k < 2 ^ (7 - k) ∨ (k = 8 ∧ x / 256 ^ k = 0) := by
  have h8 := bh_le x
  by_cases h : k = 8
  · right; subst h
    exact ⟨rfl, Nat.div_eq_of_lt (by rw [pow256]; exact hx)⟩
  · left
    have h1 := (bh_iff x k (by omega)).1 (by omega)
    rw [pow256]
    refine Nat.div_lt_of_lt_mul ?_
    rw [← Nat.pow_add, show 8 * k + (7 - k) = 7 + 7 * k from by omega]
    exact h1
theorem pow_parts (k : Nat) (hk : k ≤ 8) : 1 ≤ 2 ^ (8 - k) ∧ 2 ^ (8 - k) ≤ 256 ∧ (k ≤ 7 → 2 ^ (8 - k) = 2 * 2 ^ (7 - k)) := by
  refine ⟨Nat.one_le_two_pow, ?_, fun h => ?_⟩
  · exact Nat.pow_le_pow_right (n := 2) (by omega) (show 8 - k ≤ 8 by omega)
  · rw [show 8 - k = (7 - k) + 1 from by omega, Nat.pow_succ, Nat.mul_comm]
theorem head_lt (x : Nat) (hx : x < 18446744073709551616) : head x (bh x) < 256 := by
  have h8 := bh_le x
  obtain ⟨p1, p2, p3⟩ := pow_parts (bh x) h8
  unfold head
  rcases top_lt x hx _ rfl with h | ⟨h, e⟩
  · rcases Nat.lt_or_ge (bh x) 8 with h7 | h7
    · have := p3 (by omega); omega
    · have e7 : bh x = 8 := by omega
      rw [e7] at h ⊢; simp at h ⊢; omega
  · rw [e]; omega
/-- put together by bits -/
theorem head_or (x : Nat) (hx : x < 18446744073709551616) : (255 * 2 ^ (8 - bh x) % 256) ||| (x / 2 ^ (8 * bh x) % 256) = head x (bh x) := by
  have h8 := bh_le x
  have hl := head_lt x hx
  have ht := top_lt x hx _ rfl
  unfold head at hl ⊢
  rw [← pow256]
  generalize hb : bh x = k at *
  have hd : x / 256 ^ k < 256 := by omega
  rw [Nat.mod_eq_of_lt hd]
  generalize x / 256 ^ k = t at *
  match k, h8 with
  | 0, _ => simp
  | 1, _ => simp at ht ⊢; have : 128 ||| t = 128 + t := by have := Nat.two_pow_add_eq_or_of_lt (i := 7) (b := t) (by omega) 1; simpa using this.symm
            exact this
  | 2, _ => simp at ht ⊢; have := Nat.two_pow_add_eq_or_of_lt (i := 6) (b := t) (by omega) 3; simpa using this.symm
  | 3, _ => simp at ht ⊢; have := Nat.two_pow_add_eq_or_of_lt (i := 5) (b := t) (by omega) 7; simpa using this.symm
  | 4, _ => simp at ht ⊢; have := Nat.two_pow_add_eq_or_of_lt (i := 4) (b := t) (by omega) 15; simpa using this.symm
  | 5, _ => simp at ht ⊢; have := Nat.two_pow_add_eq_or_of_lt (i := 3) (b := t) (by omega) 31; simpa using this.symm
  | 6, _ => simp at ht ⊢; have := Nat.two_pow_add_eq_or_of_lt (i := 2) (b := t) (by omega) 63; simpa using this.symm
  | 7, _ => simp at ht ⊢; have := Nat.two_pow_add_eq_or_of_lt (i := 1) (b := t) (by omega) 127; simpa using this.symm
  | 8, _ => simp at ht ⊢; rw [ht]; simp

/-! numbers that rise -/

def riseFrom : Int → List Int → Nat
  | _, [] => 0
  | last, x :: r => if last < x then riseFrom x r + 1 else 0
def riseN (l : List Int) : Nat := riseFrom (-1) l
def lastOf (l : List Int) (k : Nat) : Int := if k = 0 then -1 else l.getD (k - 1) 0
theorem riseFrom_le (last : Int) (l : List Int) : riseFrom last l ≤ l.length := by
  induction l generalizing last with
  | nil => simp [riseFrom]
  | cons x r ih => simp only [riseFrom, List.length_cons]; have := ih x; split <;> omega
theorem riseN_le (l : List Int) : riseN l ≤ l.length := riseFrom_le _ _
theorem rise_step (l : List Int) (k : Nat) (h : k ≤ riseN l) : riseN l = k + riseFrom (lastOf l k) (l.drop k) := by
  induction k with
  | zero => simp [riseN, lastOf]
  | succ k ih =>
    have h1 := ih (by omega)
    have hk : k < l.length := by have := riseN_le l; omega
    rw [List.drop_eq_getElem_cons hk, riseFrom] at h1
    have hl : lastOf l (k + 1) = l[k] := by simp [lastOf, List.getD, List.getElem?_eq_getElem hk]
    rw [hl]
    split at h1 <;> omega
/-- below the count each number is above the one ahead -/
theorem rise_lt (l : List Int) (k : Nat) (h : k < riseN l) : lastOf l k < l.getD k 0 := by
  have h1 := rise_step l k (by omega)
  have hk : k < l.length := by have := riseN_le l; omega
  rw [List.drop_eq_getElem_cons hk, riseFrom] at h1
  have e : l.getD k 0 = l[k] := by simp [List.getD, List.getElem?_eq_getElem hk]
  rw [e]
  split at h1
  · assumption
  · omega
/-- at the count the next one, if there is one, is not -/
theorem rise_end (l : List Int) (h : riseN l < l.length) : ¬ lastOf l (riseN l) < l.getD (riseN l) 0 := by
  have h1 := rise_step l (riseN l) (Nat.le_refl _)
  rw [List.drop_eq_getElem_cons h, riseFrom] at h1
  have e : l.getD (riseN l) 0 = l[riseN l] := by simp [List.getD, List.getElem?_eq_getElem h]
  rw [e]
  split at h1
  · omega
  · assumption
theorem last_ge (l : List Int) (k : Nat) (h : k ≤ riseN l) : -1 ≤ lastOf l k := by
  induction k with
  | zero => simp [lastOf]
  | succ k ih =>
    have h1 := ih (by omega)
    have h2 := rise_lt l k (by omega)
    have hl : lastOf l (k + 1) = l.getD k 0 := by simp [lastOf]
    omega
theorem at_count (l : List Int) (k : Nat) (h : k ≤ riseN l) (h2 : k = l.length ∨ ¬ lastOf l k < l.getD k 0) : riseN l = k := by
  rcases h2 with h2 | h2
  · have := riseN_le l; omega
  · rcases Nat.lt_or_ge k (riseN l) with h3 | h3
    · exact absurd (rise_lt l k h3) h2
    · omega
theorem step_up (l : List Int) (k : Nat) (h : k ≤ riseN l) (hk : k < l.length) (h2 : lastOf l k < l.getD k 0) : k + 1 ≤ riseN l := by
  rcases Nat.lt_or_ge k (riseN l) with h3 | h3
  · exact h3
  · have e : k = riseN l := by omega
    subst e
    exact absurd h2 (rise_end l hk)

/-- the bytes of numbers that rise, each as how much it is above the least that it may be -/
def gap (l : List Int) (k : Nat) : Nat := (l.getD k 0 - (lastOf l k + 1)).toNat
def gaps (l : List Int) : Nat → List UInt8
  | 0 => []
  | k + 1 => gaps l k ++ enc (gap l k)
def rising (l : List Int) : List UInt8 := enc (riseN l) ++ gaps l (riseN l)
theorem gaps_length (l : List Int) (k : Nat) : (gaps l k).length ≤ 9 * k := by
  induction k with
  | zero => simp [gaps]
  | succ k ih => simp only [gaps, List.length_append, enc_length]; have := bh_le (gap l k); omega
end Go.Proofs.YtjmglgcifekhgaaDoor.Cod
/- The contracts of coder's writers: behind, cutOff, put. -/
namespace Go.Proofs.YtjmglgcifekhgaaDoor
open Go Go.RowKit

theorem take_snoc {l : List UInt8} {k : Nat} (h : k < l.length) : l.take (k + 1) = l.take k ++ [l.getD k 0] := by
  rw [List.take_succ_eq_append_getElem h]; simp [List.getD, List.getElem?_eq_getElem h]
theorem ret_int {k : IntKind} {a b : Int} (h : a = b) : Ending.returned (.int k a) = .returned (.int k b) := by rw [h]

set_option maxHeartbeats 1000000 in
theorem behind_any (x : Nat) (w : World) : Calls Tryd.prog 86 #[.int .u64 x] w fun e w' => e = .returned (.int .i64 (Cod.bh x : Nat)) ∧ w = w' := by
  go_enter Tryd.func86, Tryd.ntmps86
  go_wp2
  go_loop [4] (fun i => ∃ k : Nat, k ≤ 8 ∧ i = .int .i64 k ∧ k ≤ Cod.bh x) (fun i => 8 - (intOf i).toNat)
  case atStart => exact ⟨0, by omega, rfl, Nat.zero_le _⟩
  case round =>
    obtain ⟨k, hk, rfl, hb⟩ := hrel
    by_cases hk8 : k < 8
    · have hd := Cod.bh_div x k hk8
      have HD := Lib.hid hd; clear hd
      go_wp2
      · have ht : ((x : Int) / 2 ^ (7 + 7 * k) == 0) = true := by assumption
        have h0 : x / 2 ^ (7 + 7 * k) = 0 := Int.ofNat_inj.1 (by simpa using ht)
        go_ret
        exact ⟨ret_int (by have := HD.out.1 h0; omega), rfl⟩
      · have ht : ((x : Int) / 2 ^ (7 + 7 * k) == 0) = false := by assumption
        have h0 : ¬ x / 2 ^ (7 + 7 * k) = 0 := by
          intro e
          have : ((x : Int) / 2 ^ (7 + 7 * k)) = ((x / 2 ^ (7 + 7 * k) : Nat) : Int) := by simp
          rw [this, e] at ht; simp at ht
        go_round
        case rel => exact ⟨k + 1, by omega, by go_num, by have : ¬ Cod.bh x ≤ k := fun h => h0 (HD.out.2 h)
                                                          omega⟩
        case measure => simp [intOf]; omega
    · have := Cod.bh_le x
      go_wp2
      go_ret
      exact ⟨ret_int (by omega), rfl⟩

set_option maxHeartbeats 1000000 in
theorem cutOff_any (p : Option Addr) (n c : Nat) (hn : n ≤ c) (w : World) : Calls Tryd.prog 67 #[.slice p n c] w fun e w' => e = .returned (.slice p n n) ∧ w = w' := by
  go_enter Tryd.func67, Tryd.ntmps67
  go_wp2
  go_ret
  exact ⟨rfl, rfl⟩

theorem shl_255 (P : Program) (k : Nat) (hk : k ≤ 8) (w : World) : Sem.run P (Op.shift BinOp.shl IntKind.u8 255 IntKind.i64 (IntKind.i64.wrap (8 - (k : Int)))) w = .ok (.int .u8 ((255 * 2 ^ (8 - k) % 256 : Nat) : Int)) w := by
  have e1 : IntKind.i64.wrap (8 - (k : Int)) = ((8 - k : Nat) : Int) := by rw [IntWalk.i64_in _ (by omega)]; omega
  rw [e1]
  unfold Op.shift
  rw [if_neg (by omega)]
  simp only [Int.toNat_natCast, show min (8 - k) IntKind.u8.bits = 8 - k from by simp [IntKind.bits]]
  rw [Sem.run_pure]
  simp [IntKind.wrap_u8']
theorem shr_u64 (P : Program) (x k : Nat) (hk : k ≤ 8) (w : World) : Sem.run P (Op.shift BinOp.shr IntKind.u64 (x : Int) IntKind.i64 (IntKind.i64.wrap (8 * (k : Int)))) w = .ok (.int .u64 ((x / 2 ^ (8 * k) : Nat) : Int)) w := by
  have e1 : IntKind.i64.wrap (8 * (k : Int)) = ((8 * k : Nat) : Int) := by rw [IntWalk.i64_in _ (by omega)]; omega
  rw [e1]
  unfold Op.shift
  rw [if_neg (by omega)]
  have e2 : min (8 * k) IntKind.u64.bits = 8 * k := by simp [IntKind.bits]; omega
  simp only [Int.toNat_natCast, e2]
  rw [Sem.run_pure]
  have : (x : Int).fdiv (2 ^ (8 * k)) = ((x / 2 ^ (8 * k) : Nat) : Int) := by
    rw [show ((2 : Int) ^ (8 * k)) = ((2 ^ (8 * k) : Nat) : Int) from by simp, Int.fdiv_eq_ediv_of_nonneg _ (Int.natCast_nonneg _)]; simp
  simp only [this]

set_option maxHeartbeats 1000000 in
theorem put_any (B : Nat) (v : Value) (l : List UInt8) (x : Nat) (w : World) (hg : Grows w B 5 v l) (hB : B ≤ w.heap.size) (hx : x < 18446744073709551616) (hlen : l.length ≤ 140737488355000) :
    Calls Tryd.prog 66 #[v, .int .u64 x] w (RetGrow w B 5 (l ++ Cod.enc x)) := by
  have HG := Lib.hid hg; clear hg
  have h8 := Cod.bh_le x
  have hbe := behind_any x w
  obtain ⟨k, hk⟩ : ∃ k, k = Cod.bh x := ⟨_, rfl⟩
  rw [← hk] at hbe h8
  have HK := Lib.hid hk; clear hk
  go_enter Tryd.func66, Tryd.ntmps66
  go_wp2_with (go_at_call 86; refine hbe.mono ?_; rintro e w' ⟨rfl, rfl⟩)
  have s1 := shl_255 Tryd.prog k h8
  have s2 := shr_u64 Tryd.prog x k h8
  obtain ⟨b, hb⟩ : ∃ b, b = UInt8.ofNat (Cod.head x k) := ⟨_, rfl⟩
  have hor : bits BinOp.or IntKind.u8 (255 * 2 ^ (8 - k) % 256) (IntKind.u8.wrap ((x : Int) / 2 ^ (8 * k))) = (b.toNat : Int) := by
    have h1 := Cod.head_or x hx
    have h2 := Cod.head_lt x hx
    rw [← HK.out] at h1 h2
    rw [show ((255 : Int) * 2 ^ (8 - k) % 256) = ((255 * 2 ^ (8 - k) % 256 : Nat) : Int) from by simp, IntKind.wrap_u8', show ((x : Int) / 2 ^ (8 * k) % 256) = ((x / 2 ^ (8 * k) % 256 : Nat) : Int) from by simp,
      u8_or_nat _ _ (by omega) (by omega), h1, hb, UInt8.toNat_ofNat', Nat.mod_eq_of_lt h2]
  have HB := Lib.hid hb; clear hb
  go_region_law (refine step_byteG isU8 rfl (.tmp 9) (.tmp 19) rfl B l v (by simp [Act.eval, Act.put]) (HG.out.later (by first | exact ((Below.refl _ _).alloc (Nat.le_refl _) _).drew | exact (Below.refl _ _).drew.alloc (Nat.le_refl _) _)) ⟨w.heap.size, 0, none⟩ b (by simp [Act.eval, Act.put]) (by simp) (by omega) (by simp; omega) ?_; intro v1 w1 hown1 hb1)
  clear s1 s2 hor hbe
  have hb0 : Below B w w1 := (((Below.refl _ _).alloc hB _).drew).trans hb1
  have hown0 : w1.ownsRow B 5 1 v1 (l.length + 1 + 0) (bys (l ++ (Cod.enc x).take (1 + 0))) := by
    have : (Cod.enc x).take (1 + 0) = [b] := by rw [HB.out, HK.out]; rfl
    rw [this]; exact hown1
  clear hown1 hb1
  go_wp2
  go_loopw [0, 22] (fun u i wr => ∃ j : Nat, j ≤ k ∧ i = .int .i64 j ∧ wr.ownsRow B 5 1 u (l.length + 1 + j) (bys (l ++ (Cod.enc x).take (1 + j))) ∧ Below B w wr) (fun _ i _ => k - (intOf i).toNat)
  case atStart => exact ⟨0, Nat.zero_le _, rfl, hown0, hb0⟩
  case round =>
    clear hown0 hb0
    obtain ⟨j, hj, rfl, hown, hb⟩ := hrel
    by_cases hjk : j < k
    · have hsz := hb.size
      obtain ⟨d, hd⟩ : ∃ d, d = (Cod.enc x).getD (j + 1) 0 := ⟨_, rfl⟩
      have hdx : ((x : Int) / 2 ^ (8 * (k - 1 - j)) % 256) = (d.toNat : Int) := by
        rw [hd, Cod.enc_get x j (by rw [← HK.out]; exact hjk), UInt8.toNat_ofNat', ← HK.out]
        simp
      have HD := Lib.hid hd; clear hd
      go_wp2_with (at_builtin; refine wpList_byte isU8 _ rfl _ _ rfl B (l.length + 1 + j) (l ++ (Cod.enc x).take (1 + j)) _ rfl hown _ d rfl rfl (by omega) (by omega) ?_)
      intro v' w' hown' hb'
      clear hown hdx
      go_wp2
      go_roundw
      case rel =>
        have e1 : l ++ (Cod.enc x).take (1 + (j + 1)) = l ++ ((Cod.enc x).take (1 + j) ++ [d]) := by
          rw [show 1 + (j + 1) = (1 + j) + 1 from by omega, take_snoc (by rw [Cod.enc_length, ← HK.out]; omega), show (1 + j) = j + 1 from by omega, ← HD.out]
        exact ⟨j + 1, by omega, by go_num, by rw [e1]; simpa only [Nat.add_assoc, List.append_assoc] using hown', hb.trans hb'⟩
      case measure => simp [intOf]; omega
    · obtain rfl : j = k := by omega
      go_wp2
      go_ret
      rw [List.take_of_length_le (by rw [Cod.enc_length, ← HK.out]; omega)] at hown
      exact RetGrow.of_own hown rfl hb
end Go.Proofs.YtjmglgcifekhgaaDoor
/- The contracts of coder's Num, Sign, Text, and of the document's own. -/
namespace Go.Proofs.YtjmglgcifekhgaaDoor
open Go Go.RowKit

theorem int_range {n : Int} (h : (Lit.int .i64 n).wf = true) : -9223372036854775808 ≤ n ∧ n ≤ 9223372036854775807 := by
  simp [Lit.wf, IntKind.min, IntKind.max, IntKind.bits, IntKind.signed] at h; omega

/-- a number of either sign as one of none -/
def zz (n : Int) : Nat := if n < 0 then (2 * (-(n + 1)) + 1).toNat else (2 * n).toNat

theorem zz_lt {n : Int} (h : -9223372036854775808 ≤ n ∧ n ≤ 9223372036854775807) : zz n < 18446744073709551616 := by unfold zz; split <;> omega
theorem xor_ones (a : Nat) (h : a < 18446744073709551616) : a ^^^ 18446744073709551615 = 18446744073709551615 - a := by
  have h1 : (BitVec.ofNat 64 a ^^^ BitVec.allOnes 64).toNat = a ^^^ 18446744073709551615 := by
    rw [BitVec.toNat_xor, BitVec.toNat_ofNat, BitVec.toNat_allOnes, Nat.mod_eq_of_lt h]
  rw [← h1, BitVec.xor_allOnes, BitVec.toNat_not, BitVec.toNat_ofNat, Nat.mod_eq_of_lt h]
theorem zz_bits {n : Int} (h : -9223372036854775808 ≤ n ∧ n ≤ 9223372036854775807) :
    bits BinOp.xor IntKind.u64 (IntKind.u64.wrap (IntKind.u64.wrap n * 2)) (IntKind.u64.wrap (n / 9223372036854775808)) = (zz n : Int) := by
  simp only [IntKind.wrap_u64]
  unfold zz
  by_cases h0 : n < 0
  · rw [if_pos h0]
    have e1 : n % 18446744073709551616 * 2 % 18446744073709551616 = (((2 * n + 18446744073709551616).toNat : Nat) : Int) := by omega
    have e2 : n / 9223372036854775808 % 18446744073709551616 = ((18446744073709551615 : Nat) : Int) := by omega
    rw [e1, e2, u64_xor_nat _ _ (by omega) (by omega), xor_ones _ (by omega)]
    omega
  · rw [if_neg h0]
    have e1 : n % 18446744073709551616 * 2 % 18446744073709551616 = (((2 * n).toNat : Nat) : Int) := by omega
    have e2 : n / 9223372036854775808 % 18446744073709551616 = ((0 : Nat) : Int) := by omega
    rw [e1, e2, u64_xor_nat _ _ (by omega) (by omega), Nat.xor_zero]

set_option maxHeartbeats 1000000 in
theorem num_any (p : Option Addr) (c : Nat) (l : List UInt8) (n : Int) (w : World) (h : Lies w p l) (hp : p = none → l = []) (hlc : l.length ≤ c) (hn : (Lit.int .i64 n).wf = true) (hlen : l.length ≤ 140737488355000) :
    Calls Tryd.prog 40 #[.slice p l.length c, .int .i64 n] w (RetOwn w 5 (l ++ Cod.enc n.toNat)) := by
  have hr := int_range hn
  have hput := put_any w.heap.size (.slice p l.length l.length) l n.toNat w (.inr ⟨p, rfl, h, hp⟩) (Nat.le_refl _) (by omega) hlen
  have HP := Lib.hid hput; clear hput h hp hn
  have hcut := cutOff_any p l.length c hlc w
  by_cases h0 : n < 0
  · have e0 : n.toNat = 0 := by omega
    rw [e0] at HP ⊢
    go_enter Tryd.func40, Tryd.ntmps40
    go_wp2_with (first
      | (go_at_call 67; refine hcut.mono ?_; rintro e w' ⟨rfl, rfl⟩)
      | (go_at_call 66; refine HP.out.mono ?_; rintro e w' ⟨v', rfl, hown, hb⟩))
    go_ret
    exact ⟨v', rfl, hown, hb⟩
  · obtain ⟨m, rfl⟩ := Int.eq_ofNat_of_zero_le (show 0 ≤ n by omega)
    rw [Int.toNat_natCast] at HP ⊢
    go_enter Tryd.func40, Tryd.ntmps40
    go_wp2_with (first
      | (go_at_call 67; refine hcut.mono ?_; rintro e w' ⟨rfl, rfl⟩)
      | (go_at_call 66; refine HP.out.mono ?_; rintro e w' ⟨v', rfl, hown, hb⟩))
    go_ret
    exact ⟨v', rfl, hown, hb⟩

end Go.Proofs.YtjmglgcifekhgaaDoor
/- The contracts of the document's own Bytes, join, Num, Sign, Text. -/
namespace Go.Proofs.YtjmglgcifekhgaaDoor
open Go Go.RowKit

theorem shr_nat (P : Program) (x m : Nat) (hm : m ≤ 64) (w : World) : Sem.run P (Op.shift BinOp.shr IntKind.u64 (x : Int) IntKind.i64 (m : Int)) w = .ok (.int .u64 ((x / 2 ^ m : Nat) : Int)) w := by
  unfold Op.shift
  rw [if_neg (by omega)]
  have e2 : min m IntKind.u64.bits = m := by simp [IntKind.bits]; omega
  simp only [Int.toNat_natCast, e2]
  rw [Sem.run_pure]
  have : (x : Int).fdiv (2 ^ m) = ((x / 2 ^ m : Nat) : Int) := by
    rw [show ((2 : Int) ^ m) = ((2 ^ m : Nat) : Int) from by simp, Int.fdiv_eq_ediv_of_nonneg _ (Int.natCast_nonneg _)]; simp
  simp only [this]

/-- the first byte's ones -/
def sm (j : Nat) : Nat := 256 - 2 ^ (8 - j)
theorem sm_step (j : Nat) (h : j < 8) : ((sm j : Nat) : Int) + 128 / 2 ^ j = ((sm (j + 1) : Nat) : Int) := by
  match j, h with
  | 0, _ => decide
  | 1, _ => decide
  | 2, _ => decide
  | 3, _ => decide
  | 4, _ => decide
  | 5, _ => decide
  | 6, _ => decide
  | 7, _ => decide
theorem sm_le (j : Nat) (h : j ≤ 8) : sm j ≤ 255 := by
  have := (Cod.pow_parts j h).1
  unfold sm; omega

end Go.Proofs.YtjmglgcifekhgaaDoor
/- The contracts of the document's own Num, Sign, Text; and of coder's Text. -/
namespace Go.Proofs.YtjmglgcifekhgaaDoor
open Go Go.RowKit

/-- bytes as a call may be handed them: what came in, or the call's own -/
structure Given (w : World) (p : Option Addr) (c : Nat) (l : List UInt8) : Prop where
  lies : Lies w p l
  le : l.length ≤ c
  none : p = none → l = [] ∧ c = 0
theorem Given.below {w w' : World} {p : Option Addr} {c : Nat} {l : List UInt8} (h : Given w p c l) (hb : Below w.heap.size w w') : Given w' p c l := ⟨h.lies.below hb, h.le, h.none⟩
theorem RetOwn.given {w w' : World} {ty : TypeId} {l : List UInt8} {e : Ending} (h : RetOwn w ty l e w') : ∃ p c, e = .returned (.slice p l.length c) ∧ Given w' p c l ∧ Below w.heap.size w w' := by
  obtain ⟨v, he, ho, hb⟩ := h
  obtain ⟨_, p, c, rfl, h1, _, h3, h4⟩ := own_lies ho
  exact ⟨p, c, he, ⟨h3, h1, h4⟩, hb⟩

theorem enc_len (x : Nat) : (Cod.enc x).length ≤ 9 := by rw [Cod.enc_length]; have := Cod.bh_le x; omega

set_option maxHeartbeats 1000000 in
theorem text_any (p : Option Addr) (c : Nat) (l : List UInt8) (s : ByteArray) (w : World) (h : Given w p c l) (hlen : l.length + s.size ≤ 140737488355000) :
    Calls Tryd.prog 71 #[.slice p l.length c, .string s] w (RetOwn w 5 (l ++ Cod.enc s.size ++ s.data.toList)) := by
  have hcut := cutOff_any p l.length c h.le w
  have hput := put_any w.heap.size (.slice p l.length l.length) l s.size w (.inr ⟨p, rfl, h.lies, fun e => (h.none e).1⟩) (Nat.le_refl _) (by omega) (by omega)
  have hel := enc_len s.size
  have HP := Lib.hid hput; clear hput h
  go_enter Tryd.func71, Tryd.ntmps71
  go_wp2_with fail
  refine hcut.mono ?_
  rintro e w' ⟨rfl, rfl⟩
  go_wp2_with fail
  refine HP.out.mono ?_
  rintro e w1 ⟨v, rfl, hown, hb⟩
  have hl2 : (l ++ Cod.enc s.size).length ≤ l.length + 9 := by simp; omega
  go_wp2_with (at_builtin; refine wpList_text isU8 Tryd.underlying9 _ rfl _ _ rfl w.heap.size _ (l ++ Cod.enc s.size) _ rfl hown s rfl (by omega) hb.size ?_)
  intro v' w2 hown' hb'
  go_wp2
  go_ret
  exact RetOwn.of_own (by rw [List.append_assoc]; exact hown') rfl (hb.trans hb')
end Go.Proofs.YtjmglgcifekhgaaDoor
/- slices.Grow of nil and slices.Concat of two lists of bytes. -/
namespace Go.Proofs.YtjmglgcifekhgaaDoor
open Go Go.RowKit
set_option linter.unusedVariables false

def GrownB (w : World) (e : Ending) (w' : World) : Prop := ∃ v, e = .returned v ∧ w'.ownsRow w.heap.size 5 1 v 0 [] ∧ Below w.heap.size w w'

set_option maxHeartbeats 2000000 in
theorem growB (n : Nat) (w : World) (hn : n ≤ 140737488355328) : Calls Tryd.prog 87 #[.slice none 0 0, .int .i64 (n : Int)] w (GrownB w) := by
  obtain ⟨i0, hi, hz0, hz1, hz2⟩ := info_parts infoU8
  have h1 : ¬ ((n : Int) < 0) := by omega
  have h2 : wrap64 (n : Int) = n := by unfold wrap64; omega
  rcases Nat.eq_zero_or_pos n with rfl | hp
  · go_enter Tryd.func87, Tryd.ntmps87
    go_wp2
    go_ret
    exact ⟨_, rfl, World.ownsRow_nil _ _ _ _, Below.refl _ _⟩
  · have h4 : (0 : Int) < n := by omega
    have h5 : (n : Int) > 0 := h4
    have hold : (Builtin.firstCells i0.size 0 (.slice none 0 0)).run Tryd.prog w.drew = .ok ([] : List Value).toArray w.drew := run_firstCells_none w.drew i0.size 0 0 0
    have hrz : ∀ ty, (Builtin.append_ #[41, 3] ty #[.slice none 0 0, .int .i64 (n : Int)]).run Tryd.prog w =
        .ok (.slice (some ⟨w.heap.size, 0, none⟩) n (grownCap w n 0 5)) (w.drew.alloc (.cells (([] : List Value).toArray ++ Builtin.zeroCells (Value.int .u8 0).cells n ++ Builtin.zeroCells (Value.int .u8 0).cells (grownCap w n 0 5 - n)) 5)) := fun ty => by
      have hf : Builtin.nextslicecap (0 + n) 0 * i0.bytes ≤ 281474976710656 := growslice_fits (by omega) (by rw [hz2]; omega)
      have h := Lib.run_append_grow_zeros w 41 3 ty 5 i0 (.int .u8 0) .i64 .i64 Tryd.underlying41 Tryd.underlying3 hi hz0 none 0 0 [] hold n hp (by rw [hz1]; decide) (by omega) (by omega) (by rw [hz2]; omega) hf
      simpa using h
    have hG : n ≤ grownCap w n 0 5 := grownCap_ge w _ _ _
    have hM : grownCap w n 0 5 ≤ maxLen := grownCap_le_maxLen w n 0 5 (by unfold maxLen; omega)
    have hs : (([] : List Value).toArray ++ Builtin.zeroCells (Value.int .u8 0).cells n ++ Builtin.zeroCells (Value.int .u8 0).cells (grownCap w n 0 5 - n)).size = grownCap w n 0 5 * 1 := by
      simp [Builtin.zeroCells, Value.cells]; omega
    generalize grownCap w n 0 5 = G at hrz hG hM hs
    generalize (([] : List Value).toArray ++ Builtin.zeroCells (Value.int .u8 0).cells n ++ Builtin.zeroCells (Value.int .u8 0).cells (G - n)) = cur at hrz hs
    have OWN : Hid ((w.drew.alloc (.cells cur 5)).ownsRow w.heap.size 5 1 (.slice (some ⟨w.heap.size, 0, none⟩) 0 G) 0 []) := World.ownsRow_made w.drew cur G (Nat.le_refl _) hM hs
    have BEL : Hid (Below w.heap.size w (w.drew.alloc (.cells cur 5))) := (Below.refl _ w).drew.alloc (Nat.le_refl _) _
    have hG2 : (0 : Int) ≤ G := by omega
    have hM2 : G ≤ 9223372036854775807 := by unfold maxLen at hM; omega
    clear hold hs
    go_enter Tryd.func87, Tryd.ntmps87
    go_wp2_with (at_builtin; refine Lib.wpList_append_run _ rfl _ _ _ _ rfl _ _ rfl rfl _ _ (hrz _) ?_)
    all_goals (go_ret; exact ⟨_, rfl, OWN.out, BEL.out⟩)
/-- as many as the first k of two parts have -/
def partB (n m : Nat) : Nat → Nat
  | 0 => 0
  | 1 => n
  | _ => n + m
def partsB (l m : List UInt8) : Nat → List UInt8
  | 0 => []
  | 1 => l
  | _ => l ++ m

set_option maxHeartbeats 4000000 in
set_option maxRecDepth 100000 in
theorem concatB (R c p1c p2c : Nat) (p1 p2 : Option Addr) (l m : List UInt8) (w : World) (h1 : Lies w p1 l) (h2 : Lies w p2 m) (n1 : p1 = none → l = [] ∧ p1c = 0) (n2 : p2 = none → m = [] ∧ p2c = 0) (hlm : l.length + m.length ≤ 140737488355328)
    (hc1 : w.cell? ⟨R, 0, none⟩ = some (.slice p1 l.length p1c)) (hc2 : w.cell? ⟨R, 1, none⟩ = some (.slice p2 m.length p2c)) :
    Calls Tryd.prog 68 #[.slice (some ⟨R, 0, none⟩) 2 2] w (RetOwn w 5 (l ++ m)) := by
  have H1 := Lib.hid h1; have H2 := Lib.hid h2; have N1 := Lib.hid n1; have N2 := Lib.hid n2; have C1 := Lib.hid hc1; have C2 := Lib.hid hc2
  have G := Lib.hid (growB (l.length + m.length) w (by omega))
  have LL := Lib.hid hlm
  have PL : Hid (∀ v w', w'.ownsRow w.heap.size 5 1 v (partB l.length m.length 2) (bys (partsB l m 2)) → Below w.heap.size w w' → RetOwn w 5 (l ++ m) (.returned v) w') := fun v w' ho hb =>
    RetOwn.of_own (n := partB l.length m.length 2) ho rfl hb
  clear h1 h2 n1 n2
  go_enter Tryd.func68, Tryd.ntmps68
  go_wp2
  go_loopw [3, 11] (fun sz i wr => ∃ k : Nat, k ≤ 2 ∧ i = .int .i64 k ∧ sz = .int .i64 (partB l.length m.length k : Nat) ∧ wr = w) (fun _ i _ => 2 - (intOf i).toNat)
  case atStart => exact ⟨0, Nat.zero_le _, rfl, rfl, rfl⟩
  case round =>
    obtain ⟨k, hk, rfl, rfl, hw⟩ := hrel
    subst wr
    rcases (show k = 0 ∨ k = 1 ∨ k = 2 by omega) with rfl | rfl | rfl
    · simp only [partB]
      have a1 : ¬ ((l.length : Int) < 0) := by omega
      have a2 : wrap64 (l.length : Int) = l.length := by unfold wrap64; omega
      go_wp2
      go_roundw
      case rel => exact ⟨1, by omega, by simp, by simp [partB], by simp⟩
      case measure => simp [intOf]
    · simp only [partB]
      have a1 : ¬ ((l.length : Int) + m.length < 0) := by omega
      have a2 : wrap64 ((l.length : Int) + m.length) = (l.length : Int) + m.length := by unfold wrap64; omega
      go_wp2
      go_roundw
      case rel => exact ⟨2, by omega, by simp, by simp [partB], by simp⟩
      case measure => simp [intOf]
    · simp only [partB]
      go_wp2_with fail
      have hsum : (l.length : Int) + m.length = ((l.length + m.length : Nat) : Int) := by omega
      refine (G.out).mono ?_
      rintro e w1 ⟨v, rfl, hown, hb⟩
      have O := Lib.hid hown; have BW := Lib.hid hb
      clear hown hb G hsum
      go_wp2
      go_loopw [6, 27] (fun v i wx => ∃ k : Nat, k ≤ 2 ∧ i = .int .i64 k ∧ wx.ownsRow w.heap.size 5 1 v (partB l.length m.length k) (bys (partsB l m k)) ∧ Below w.heap.size w wx) (fun _ i _ => 2 - (intOf i).toNat)
      case atStart => exact ⟨0, Nat.zero_le _, rfl, O.out, BW.out⟩
      case round =>
        obtain ⟨k, hk, rfl, hown, hb⟩ := hrel
        have O2 := Lib.hid hown; have B2 := Lib.hid hb
        have hz := hb.size
        have c1 := B2.out.cell (p := ⟨R, 0, none⟩) (World.block_lt_of_cell? w _ C1.out)
        have c2 := B2.out.cell (p := ⟨R, 1, none⟩) (World.block_lt_of_cell? w _ C2.out)
        rw [C1.out] at c1; rw [C2.out] at c2
        clear hown hb O BW
        rcases (show k = 0 ∨ k = 1 ∨ k = 2 by omega) with rfl | rfl | rfl
        · go_wp2_with (refine wpList_bytes isU8 _ rfl _ _ rfl w.heap.size _ _ _ rfl O2.out p1 l.length p1c l rfl ((H1.out).mono rfl B2.out) rfl (fun e => by obtain ⟨rfl, h⟩ := N1.out e; exact ⟨rfl, h⟩) (by have := LL.out; simp only [partB]; omega) hz ?_)
          intro v' w2 ho2 hb2
          have O3 := Lib.hid ho2; have B3 := Lib.hid (B2.out.trans hb2)
          clear ho2 hb2
          go_wp2
          go_roundw
          case rel => exact ⟨1, by omega, by simp, by simpa [partB, partsB] using O3.out, B3.out⟩
          case measure => simp [intOf]
        · go_wp2_with (refine wpList_bytes isU8 _ rfl _ _ rfl w.heap.size _ _ _ rfl O2.out p2 m.length p2c m rfl ((H2.out).mono rfl B2.out) rfl (fun e => by obtain ⟨rfl, h⟩ := N2.out e; exact ⟨rfl, h⟩) (by have := LL.out; simp only [partB]; omega) hz ?_)
          intro v' w2 ho2 hb2
          have O3 := Lib.hid ho2; have B3 := Lib.hid (B2.out.trans hb2)
          clear ho2 hb2
          go_wp2
          go_roundw
          case rel => exact ⟨2, by omega, by simp, by simpa [partB, partsB] using O3.out, B3.out⟩
          case measure => simp [intOf]
        · go_wp2
          go_ret
          exact PL.out _ _ O2.out B2.out
end Go.Proofs.YtjmglgcifekhgaaDoor
/- An event's bytes. -/
namespace Go.Proofs.YtjmglgcifekhgaaDoor
open Go Go.RowKit
set_option linter.unusedVariables false
set_option maxRecDepth 1000000

theorem wf_ok {n : Int} (h : -1000000000000000000 ≤ n ∧ n ≤ 1000000000000000000) : (Lit.int .i64 n).wf = true := by
  simp [Lit.wf, IntKind.min, IntKind.max, IntKind.bits, IntKind.signed]; omega
theorem cell_hold {w U : World} {a : Addr} {v : Value} (h : w.cell? a = some v) (hb : Below w.heap.size w U) : U.cell? a = some v := (hb.cell (p := a) (World.block_lt_of_cell? w _ h)).trans h
/-- a dot's bytes -/
def dotB (d : Dt) : List UInt8 := Cod.enc d.1.toNat ++ Cod.enc d.2.toNat
theorem dotB_len (d : Dt) : (dotB d).length ≤ 18 := by unfold dotB; have := enc_len d.1.toNat; have := enc_len d.2.toNat; simp only [List.length_append]; omega
set_option maxHeartbeats 4000000 in
theorem putDot_is (p : Option Addr) (c : Nat) (l : List UInt8) (r n : Int) (w : World) (h : Given w p c l) (hd : (-1000000000000000000 ≤ r ∧ r ≤ 1000000000000000000) ∧ -1000000000000000000 ≤ n ∧ n ≤ 1000000000000000000) (hlen : l.length ≤ 140737488354000) :
    Calls Tryd.prog 70 #[.slice p l.length c, .agg (dcs r n)] w (RetOwn w 5 (l ++ dotB (r, n))) := by
  have H := Lib.hid h; clear h
  have WR := Lib.hid (wf_ok hd.1); have WN := Lib.hid (wf_ok hd.2)
  have EL := Lib.hid (enc_len r.toNat)
  clear hd
  go_enter Tryd.func70, Tryd.ntmps70
  go_wp2_with (refine wpList_gbox rfl _ rfl (dcs r n) rfl ?_)
  intro g3 w1 l3 h3 hb1
  have B1 := Lib.hid hb1
  have c0 := cell_of_row _ g3 0 _ _ _ h3
  have c1 := cell_of_row _ g3 1 _ _ _ h3
  have C0 : Hid (w1.cell? ⟨g3, 0, none⟩ = some (.int .i64 r)) := Lib.hid c0
  have C1 : Hid (w1.cell? ⟨g3, 1, none⟩ = some (.int .i64 n)) := Lib.hid c1
  clear hb1 h3 c0 c1
  go_wp2_with fail
  rename_i K2 hK2
  have m0 : Below w1.heap.size w1 w1.drew := (Below.refl _ _).drew
  refine rg_calm (by kernel_rfl) rfl (S := fun U => Below w1.heap.size w1 U) ?_
  refine rgd_pure 0 (some 5) rfl rfl (.slice p l.length c) (by kernel_rfl) (by kernel_rfl) (by kernel_rfl) (fun _ _ _ _ h => h) (by kernel_rfl) (fun w => by kernel_rfl) m0 ?_
  refine rgd_pure 1 (some 6) rfl rfl (.pointer (some ⟨g3, 0, none⟩)) (by kernel_rfl) (by kernel_rfl) (by kernel_rfl) (fun _ _ _ _ h => h) (by kernel_rfl) (fun w => by kernel_rfl) m0 ?_
  refine rgd_pureS 2 (some 7) rfl rfl (.int .i64 r) (by kernel_rfl) (by kernel_rfl) (by kernel_rfl) (fun _ _ _ _ h => h) (by kernel_rfl) (fun U hU => exec_load1 _ _ rfl Tryd.underlying3 rfl ⟨g3, 0, none⟩ _ (by kernel_rfl) (cell_hold C0.out hU)) m0 ?_
  refine rgd_pure 4 (some 9) rfl rfl (.pointer (some ⟨g3, 1, none⟩)) (by kernel_rfl) (by kernel_rfl) (by kernel_rfl) (fun _ _ _ _ h => h) (by kernel_rfl) (fun w => by kernel_rfl) m0 ?_
  refine rgd_pureS 5 (some 10) rfl rfl (.int .i64 n) (by kernel_rfl) (by kernel_rfl) (by kernel_rfl) (fun _ _ _ _ h => h) (by kernel_rfl) (fun U hU => exec_load1 _ _ rfl Tryd.underlying3 rfl ⟨g3, 1, none⟩ _ (by kernel_rfl) (cell_hold C1.out hU)) m0 ?_
  refine rgd_call 3 (some 8) (by kernel_rfl) rfl rfl (by kernel_rfl) 40 (#[.slice p l.length c, .int .i64 r]) (by kernel_rfl) (num_any p c l r _ (H.out.below (thenBelow B1.out m0)).lies (fun e => (H.out.none e).1) H.out.le WR.out (by omega)) ?_
  rintro e U1 hr1
  obtain ⟨p1, c1, rfl, k1, b1⟩ := hr1.given
  have m1 := thenBelow m0 b1
  refine ⟨_, rfl, m1, ?_⟩
  refine rgd_call 6 (some 11) (by kernel_rfl) rfl rfl (by kernel_rfl) 40 (#[.slice p1 (l ++ Cod.enc r.toNat).length c1, .int .i64 n]) (by kernel_rfl) (num_any p1 c1 (l ++ Cod.enc r.toNat) n _ k1.lies (fun e => (k1.none e).1) k1.le WN.out (by have := EL.out; rw [List.length_append]; omega)) ?_
  rintro e U2 hr2
  have HF := Lib.hid ((hr2.after (thenBelow B1.out m1)))
  obtain ⟨p2, c2, rfl, k2, b2⟩ := hr2.given
  have m2 := thenBelow m1 b2
  refine ⟨_, rfl, m2, ?_⟩
  refine rgd_pure 7 (some 4) rfl rfl (.slice p2 (l ++ Cod.enc r.toNat ++ Cod.enc n.toNat).length c2) (by kernel_rfl) (by kernel_rfl) (by kernel_rfl) (fun _ _ _ _ h => h) (by kernel_rfl) (fun w => by kernel_rfl) m2 ?_
  have HE : Hid (l ++ Cod.enc r.toNat ++ Cod.enc n.toNat = l ++ dotB (r, n)) := Lib.hid (by unfold dotB; simp only [List.append_assoc])
  have KE : K2 { tmps := #[.slice p l.length c, .agg (dcs r n), undef, .pointer (some ⟨g3, 0, none⟩), .slice p2 (l ++ Cod.enc r.toNat ++ Cod.enc n.toNat).length c2, .slice p l.length c, .pointer (some ⟨g3, 0, none⟩), .int .i64 r, .slice p1 (l ++ Cod.enc r.toNat).length c1, .pointer (some ⟨g3, 1, none⟩), .int .i64 n, .slice p2 (l ++ Cod.enc r.toNat ++ Cod.enc n.toNat).length c2], defers := [] } U2 := by
    refine hK2 _ _ ?_
    clear hK2 m0 m1 m2 k1 k2 hr1 b1 b2
    rw [HE.out] at HF ⊢
    go_wp2
    go_ret
    exact HF.out
  exact wpAnyH_done (by kernel_rfl) (Eq.mp (by kernel_rfl) KE) _

/-- an event's bytes -/
def evB (e : Ev) : List UInt8 := dotB (e.rep, e.n) ++ (Cod.enc e.time.toNat ++ (Cod.enc e.kind.toNat ++ (Cod.enc e.doc.size ++ (e.doc.data.toList ++ (Cod.enc e.field.toNat ++ (Cod.enc e.text.size ++ (e.text.data.toList ++ (Cod.enc e.gone.length ++ e.gone.flatMap dotB))))))))
set_option maxRecDepth 1000000

/-- what is so of an event that may be -/
structure Fine (e : Ev) : Prop where
  dot : vldB e.rep e.n = true
  time : 1 ≤ e.time ∧ e.time ≤ 1099511627776
  doc : e.doc.size ≤ 12
  many : e.gone.length ≤ 120
  gone : ∀ d ∈ e.gone, vl d = true
  kind : e.kind = 1 ∨ e.kind = 2
  field : 0 ≤ e.field ∧ e.field ≤ 4
  text : e.text.size ≤ 160
theorem fine_of {e : Ev} (h : chk e = 0) : Fine e := by
  have hh : headB e = true := by
    cases q : headB e with
    | true => rfl
    | false => rw [chk_no q] at h; cases h
  obtain ⟨h1, h2, h3, h4⟩ := (head_iff e).1 hh
  obtain ⟨g1, g2, g3⟩ := goB_iff.1 h4
  have hd : e.doc.size ≤ 12 := by
    unfold nameB at h3
    exact (of_decide_eq_true h3).2.1
  have hg : ∀ d ∈ e.gone, vl d = true := fun d hd => by
    obtain ⟨i, hi, rfl⟩ := List.getElem_of_mem hd
    exact (g2 i hi).1
  by_cases hk : e.kind = 1
  · rw [chk_put hh hk] at h
    unfold txtE at h
    split at h
    · cases h
    · rename_i c1
      split at h
      · cases h
      · exact ⟨h1, h2, hd, g1, hg, .inl hk, by omega, by omega⟩
  · by_cases h5 : e.kind = 2 ∧ e.field = 0 ∧ e.text.size = 0
    · exact ⟨h1, h2, hd, g1, hg, .inr h5.1, by omega, by omega⟩
    · rw [chk_else hk h5] at h; cases h
/-- what is written of an event -/
noncomputable def wrB (e : Ev) : List UInt8 := if chk e = 0 then evB e else []
theorem flat_take (l : List Dt) (k : Nat) (h : k < l.length) : (l.take (k + 1)).flatMap dotB = (l.take k).flatMap dotB ++ dotB l[k] := by
  rw [List.take_succ_eq_append_getElem h, List.flatMap_append]; simp
theorem flat_dots_len (l : List Dt) : (l.flatMap dotB).length ≤ 18 * l.length := by
  induction l with
  | nil => simp
  | cons d l ih => rw [List.flatMap_cons, List.length_append, List.length_cons]; have := dotB_len d; omega
end Go.Proofs.YtjmglgcifekhgaaDoor
/- Bytes put behind a row of the call's own: more of them than Mem's law bears. No number of a program stands here. -/
namespace Go.Proofs.YtjmglgcifekhgaaDoor
open Go Go.RowKit
section
variable {P : Program} {t e : TypeId} {ops : Array Oper} {rest : List Oper} {o : Oper} {a : Act} {Q : Exit → Act → World → Prop}
theorem wpList_bytesW (U : U8 P t e) (w : World) (hg : o.guard = none) (s x : Operand) (ho : o.op = .call { callee := .builtin .append, args := #[s, x], argTypes := #[t, t] })
    (B n : Nat) (l : List UInt8) (v : Value) (hs : a.eval s = v) (hown : w.ownsRow B e 1 v n (bys l)) (p : Option Addr) (m c : Nat) (l2 : List UInt8) (hx : a.eval x = .slice p m c) (hl : Lies w p l2) (hm : m = l2.length) (hp : p = none → m = 0 ∧ c = 0)
    (hlen : n + m ≤ 200000000000000) (hB : B ≤ w.heap.size)
    (h : ∀ v' w', w'.ownsRow B e 1 v' (n + m) (bys (l ++ l2)) → Below B w w' → wpList P ops Q rest (a.put o.dst v') w') : wpList P ops Q (o :: rest) a w := by
  obtain ⟨i0, hi, hz0, hz1, hz2⟩ := info_parts U.info
  cases p with
  | none =>
    obtain ⟨rfl, rfl⟩ := hp rfl
    obtain rfl : l2 = [] := List.eq_nil_of_length_eq_zero hm.symm
    exact wpList_append_own_none hg s x t ho B e i0 1 U.slice hi v n (bys l) hs hown hx (h v w (by simpa using hown) (Below.refl _ _))
  | some ad =>
    refine wpList_append_own_wide _ hg s x t ho B e i0 (.int .u8 0) 1 1 U.slice hi hz0 hz1 hz2 rfl (by decide) v n (bys l) hs hown ad m c (bys l2) hx (by rw [bys_length]; omega) ?_ (bys_one _) (by unfold maxLen; omega) (by omega) hB ?_
    · by_cases h0 : l2 = []
      · subst h0; intro j u hu; simp [bys] at hu
      · obtain ⟨b, of, e1, hc⟩ := hl h0
        obtain rfl := Option.some.inj e1
        exact Lies.news hc
    · intro v' w' h1 h2 _
      refine h v' w' (by rw [bys_append]; exact h1) ?_
      exact (Below.refl B w).grown h2 hB (fun k hk => (hown.lt k hk).1)
end
end Go.Proofs.YtjmglgcifekhgaaDoor
/- A reader that Read made, as far as what it is asked is there: each of its methods. -/
namespace Go.Proofs.YtjmglgcifekhgaaDoor
open Go Go.RowKit

theorem tab8 : ∀ n : Fin 256, (Lib.len8tab.data.toList.getD n.val 0).toNat = Lib.bitLen n.val := by decide +kernel
theorem size8 : Lib.len8tab.size = 256 := by decide +kernel
theorem tab8_get (x : Nat) (h : x < Lib.len8tab.size) : (Lib.len8tab[x]'h).toNat = Lib.bitLen x := by
  have h2 : x < 256 := by rw [← size8]; exact h
  rw [← tab8 ⟨x, h2⟩]
  congr 1
  have h3 : x < Lib.len8tab.data.toList.length := by rw [Array.length_toList]; exact h
  show Lib.len8tab.data[x] = _
  simp only [List.getD, List.getElem?_eq_getElem h3, Option.getD_some, Array.getElem_toList]
theorem bitLen_le (x : Nat) (h : x ≤ 255) : Lib.bitLen x ≤ 8 := Lib.bitLen_le8 ⟨x, by omega⟩

set_option maxHeartbeats 4000000 in
set_option maxRecDepth 100000 in
theorem len8_any (x : Nat) (w : World) (h : x ≤ 255) : Calls Tryd.prog 96 #[.int .u8 x] w fun e w' => e = .returned (.int .i64 (Lib.bitLen x : Nat)) ∧ w = w' := by
  have hs : x < Lib.len8tab.size := by rw [size8]; omega
  have hl := bitLen_le x h
  have hg := tab8_get x hs
  have HG := Lib.hid hg; clear hg
  go_enter Tryd.func96, Tryd.ntmps96
  go_wp2
  go_ret
  exact ⟨ret_int (by rw [HG.out, IntWalk.wrap64_in _ ⟨by omega, by omega⟩]), rfl⟩

theorem lz8_any (x : Nat) (w : World) (h : x ≤ 255) : Calls Tryd.prog 90 #[.int .u8 x] w fun e w' => e = .returned (.int .i64 ((8 - Lib.bitLen x : Nat) : Int)) ∧ w = w' := by
  have hl := bitLen_le x h
  have h8 := len8_any x w h
  go_enter Tryd.func90, Tryd.ntmps90
  go_wp2_with (go_at_call 96; refine h8.mono ?_; rintro e w' ⟨rfl, rfl⟩)
  go_ret
  exact ⟨ret_int (by omega), rfl⟩

/-! ### the plain part of reading a number -/
theorem ones_of : ∀ n : Fin 256, ∀ k : Fin 9, (256 - 2 ^ (8 - k.val) ≤ n.val ∧ (k.val < 8 → n.val < 256 - 2 ^ (7 - k.val))) → 8 - Lib.bitLen (255 - n.val) = k.val := by decide +kernel
theorem head_ones (x : Nat) (hx : x < 18446744073709551616) : 8 - Lib.bitLen (255 - Cod.head x (Cod.bh x)) = Cod.bh x := by
  have h1 := Cod.head_lt x hx
  have h8 := Cod.bh_le x
  refine ones_of ⟨_, h1⟩ ⟨Cod.bh x, by omega⟩ ⟨?_, fun h7 => ?_⟩
  · show 256 - 2 ^ (8 - Cod.bh x) ≤ Cod.head x (Cod.bh x)
    unfold Cod.head; exact Nat.le_add_right _ _
  · simp only at h7 ⊢
    have ht := Cod.top_lt x hx _ rfl
    have hp := Cod.pow_parts (Cod.bh x) h8
    have hp3 := hp.2.2 (by omega)
    unfold Cod.head
    generalize x / 256 ^ Cod.bh x = t at ht ⊢
    omega
theorem mask_head : ∀ n : Fin 256, ∀ k : Fin 8, n.val &&& (127 / 2 ^ k.val) = n.val % 2 ^ (7 - k.val) := by decide +kernel
theorem top_of (x : Nat) (hx : x < 18446744073709551616) : Cod.head x (Cod.bh x) &&& (127 / 2 ^ Cod.bh x) = x / 256 ^ Cod.bh x := by
  have h1 := Cod.head_lt x hx
  have h8 := Cod.bh_le x
  have ht := Cod.top_lt x hx _ rfl
  have hp := Cod.pow_parts (Cod.bh x) h8
  by_cases h7 : Cod.bh x ≤ 7
  · have hm := mask_head ⟨_, h1⟩ ⟨Cod.bh x, by omega⟩
    simp only at hm
    rw [hm]
    have ht2 : x / 256 ^ Cod.bh x < 2 ^ (7 - Cod.bh x) := by
      rcases ht with ht | ⟨h9, _⟩
      · exact ht
      · omega
    have hp3 := hp.2.2 h7
    unfold Cod.head
    rw [hp3]
    have hq : 2 ^ (7 - Cod.bh x) * 2 ^ (1 + Cod.bh x) = 256 := by rw [← Nat.pow_add, show 7 - Cod.bh x + (1 + Cod.bh x) = 8 from by omega]
    have hd : 256 - 2 * 2 ^ (7 - Cod.bh x) = 2 ^ (7 - Cod.bh x) * (2 ^ (1 + Cod.bh x) - 2) := by rw [Nat.mul_sub, hq, Nat.mul_comm 2]
    rw [hd, Nat.mul_add_mod]
    exact Nat.mod_eq_of_lt ht2
  · have e : Cod.bh x = 8 := by omega
    have h0 : x / 256 ^ Cod.bh x = 0 := by rw [e]; exact Nat.div_eq_of_lt hx
    rw [h0, e]
    simp
end Go.Proofs.YtjmglgcifekhgaaDoor
/- A reader that Read made, as far as what it is asked is there: Read, Err, Left, take, number. -/
namespace Go.Proofs.YtjmglgcifekhgaaDoor
open Go Go.RowKit

def Cells (w : World) (b o : Nat) (l : List UInt8) : Prop := ∀ i, i < l.length → w.cell? ⟨b, o + i, none⟩ = some (.int .u8 ((l.getD i 0).toNat : Int))
theorem Cells.lies {w : World} {b o : Nat} {l : List UInt8} (h : Cells w b o l) : Lies w (some ⟨b, o, none⟩) l := fun _ => ⟨b, o, rfl, h⟩
def inObj (v : Value) : Obj := .cells #[v, .int .i64 0, .bool true] 70 (0, 0)
/-- the reader at block B has the bytes l left -/
def Rd (w : World) (B : Nat) (l : List UInt8) : Prop :=
  ∃ b o c, w.heap[B]? = some (inObj (.slice (some ⟨b, o, none⟩) l.length c)) ∧ Cells w b o l ∧ l.length ≤ c ∧ b < B
theorem in_cells {w : World} {B : Nat} {v : Value} (h : w.heap[B]? = some (inObj v)) : w.cell? ⟨B, 0, none⟩ = some v ∧ w.cell? ⟨B, 1, none⟩ = some (.int .i64 0) ∧ w.cell? ⟨B, 2, none⟩ = some (.bool true) ∧ w.frozen? ⟨B, 0, none⟩ = false := by
  unfold inObj at h
  exact ⟨by rw [cell_of_row w B 0 _ _ _ h]; rfl, by rw [cell_of_row w B 1 _ _ _ h]; rfl, by rw [cell_of_row w B 2 _ _ _ h]; rfl, frozen_of_row w B 0 _ _ h⟩
theorem in_set {w : World} {B : Nat} {v : Value} (u : Value) (h : w.heap[B]? = some (inObj v)) : (w.setCell ⟨B, 0, none⟩ u).heap[B]? = some (inObj u) := by
  unfold inObj at h ⊢
  rw [heap_setCell_same w B 0 _ _ u h]
  rfl
theorem grown_set (w : World) (B : Nat) (u : Value) : w.grownBy (w.setCell ⟨B, 0, none⟩ u) (some B) :=
  ⟨rfl, rfl, rfl, by simp [World.setCell], fun k _ hne => Below.heap_setCell _ _ _ _ (fun e => hne (by rw [e]))⟩
theorem cells_set {w : World} {B b o : Nat} {v : Value} {l : List UInt8} (u : Value) (h : w.heap[B]? = some (inObj v)) (hv : ∀ n, v ≠ .int .u8 n) (hc : Cells w b o l) : Cells (w.setCell ⟨B, 0, none⟩ u) b o l := by
  intro i hi
  have h1 := hc i hi
  have hne : b ≠ B := by
    rintro rfl
    unfold inObj at h
    rw [cell_of_row w b (o + i) _ _ _ h] at h1
    generalize o + i = j at h1
    match j, h1 with
    | 0, h1 => simp at h1; exact hv _ h1
    | 1, h1 => simp at h1
    | 2, h1 => simp at h1
    | k + 3, h1 => simp at h1
  rw [World.cell?_of_block (w := w) (Below.heap_setCell w ⟨B, 0, none⟩ u b hne)]
  exact h1
theorem Cells.grown {w w' : World} {B b o : Nat} {v : Value} {l : List UInt8} (hb : w.heap[B]? = some (inObj v)) (hv : ∀ n, v ≠ .int .u8 n) (h : Cells w b o l) (hg : w.grownBy w' (some B)) : Cells w' b o l := by
  intro i hi
  have h1 := h i hi
  have hne : b ≠ B := by
    rintro rfl
    unfold inObj at hb
    rw [cell_of_row w b (o + i) _ _ _ hb] at h1
    generalize o + i = j at h1
    match j, h1 with
    | 0, h1 => simp at h1; exact hv _ h1
    | 1, h1 => simp at h1
    | 2, h1 => simp at h1
    | k + 3, h1 => simp at h1
  exact hg.cell h1 (fun e => hne (Option.some.inj e))
theorem grown_trans {a b c : World} {row : Option Nat} (h : a.grownBy b row) (k : b.grownBy c row) : a.grownBy c row :=
  ⟨k.os.trans h.os, k.tape.trans h.tape, k.output.trans h.output, Nat.le_trans h.size k.size, fun i hi hn => (k.block i (Nat.lt_of_lt_of_le hi h.size) hn).trans (h.block i hi hn)⟩

set_option maxHeartbeats 1000000 in
theorem read_any (p : Option Addr) (c : Nat) (l : List UInt8) (w : World) (h : Given w p c l) (h0 : 0 < l.length) (hn : l.length ≤ 150000000000000) :
    Calls Tryd.prog 13 #[.slice p l.length c] w fun e w' => ∃ B, e = .returned (.pointer (some ⟨B, 0, none⟩)) ∧ w.heap.size ≤ B ∧ Rd w' B l ∧ Below w.heap.size w w' := by
  have H := Lib.hid h; clear h
  go_enter Tryd.func13, Tryd.ntmps13
  go_wp2_with (at_builtin; refine wpList_bytesW isU8 _ rfl _ _ rfl w.heap.size 0 [] _ rfl (World.ownsRow_nil _ _ _ _) p l.length c l rfl H.out.lies rfl (fun e => ⟨by rw [(H.out.none e).1]; rfl, (H.out.none e).2⟩) (by omega) (Nat.le_refl _) ?_)
  intro v w1 hown hb
  have hown1 : w1.ownsRow w.heap.size 5 1 v l.length (bys l) := by simpa using hown
  obtain ⟨g, cap, rfl, _⟩ := own_some hown1 h0
  have hc : Cells w1 g 0 l := fun i hi => by have := (own_cell hown1 i hi).1; simpa using this
  obtain ⟨_, p', c', hv, hle, _, _, _⟩ := own_lies hown1
  have hcap : l.length ≤ cap := by
    simp only [Value.slice.injEq] at hv
    omega
  have HC := Lib.hid hc; have HB := Lib.hid hb
  have HG := Lib.hid (World.block_lt_of_cell? w1 _ (hc 0 h0))
  clear hown hown1 hv hc hb hle
  go_wp2
  go_ret
  refine ⟨w1.heap.size, rfl, HB.out.size, ⟨g, 0, cap, ?_, ?_, hcap, HG.out⟩, HB.out.alloc HB.out.size _⟩
  · exact heap_alloc_new w1 _
  · exact fun i hi => cell_alloc _ (HC.out i hi)

set_option maxHeartbeats 1000000 in
theorem err_live (B : Nat) (l : List UInt8) (w : World) (h : Rd w B l) : Calls Tryd.prog 17 #[.pointer (some ⟨B, 0, none⟩)] w fun e w' => e = .returned (.int .i64 0) ∧ w = w' := by
  obtain ⟨b, o, c, hh, _, _⟩ := h
  obtain ⟨c0, c1, c2, _⟩ := in_cells hh
  clear hh
  go_enter Tryd.func17, Tryd.ntmps17
  go_wp2
  go_ret
  exact ⟨rfl, rfl⟩

set_option maxHeartbeats 1000000 in
theorem left_live (B : Nat) (l : List UInt8) (w : World) (h : Rd w B l) : Calls Tryd.prog 18 #[.pointer (some ⟨B, 0, none⟩)] w fun e w' => e = .returned (.int .i64 l.length) ∧ w = w' := by
  obtain ⟨b, o, c, hh, _, _⟩ := h
  obtain ⟨c0, c1, c2, _⟩ := in_cells hh
  clear hh
  go_enter Tryd.func18, Tryd.ntmps18
  go_wp2
  go_ret
  exact ⟨rfl, rfl⟩

/-- what 'take' comes to -/
def Took (w : World) (B n : Nat) (l : List UInt8) (e : Ending) (w' : World) : Prop :=
  ∃ b o, e = .returned (.slice (some ⟨b, o, none⟩) n n) ∧ Cells w' b o (l.take n) ∧ Rd w' B (l.drop n) ∧ w.grownBy w' (some B)
theorem took {w : World} {B b o c n b' o' c' : Nat} {l : List UInt8} {m : Nat} {e : Ending} (hh : w.heap[B]? = some (inObj (.slice (some ⟨b, o, none⟩) l.length c))) (hc : Cells w b o l) (hm : m = (l.drop n).length)
    (hc' : Cells w b' o' (l.drop n)) (hle : (l.drop n).length ≤ c') (hb' : b' < B) (he : e = .returned (.slice (some ⟨b, o, none⟩) n n)) : Took w B n l e (w.setCell ⟨B, 0, none⟩ (.slice (some ⟨b', o', none⟩) m c')) := by
  subst hm
  refine ⟨b, o, he, ?_, ⟨b', o', c', in_set _ hh, cells_set _ hh (by intro n h; cases h) hc', hle, hb'⟩, grown_set w B _⟩
  refine cells_set _ hh (by intro n h; cases h) ?_
  intro i hi
  simp only [List.length_take] at hi
  rw [hc i (by omega)]
  simp [List.getD, show i < n from by omega]
set_option maxHeartbeats 1000000 in
theorem take_live (B n : Nat) (l : List UInt8) (w : World) (h : Rd w B l) (hn : n ≤ l.length) (hl : l.length ≤ 150000000000000) :
    Calls Tryd.prog 89 #[.pointer (some ⟨B, 0, none⟩), .int .i64 n] w (Took w B n l) := by
  have he := err_live B l w h
  obtain ⟨b, o, c, hh, hc, hlc, hbB⟩ := h
  obtain ⟨c0, c1, c2, f0⟩ := in_cells hh
  have HH := Lib.hid hh; have HC := Lib.hid hc; have BB := Lib.hid hbB
  clear hh hc hbB
  go_enter Tryd.func89, Tryd.ntmps89
  go_wp2_with (go_at_call 17; refine he.mono ?_; rintro e w' ⟨rfl, rfl⟩)
  · rename_i hcn
    go_ret
    refine took HH.out HC.out (by simp) ?_ ?_ BB.out rfl
    · intro i hi; simp at hi; omega
    · simp; omega
  · go_ret
    refine took HH.out HC.out (by simp) ?_ ?_ BB.out rfl
    · intro i hi
      simp only [List.length_drop] at hi
      rw [Nat.add_assoc, HC.out (n + i) (by omega)]
      simp [List.getD]
    · simp; omega
end Go.Proofs.YtjmglgcifekhgaaDoor
/- A reader that Read made: number, on the bytes of a number. -/
namespace Go.Proofs.YtjmglgcifekhgaaDoor
open Go Go.RowKit

theorem shr_127 (P : Program) (k : Nat) (hk : k ≤ 8) (w : World) : Sem.run P (Op.shift BinOp.shr IntKind.u8 127 IntKind.i64 (k : Int)) w = .ok (.int .u8 ((127 / 2 ^ k : Nat) : Int)) w := by
  unfold Op.shift
  rw [if_neg (by omega)]
  have e2 : min k IntKind.u8.bits = k := by simp [IntKind.bits]; omega
  simp only [Int.toNat_natCast, e2]
  rw [Sem.run_pure]
  have : (127 : Int).fdiv (2 ^ k) = ((127 / 2 ^ k : Nat) : Int) := by
    rw [show ((2 : Int) ^ k) = ((2 ^ k : Nat) : Int) from by simp, Int.fdiv_eq_ediv_of_nonneg _ (Int.natCast_nonneg _)]; simp
  simp only [this]

theorem xor_255 (n : Nat) (h : n < 256) : bits BinOp.xor IntKind.u8 IntKind.u8.max (n : Int) = ((255 - n : Nat) : Int) := by
  have : ∀ n : Fin 256, (255 ^^^ n.val) = 255 - n.val := by decide +kernel
  rw [show IntKind.u8.max = ((255 : Nat) : Int) from rfl, u8_xor_nat _ _ (by omega) h, this ⟨n, h⟩]
/-- what reading comes to: a value, the bytes that are left, and nothing that was there is other, the reader aside -/
def Got (w : World) (B : Nat) (v : Value) (l : List UInt8) (e : Ending) (w' : World) : Prop := e = .returned v ∧ Rd w' B l ∧ w.grownBy w' (some B)

theorem Rd.carry {w w' : World} {B b o : Nat} {l m : List UInt8} (h : Rd w B l) (hc : Cells w b o m) (hg : w.grownBy w' (some B)) : Cells w' b o m := by
  obtain ⟨_, _, _, hh, _, _⟩ := h
  exact hc.grown hh (by intro n h; cases h) hg
theorem Cells.at {w : World} {b o : Nat} {l : List UInt8} (h : Cells w b o l) (i : Nat) (hi : i < l.length) (x : UInt8) (hx : l.getD i 0 = x) : w.cell? ⟨b, o + i, none⟩ = some (.int .u8 (x.toNat : Int)) := by rw [h i hi, hx]

set_option maxHeartbeats 2000000 in
set_option maxRecDepth 100000 in
theorem number_live (B x : Nat) (l : List UInt8) (w : World) (h : Rd w B (Cod.enc x ++ l)) (hx : x < 18446744073709551616) (hl : (Cod.enc x ++ l).length ≤ 150000000000000) :
    Calls Tryd.prog 73 #[.pointer (some ⟨B, 0, none⟩)] w (Got w B (.int .u64 x) l) := by
  have h8 := Cod.bh_le x
  have hlen := Cod.enc_length x
  have hz := head_ones x hx
  have hh := Cod.head_lt x hx
  have ht := top_of x hx
  have hbe : ∀ w, Calls Tryd.prog 86 #[.int .u64 x] w fun e w' => e = .returned (.int .i64 (Cod.bh x : Nat)) ∧ w = w' := behind_any x
  have hg0 : (Cod.enc x).getD 0 0 = UInt8.ofNat (Cod.head x (Cod.bh x)) := rfl
  obtain ⟨k, hk⟩ : ∃ k, k = Cod.bh x := ⟨_, rfl⟩
  obtain ⟨d, hd⟩ : ∃ d, d = UInt8.ofNat (Cod.head x (Cod.bh x)) := ⟨_, rfl⟩
  have hdn : d.toNat = Cod.head x (Cod.bh x) := by rw [hd, UInt8.toNat_ofNat', Nat.mod_eq_of_lt hh]
  rw [← hd] at hg0
  rw [← hdn] at hz ht hh
  rw [← hk] at hlen h8 hz ht hbe
  clear hd hdn
  have t1 := take_live B 1 _ w h (by rw [List.length_append, hlen]; omega) hl
  have HT := Lib.hid ht; have HK := Lib.hid hk; have HG0 := Lib.hid hg0; have HLEN := Lib.hid hlen; have HL := Lib.hid hl
  have HZ := Lib.hid hz
  clear ht hk hg0 hlen hz hl
  have s1 := shr_127 Tryd.prog k h8
  go_enter Tryd.func73, Tryd.ntmps73
  go_wp2_with fail
  refine t1.mono ?_
  rintro e w1 ⟨b1, o1, rfl, hc1, hr1, hg1⟩
  have e1 : (Cod.enc x ++ l).drop 1 = (Cod.enc x).drop 1 ++ l := by rw [List.drop_append_of_le_length (by rw [HLEN.out]; omega)]
  rw [e1] at hr1
  have c1 : w1.cell? ⟨b1, o1, none⟩ = some (.int .u8 (d.toNat : Int)) := by
    have := hc1.at 0 (by rw [List.length_take, List.length_append, HLEN.out]; omega) d (by rw [← HG0.out]; simp [Cod.enc])
    simpa using this
  have R1 := Lib.hid hr1; have G1 := Lib.hid hg1; have C1 := Lib.hid hc1
  clear e1 hr1 hg1 hc1 t1
  have z1 := lz8_any (255 - d.toNat) w1 (by omega)
  rw [HZ.out] at z1
  have hL2 := HL.out
  rw [List.length_append, HLEN.out] at hL2
  have hD : ((Cod.enc x).drop 1).length = k := by rw [List.length_drop, HLEN.out]; rfl
  have t2 := take_live B k _ w1 R1.out (by rw [List.length_append, hD]; omega) (by rw [List.length_append, hD]; omega)
  have HD := Lib.hid hD
  clear hD
  have hxor := xor_255 d.toNat hh
  go_wp2_with fail
  refine z1.mono ?_
  rintro e w' ⟨rfl, rfl⟩
  clear z1 hxor
  go_wp2_with fail
  refine t2.mono ?_
  rintro e w2 ⟨b2, o2, rfl, hc2, hr2, hg2⟩
  have e2 : ((Cod.enc x).drop 1 ++ l).drop k = l := by rw [List.drop_append_of_le_length (by rw [HD.out]; exact Nat.le_refl _), List.drop_of_length_le (by rw [HD.out]; exact Nat.le_refl _)]; rfl
  have e3 : ((Cod.enc x).drop 1 ++ l).take k = Cod.dig k x := by
    rw [List.take_append_of_le_length (by rw [HD.out]; exact Nat.le_refl _), List.take_of_length_le (by rw [HD.out]; exact Nat.le_refl _), HK.out]; rfl
  rw [e2] at hr2
  rw [e3] at hc2
  have c2 : w2.cell? ⟨b1, o1, none⟩ = some (.int .u8 (d.toNat : Int)) := by
    have := (R1.out.carry C1.out hg2).at 0 (by rw [List.length_take, List.length_append, HLEN.out]; omega) d (by rw [← HG0.out]; simp [Cod.enc])
    simpa using this
  have R2 := Lib.hid hr2; have G2 := Lib.hid (grown_trans G1.out hg2); have C2 := Lib.hid hc2
  clear e2 e3 hr2 hg2 hc2 t2 c1 R1 G1 C1
  have hand : bits BinOp.and IntKind.u8 (d.toNat : Int) ((127 / 2 ^ k : Nat) : Int) = ((x / 256 ^ k : Nat) : Int) := by
    rw [u8_and_nat _ _ hh (Nat.lt_of_le_of_lt (Nat.div_le_self _ _) (by omega)), HT.out]
  go_wp2
  go_quiet (fail)
  have hu0 : IntKind.u64.wrap (bits BinOp.and IntKind.u8 (d.toNat : Int) (127 / 2 ^ k)) = ((x / 256 ^ (k - 0) : Nat) : Int) := by
    rw [show ((127 : Int) / 2 ^ k) = ((127 / 2 ^ k : Nat) : Int) from by simp, hand, Nat.sub_zero]
    have : x / 256 ^ k ≤ x := Nat.div_le_self _ _
    generalize x / 256 ^ k = t at this ⊢
    simp [IntKind.wrap, IntKind.bits, IntKind.signed]
    omega
  rw [hu0]
  clear hand hu0 c2 s1
  go_wp2
  go_loop [6, 33] (fun u i => ∃ j : Nat, j ≤ k ∧ i = .int .i64 j ∧ u = .int .u64 (x / 256 ^ (k - j) : Nat)) (fun _ i => k - (intOf i).toNat)
  case atStart => exact ⟨0, Nat.zero_le _, rfl, rfl⟩
  case round =>
    obtain ⟨j, hj, rfl, rfl⟩ := hrel
    by_cases hjk : j < k
    · have hc : w2.cell? ⟨b2, o2 + j, none⟩ = some (.int .u8 ((UInt8.ofNat (x / 256 ^ (k - 1 - j))).toNat : Int)) := C2.out.at j (by rw [Cod.dig_length]; exact hjk) _ (Cod.dig_get k x j hjk)
      have hq : x / 256 ^ (k - j) = x / 256 ^ (k - 1 - j) / 256 := by rw [Nat.div_div_eq_div_mul, show k - j = (k - 1 - j) + 1 from by omega, Nat.pow_succ]
      have hy : x / 256 ^ (k - 1 - j) ≤ x := Nat.div_le_self _ _
      have hk1 : k - (j + 1) = k - 1 - j := by omega
      have HK1 := Lib.hid hk1
      clear hk1
      rw [hq]
      obtain ⟨y, hyy⟩ : ∃ y, y = x / 256 ^ (k - 1 - j) := ⟨_, rfl⟩
      rw [← hyy] at hc hy ⊢
      obtain ⟨c, hcc⟩ : ∃ c, c = UInt8.ofNat y := ⟨_, rfl⟩
      rw [← hcc] at hc
      have hcn : c.toNat = y % 256 := by rw [hcc, UInt8.toNat_ofNat']
      obtain ⟨u, hu⟩ : ∃ u, u = y / 256 := ⟨_, rfl⟩
      rw [← hu]
      have hub : u * 256 < 18446744073709551616 := by omega
      have hor : bits BinOp.or IntKind.u64 ((u : Int) * 256) (c.toNat : Int) = (y : Int) := by
        rw [show ((u : Int) * 256) = ((u * 256 : Nat) : Int) from by simp, u64_or_nat _ _ (by omega) (by omega)]
        have := Nat.two_pow_add_eq_or_of_lt (i := 8) (b := c.toNat) (by omega) u
        rw [show u * 256 = 2 ^ 8 * u from by omega, ← this]
        omega
      have hcb : c.toNat < 256 := by omega
      have HY := Lib.hid hyy
      clear hyy hcc hcn hu hq hy
      go_wp2
      go_round
      case rel => exact ⟨j + 1, by omega, by go_num, by rw [HK1.out, ← HY.out]⟩
      case measure => simp [intOf]; omega
    · obtain rfl : j = k := by omega
      have hb0 := hbe (w2.drewN nq)
      rw [Nat.sub_self, Nat.pow_zero, Nat.div_one]
      go_wp2_with (go_at_call 86; refine hb0.mono ?_; rintro e w' ⟨rfl, rfl⟩)
      go_ret
      exact ⟨rfl, R2.out, ⟨G2.out.os, G2.out.tape, G2.out.output, G2.out.size, G2.out.block⟩⟩
set_option maxHeartbeats 1000000 in
theorem numIn_live (B x : Nat) (most : Int) (l : List UInt8) (w : World) (h : Rd w B (Cod.enc x ++ l)) (hx : (x : Int) ≤ most) (hm : most ≤ 9223372036854775807) (hl : (Cod.enc x ++ l).length ≤ 150000000000000) :
    Calls Tryd.prog 45 #[.pointer (some ⟨B, 0, none⟩), .int .i64 most] w (Got w B (.int .i64 x) l) := by
  have hn := number_live B x l w h (by omega) hl
  have hz : (x : Int) / 9223372036854775808 = 0 := by omega
  clear h hl
  go_enter Tryd.func45, Tryd.ntmps45
  go_wp2_with (go_at_call 73; refine hn.mono ?_; rintro e w1 ⟨rfl, hr, hg⟩)
  go_ret
  exact ⟨rfl, hr, hg⟩

theorem xor_i64_ones (q : Nat) (h : q ≤ 9223372036854775807) : bits BinOp.xor IntKind.i64 (q : Int) (-1) = -1 - (q : Int) := by
  have e1 : (BitVec.ofInt 64 (-1)).toNat = 18446744073709551615 := by decide +kernel
  have e2 : (BitVec.ofInt 64 (q : Int)).toNat = q := by rw [BitVec.ofInt_natCast, BitVec.toNat_ofNat, Nat.mod_eq_of_lt (by omega)]
  have e3 : bits BinOp.xor IntKind.i64 (q : Int) (-1) = IntKind.i64.wrap (((BitVec.ofInt 64 (q : Int) ^^^ BitVec.ofInt 64 (-1)).toNat : Nat) : Int) := rfl
  rw [e3, BitVec.toNat_xor, e1, e2, xor_ones q (by omega), IntKind.wrap_i64]
  omega
theorem xor_i64_zero (q : Nat) (h : q ≤ 9223372036854775807) : bits BinOp.xor IntKind.i64 (q : Int) 0 = (q : Int) := by
  have e1 : (BitVec.ofInt 64 0).toNat = 0 := by decide +kernel
  have e2 : (BitVec.ofInt 64 (q : Int)).toNat = q := by rw [BitVec.ofInt_natCast, BitVec.toNat_ofNat, Nat.mod_eq_of_lt (by omega)]
  have e3 : bits BinOp.xor IntKind.i64 (q : Int) 0 = IntKind.i64.wrap (((BitVec.ofInt 64 (q : Int) ^^^ BitVec.ofInt 64 0).toNat : Nat) : Int) := rfl
  rw [e3, BitVec.toNat_xor, e1, e2, Nat.xor_zero, IntKind.wrap_i64]
  omega
theorem zz_back {n : Int} (h : -9223372036854775808 ≤ n ∧ n ≤ 9223372036854775807) : (n < 0 → zz n % 2 = 1 ∧ n = -1 - ((zz n / 2 : Nat) : Int)) ∧ (0 ≤ n → zz n % 2 = 0 ∧ n = ((zz n / 2 : Nat) : Int)) := by
  unfold zz
  constructor <;> intro h0
  · rw [if_pos h0]; omega
  · rw [if_neg (by omega)]; omega

set_option maxHeartbeats 1000000 in
theorem textIn_live (B : Nat) (most : Int) (t l : List UInt8) (w : World) (h : Rd w B (Cod.enc t.length ++ (t ++ l))) (hx : (t.length : Int) ≤ most) (hm : most ≤ 9223372036854775807) (hl : (Cod.enc t.length ++ (t ++ l)).length ≤ 150000000000000) :
    Calls Tryd.prog 75 #[.pointer (some ⟨B, 0, none⟩), .int .i64 most] w (Got w B (.string ⟨t.toArray⟩) l) := by
  have hn := numIn_live B t.length most (t ++ l) w h hx hm hl
  rw [List.length_append] at hl
  have hl2 : (t ++ l).length ≤ 150000000000000 := by omega
  clear h hl
  go_enter Tryd.func75, Tryd.ntmps75
  go_wp2_with fail
  refine hn.mono ?_
  rintro e w1 ⟨rfl, hr, hg⟩
  have ht := take_live B t.length (t ++ l) w1 hr (by rw [List.length_append]; omega) hl2
  clear hn hr
  go_wp2_with fail
  refine ht.mono ?_
  rintro e w2 ⟨b, o, rfl, hc, hr2, hg2⟩
  rw [List.take_append_of_le_length (Nat.le_refl _), List.take_length] at hc
  rw [List.drop_append_of_le_length (Nat.le_refl _), List.drop_length, List.nil_append] at hr2
  have hcv := hc.lies.convert (P := Tryd.prog) t.length rfl t.length 41 5 9 Tryd.underlying41 Tryd.underlying5 Tryd.underlying9
  have R := Lib.hid hr2; have G := Lib.hid (grown_trans hg hg2)
  clear ht hr2 hg hg2 hc
  go_wp2_with fail
  go_ret
  exact ⟨rfl, R.out, G.out⟩
end Go.Proofs.YtjmglgcifekhgaaDoor
/- docs: a dot that was written is read. -/
namespace Go.Proofs.YtjmglgcifekhgaaDoor
open Go Go.RowKit
set_option linter.unusedVariables false
set_option maxRecDepth 1000000

theorem Rd.lt' {w : World} {B : Nat} {l : List UInt8} (h : Rd w B l) : B < w.heap.size := by
  obtain ⟨b, o, c, h1, _⟩ := h
  exact (Array.getElem?_eq_some_iff.1 h1).1
theorem Rd.under' {w w' : World} {B T : Nat} {l : List UInt8} (h : Rd w B l) (hT : B < T) (hb : Below T w w') : Rd w' B l := by
  obtain ⟨b, o, c, h1, h2, h3, h4⟩ := h
  refine ⟨b, o, c, (hb.block B hT).trans h1, fun i hi => ?_, h3, h4⟩
  rw [World.cell?_of_block (w := w) (hb.block b (by omega))]
  exact h2 i hi
theorem Rd.on {w w' : World} {B : Nat} {l : List UInt8} (h : Rd w B l) (hb : Below w.heap.size w w') : Rd w' B l := h.under' h.lt' hb
/-- what turned is block R alone, and what is new -/
theorem grown_on {a w w' : World} {R : Option Nat} (h : a.grownBy w R) (hb : Below a.heap.size w w') : a.grownBy w' R :=
  ⟨hb.os.trans h.os, hb.tape.trans h.tape, hb.output.trans h.output, Nat.le_trans h.size hb.size, fun i hi hne => (hb.block i hi).trans (h.block i hi hne)⟩
theorem grown_self (w : World) (R : Option Nat) : w.grownBy w R := ⟨rfl, rfl, rfl, Nat.le_refl _, fun _ _ _ => rfl⟩
theorem grown_less {w w' : World} {R : Option Nat} (h : Below w.heap.size w w') : w.grownBy w' R := grown_on (grown_self w R) h
theorem sizeDt (r n : Int) : (Tryd.prog.info? 28).map (·.size) = some (dcs r n).size := by kernel_rfl
/-- what reading a dot comes to -/
def GotW (w : World) (B : Nat) (v : Value) (l : List UInt8) (e : Ending) (w' : World) : Prop := e = .returned v ∧ Rd w' B l ∧ w.grownBy w' (some B)
set_option maxHeartbeats 4000000 in
theorem readDot_live (B : Nat) (r n : Int) (l : List UInt8) (w : World) (h : Rd w B (dotB (r, n) ++ l)) (hv : vldB r n = true) (hl : l.length ≤ 149000000000000) :
    Calls Tryd.prog 74 #[.pointer (some ⟨B, 0, none⟩)] w (GotW w B (.agg (dcs r n)) l) := by
  have hv2 := (vld_iff r n).1 hv
  obtain ⟨r', rfl⟩ : ∃ r' : Nat, r = (r' : Int) := ⟨r.toNat, by omega⟩
  obtain ⟨n', rfl⟩ : ∃ n' : Nat, n = (n' : Int) := ⟨n.toNat, by omega⟩
  have hE : dotB ((r' : Int), (n' : Int)) ++ l = Cod.enc r' ++ (Cod.enc n' ++ l) := by unfold dotB; simp only [Int.toNat_natCast, List.append_assoc]
  rw [hE] at h
  have e1 := enc_len r'; have e2 := enc_len n'
  have HB := Lib.hid h.lt'
  have H := Lib.hid h
  clear h hv hE
  go_enter Tryd.func74, Tryd.ntmps74
  have hb1 := below_alloc w (.cells #[.int .i64 0, .int .i64 0] 28)
  have K1 := Lib.hid (heap_alloc_new w (.cells #[.int .i64 0, .int .i64 0] 28))
  have R1 := Lib.hid (H.out.on hb1)
  have G1 := Lib.hid (grown_less (R := some B) hb1)
  have N1 := Lib.hid (numIn_live B r' 63 (Cod.enc n' ++ l) _ R1.out (by omega) (by omega) (by simp only [List.length_append]; omega))
  clear hb1
  go_wp2_with fail
  refine N1.out.mono ?_
  rintro e w2 ⟨rfl, hr2, hg⟩
  have G2 := Lib.hid (grown_trans G1.out hg)
  have K2 := Lib.hid ((hg.block w.heap.size (by simp) (by have := HB.out; simp; omega)).trans K1.out)
  have N2 := Lib.hid (numIn_live B n' 1073741824 l w2 hr2 (by omega) (by omega) (by simp only [List.length_append]; omega))
  clear hr2 hg N1 K1
  go_wp2_with fail
  refine N2.out.mono ?_
  rintro e w3 ⟨rfl, hr3, hg⟩
  have S2 := Lib.hid G2.out.size
  have hlt : w.heap.size < w2.heap.size := (Array.getElem?_eq_some_iff.1 K2.out).1
  have G3 := Lib.hid (grown_trans G2.out hg)
  have K3 := Lib.hid ((hg.block w.heap.size hlt (by have := HB.out; simp; omega)).trans K2.out)
  have hb3 := below_alloc w3 (.cells #[.int .i64 (r' : Int), .int .i64 (n' : Int)] 28)
  have R4 := Lib.hid (hr3.on hb3)
  have G4 := Lib.hid (grown_on G3.out (hb3.mono G3.out.size))
  have K4 := Lib.hid ((hb3.block w.heap.size (Array.getElem?_eq_some_iff.1 K3.out).1).trans K3.out)
  have E3 := Lib.hid (err_live B l _ R4.out)
  clear hr3 hg N2 K2 hlt
  go_wp2_with fail
  refine E3.out.mono ?_
  rintro e w5 ⟨rfl, rfl⟩
  go_wp2_with (refine wpList_gstore rfl _ _ rfl w.heap.size rfl (dcs (r' : Int) (n' : Int)) rfl _ _ K4.out (sizeDt _ _) rfl (by intro u hu; simp [dcs] at hu; rcases hu with rfl | rfl <;> rfl) ?_)
  intro w6 h6 g6
  have b6 := grown_below g6 G4.out.size (Nat.le_refl _)
  have H6 := Lib.hid h6
  have R6 := Lib.hid (R4.out.under' HB.out (grown_below g6 G4.out.size (Nat.le_refl _)))
  have G6 : Hid (w.grownBy w6 (some B)) := Lib.hid ⟨g6.os.trans G4.out.os, g6.tape.trans G4.out.tape, g6.output.trans G4.out.output, Nat.le_trans G4.out.size g6.size, fun i hi hne => (g6.block i (Nat.lt_of_lt_of_le hi G4.out.size) (by simp; omega)).trans (G4.out.block i hi hne)⟩
  clear h6 g6 b6 hb3
  go_wp2
  exact bodyPost_ret (v := .agg (dcs (r' : Int) (n' : Int))) (results_cell_row rfl _ w6 w.heap.size _ _ (0, 0) _ rfl H6.out Tryd.underlying28 rfl (sizeDt _ _)) rfl ⟨rfl, R6.out, G6.out⟩
set_option maxRecDepth 1000000

/-- what reading an event comes to -/
def GotEv (w : World) (B : Nat) (E : Ev) (l : List UInt8) (e : Ending) (w' : World) : Prop := ∃ x : EvP, x.e = E ∧ e = .returned (.agg x.cells.toArray) ∧ x.Ok w' ∧ Rd w' B l ∧ w.grownBy w' (some B)
theorem grown_step {w a b : World} {B : Nat} (h : w.grownBy a (some B)) (hg : a.grownBy b (some B)) (hB : B < w.heap.size) {g : Nat} {o : Obj} (hge : w.heap.size ≤ g) (k : a.heap[g]? = some o) : b.heap[g]? = some o :=
  (hg.block g (Array.getElem?_eq_some_iff.1 k).1 (by simp; omega)).trans k
/-- what turned beside block R is new -/
theorem grown_onE {a w w' : World} {R : Option Nat} {g : Nat} (h : a.grownBy w R) (hg : w.grownBy w' (some g)) (hge : a.heap.size ≤ g) : a.grownBy w' R :=
  ⟨hg.os.trans h.os, hg.tape.trans h.tape, hg.output.trans h.output, Nat.le_trans h.size hg.size, fun i hi hne => (hg.block i (Nat.lt_of_lt_of_le hi h.size) (by simp; omega)).trans (h.block i hi hne)⟩
theorem own_keep {w w' : World} {B0 : Nat} {ty : TypeId} {k n : Nat} {v : Value} {xs : List Value} {row : Option Nat} (h : w.ownsRow B0 ty k v n xs) (hg : w.grownBy w' row) (hne : v.ownBlock = none ∨ v.ownBlock ≠ row) : w'.ownsRow B0 ty k v n xs := by
  refine ⟨h.1, ?_⟩
  rcases h.2 with q | ⟨g, cap, cur, rfl, q2, q3, q4⟩
  · exact .inl q
  · refine .inr ⟨g, cap, cur, rfl, q2, ?_, q4⟩
    refine (hg.block g (Array.getElem?_eq_some_iff.1 q3).1 ?_).trans q3
    rcases hne with h | h
    · cases h
    · exact h
theorem own_not {w : World} {B0 : Nat} {ty : TypeId} {k n : Nat} {v : Value} {xs : List Value} (h : w.ownsRow B0 ty k v n xs) {g : Nat} {cs : Array Value} {T : TypeId} {m : Nat × Nat} (hg : w.heap[g]? = some (.cells cs T m)) (hne : T ≠ ty) : some g ≠ v.ownBlock := by
  rcases h.2 with ⟨rfl, _⟩ | ⟨g', cap, cur, rfl, _, q3, _⟩
  · intro e; cases e
  · intro e
    have : g = g' := by simpa [Value.ownBlock] using e
    subst this
    rw [q3] at hg
    injection hg with hg
    injection hg with _ h2
    exact hne h2.symm
theorem own_above {w : World} {B0 : Nat} {ty : TypeId} {k n : Nat} {v : Value} {xs : List Value} (h : w.ownsRow B0 ty k v n xs) {R : Nat} (hR : R < B0) : v.ownBlock = none ∨ v.ownBlock ≠ some R := by
  rcases h.2 with ⟨rfl, _⟩ | ⟨g', cap, cur, rfl, q, _⟩
  · exact .inl rfl
  · right
    intro e
    have : g' = R := by simpa [Value.ownBlock] using e
    omega
theorem exec_appendV {P : Program} {o : Oper} {a : Act} {w : World} {t : TypeId} (s x : Operand) (ho : o.op = .call { callee := .builtin .append, args := #[s, x], argTypes := #[t, t] }) (v xv : Value) (hs : a.eval s = v) (hx : a.eval x = xv) {v' : Value} {w' : World} (hrun : (Builtin.append_ #[t, t] o.type #[v, xv]).run P w = .ok v' w') :
    (execOp a.eval o).run P w = .ok (.value v') w' := by
  simp [execOp, ho, resolve, invoke, builtin, hs, hx, hrun, Result.andThen]
theorem exec_storeV {P : Program} {o : Oper} {a : Act} {w : World} (t : TypeId) (x y : Operand) (ho : o.op = .store t x y) (hsz : ∀ w : World, (sizeOf t).run P w = .ok 1 w) (p : Addr) (q : Option Addr) (n c : Nat) (old : Value) (hx : a.eval x = .pointer (some p)) (hy : a.eval y = .slice q n c)
    (hc : w.cell? p = some old) (hf : w.frozen? p = false) : (execOp a.eval o).run P w = .ok .skip (w.setCell p (.slice q n c)) := by
  unfold execOp
  simp only [ho, hx, hy]
  have hs := hsz w
  go_simp
theorem rgd_two {P : Program} {ops : Array Oper} {o o2 : Oper} {a : Act} {w : World} {Q : Exit → Act → World → Prop} {S : World → Prop} {md : Region.Mode} {fuel : Nat} {listed : Array Bool} (i j : Nat) (d d2 : Option Tmp) (hr : Region.ready md ops listed = [i, j]) (hi : ops[i]? = some o) (hd : o.dst = d) (hw : Region.wanted o (yielded ops a.tmps) = true) (v : Value) (w' : World) (hrun : (execOp a.eval o).run P w = .ok (.value v) w')
    (hj : ops[j]? = some o2) (hd2 : o2.dst = d2) (hw2 : Region.wanted o2 (yielded ops a.tmps) = true) (f : FuncId) (args : Array Value) {Post : Ending → World → Prop} (hrun2 : (execOp a.eval o2).run P w = .ok (.enter f args) w) (hc : Calls P f args w Post) (hS : S w')
    (h : wpAnyH P md ops Q S fuel (listed.setIfInBounds i true) (a.put d v) w')
    (h2 : ∀ e w', Post e w' → ∃ v, e = .returned v ∧ S w' ∧ wpAnyH P md ops Q S fuel (listed.setIfInBounds j true) (a.put d2 v) w') : wpAnyH P md ops Q S (fuel + 1) listed a w := by
  subst hd; subst hd2; exact rg_two i j hr hi hw v w' hrun hj hw2 f args hrun2 hc hS h h2
/-- an event's cells, its dots not there yet -/
def evAt (r n t k : Int) (d : ByteArray) (f : Int) (x : ByteArray) (u : Value) : Array Value := #[.int .i64 r, .int .i64 n, .int .i64 t, .int .i64 k, .string d, .int .i64 f, .string x, u]
theorem flat_drop (l : List Dt) (k : Nat) (h : k < l.length) : (l.drop k).flatMap dotB = dotB l[k] ++ (l.drop (k + 1)).flatMap dotB := by
  rw [List.drop_eq_getElem_cons h, List.flatMap_cons]
theorem dcl_take (l : List Dt) (k : Nat) (h : k < l.length) : dcl (l.take (k + 1)) = dcl (l.take k) ++ [.int .i64 l[k].1, .int .i64 l[k].2] := by
  rw [List.take_succ_eq_append_getElem h, dcl_append]; rfl
theorem str_back (s : ByteArray) : (⟨s.data.toList.toArray⟩ : ByteArray) = s := by simp
theorem wrB_len (e : Ev) : (wrB e).length ≤ 3000 := by
  unfold wrB
  split
  · rename_i h
    have F := fine_of h
    unfold evB
    simp only [List.length_append, Array.length_toList, ByteArray.size_data]
    have := dotB_len (e.rep, e.n); have := enc_len e.time.toNat; have := enc_len e.kind.toNat; have := enc_len e.doc.size; have := enc_len e.field.toNat; have := enc_len e.text.size; have := enc_len e.gone.length; have := flat_dots_len e.gone
    have := F.doc; have := F.many; have := F.text
    omega
  · simp
end Go.Proofs.YtjmglgcifekhgaaDoor
/- Writes: how they lie; slices.Clone of them. -/
namespace Go.Proofs
open Go.Shelf
def Tryd.laysCloneW_ren : Go.Shelf.Ren := ⟨fun | 41 => 26 | n => n, fun | 22 => 24 | 23 => 50 | 4 => 4 | n => n, fun | n => n⟩
theorem Tryd.laysCloneW : Go.Proofs.SlLaysE0.n41 Tryd.prog Tryd.laysCloneW_ren := {
  mixed := by kernel_rfl
  f41 := ⟨Tryd.f26.name, by decide, Tryd.func26.trans (congrArg some (by kernel_rfl))⟩
  t4 := Tryd.underlying4
  a4 := Tryd.isAgg4
  z4 := Tryd.sizeOf4
  v4 := Tryd.zeroValue4
  t22 := Tryd.underlying24
  a22 := Tryd.isAgg24
  z22 := Tryd.sizeOf24
  v22 := Tryd.zeroValue24 }
end Go.Proofs
namespace Go.Proofs.YtjmglgcifekhgaaDoor
open Go Go.RowKit
set_option linter.unusedVariables false
set_option maxRecDepth 1000000

/-- a write -/
structure Wr where
  rep : Int
  n : Int
  time : Int
  doc : ByteArray
  field : Int
  text : ByteArray
def Wr.cells (x : Wr) : List Value := [.int .i64 x.rep, .int .i64 x.n, .int .i64 x.time, .string x.doc, .int .i64 x.field, .string x.text]
theorem Wr.cells_len (x : Wr) : x.cells.length = 6 := rfl
theorem Wr.cells_one (x : Wr) : ∀ u ∈ x.cells, u.oneCell' = true := by
  intro u hu
  simp [Wr.cells] at hu
  rcases hu with rfl | rfl | rfl | rfl | rfl | rfl <;> rfl
def Wr.dot (x : Wr) : Dt := (x.rep, x.n)
def wcl (L : List Wr) : List Value := L.flatMap Wr.cells
theorem wcl_length (L : List Wr) : (wcl L).length = L.length * 6 := flat_len Wr.cells_len L
theorem wcl_append (a b : List Wr) : wcl (a ++ b) = wcl a ++ wcl b := by simp [wcl]
theorem wcl_one (L : List Wr) : ∀ u ∈ wcl L, u.oneCell' = true := by
  intro u hu
  obtain ⟨x, _, h⟩ := List.mem_flatMap.1 hu
  exact x.cells_one u h
theorem wcl_take : ∀ (L : List Wr) (k : Nat), wcl (L.take k) = (wcl L).take (k * 6)
  | [], k => by simp [wcl]
  | x :: L, 0 => by simp [wcl]
  | x :: L, k + 1 => by
    have h := wcl_take L k
    rw [List.take_succ_cons, show wcl (x :: L.take k) = x.cells ++ wcl (L.take k) from rfl, show wcl (x :: L) = x.cells ++ wcl L from rfl, h, show (k + 1) * 6 = x.cells.length + k * 6 by rw [Wr.cells_len]; omega, List.take_length_add_append]
/-- writes that lie at p -/
structure WrsAt (w : World) (p : Option Addr) (L : List Wr) : Prop where
  row : L ≠ [] → ∃ b o, p = some ⟨b, o, none⟩ ∧ w.rangeAt b o (wcl L)
  none : p = none → L = []
theorem WrsAt.below {w w' : World} {p : Option Addr} {L : List Wr} (h : WrsAt w p L) (hb : Below w.heap.size w w') : WrsAt w' p L :=
  ⟨fun hn => by
    obtain ⟨b, o, rfl, hr⟩ := h.row hn
    exact ⟨b, o, rfl, range_below hr hb⟩, h.none⟩
theorem WrsAt.at {w : World} {p : Option Addr} {L : List Wr} (h : WrsAt w p L) {i : Nat} (hi : i < L.length) :
    ∃ b o, p = some ⟨b, o, Option.none⟩ ∧ b < w.heap.size ∧ w.rangeAt b (o + i * 6) L[i].cells := by
  obtain ⟨b, o, rfl, hr⟩ := h.row (by intro e; subst e; simp at hi)
  have hr2 : w.rangeAt b (o + i * 6) L[i].cells := fun j u hu => by
    have hj : j < 6 := (List.getElem?_eq_some_iff.1 hu).1
    have := hr (i * 6 + j) u (by rw [show wcl L = L.flatMap Wr.cells from rfl, flat_get Wr.cells_len L i hi j hj]; exact hu)
    rw [Nat.add_assoc]; exact this
  exact ⟨b, o, rfl, World.block_lt_of_cell? w _ (hr2 0 _ rfl), hr2⟩
theorem wr_cells {w : World} {b o : Nat} {x : Wr} (h : w.rangeAt b o x.cells) :
    w.cell? ⟨b, o, none⟩ = some (.int .i64 x.rep) ∧ w.cell? ⟨b, o + 1, none⟩ = some (.int .i64 x.n) ∧ w.cell? ⟨b, o + 2, none⟩ = some (.int .i64 x.time) ∧ w.cell? ⟨b, o + 3, none⟩ = some (.string x.doc) ∧ w.cell? ⟨b, o + 4, none⟩ = some (.int .i64 x.field) ∧ w.cell? ⟨b, o + 5, none⟩ = some (.string x.text) :=
  ⟨h 0 _ rfl, h 1 _ rfl, h 2 _ rfl, h 3 _ rfl, h 4 _ rfl, h 5 _ rfl⟩
theorem infoWr : (Tryd.prog.info? 50).map (fun i => (i.zero, i.size, i.bytes)) = some (some (.agg #[.int .i64 0, .int .i64 0, .int .i64 0, .string ByteArray.empty, .int .i64 0, .string ByteArray.empty]), 6, 64) := by kernel_rfl
theorem sizeWr (x : Wr) : (Tryd.prog.info? 50).map (·.size) = some x.cells.length := by rw [Wr.cells_len]; kernel_rfl
/-- slices.Clone of writes -/
theorem cloneW_is (p : Option Addr) (c : Nat) (L : List Wr) (w : World) (h : WrsAt w p L) (ho : ∀ a, p = some a → ∃ b o, a = ⟨b, o, none⟩) (hbig : L.length ≤ 10000) :
    Calls Tryd.prog 26 #[.slice p L.length c] w fun e w' => ∃ v, e = .returned v ∧ w'.ownsRow w.heap.size 50 6 v L.length (wcl L) ∧ Below w.heap.size w w' := by
  cases p with
  | none =>
    obtain rfl := h.none rfl
    exact (AnyE.slices_Clone_nil Tryd.laysCloneW 0 c w).mono fun e w' ⟨h1, h2⟩ => ⟨_, h1, h2 ▸ ⟨rfl, .inl ⟨rfl, rfl⟩⟩, h2 ▸ Below.refl _ _⟩
  | some a =>
    obtain ⟨b, o, rfl⟩ := ho a rfl
    obtain ⟨i0, hi, hz0, hz1, hz2⟩ := info_parts infoWr
    refine (AnyE.slices_Clone Tryd.laysCloneW i0 _ 6 64 hi hz0 hz1 hz2 rfl (by decide) Tryd.sizeOf50 b o L.length c (wcl L) w (wcl_length L) (by unfold maxLen; omega) (by omega) ?_ (wcl_one L)).mono fun e w' ⟨v, h1, h2, h3, h4⟩ => ⟨v, h1, h2, h4⟩
    intro j u hu
    by_cases hn : L = []
    · subst hn; simp [wcl] at hu
    · obtain ⟨b', o', e, hr⟩ := h.row hn
      cases e
      exact hr j u hu
/-- a row of writes of a call's own lies where it lies -/
theorem own_wat {w : World} {B : Nat} {v : Value} {L : List Wr} (hr : w.ownsRow B 50 6 v L.length (wcl L)) : ∃ p c, v = .slice p L.length c ∧ L.length ≤ c ∧ WrsAt w p L ∧ (∀ a, p = some a → ∃ b o, a = ⟨b, o, Option.none⟩) := by
  rcases hr.2 with ⟨rfl, h0⟩ | ⟨g, cap, cur, rfl, hB, hg, hc, hm, hs, ht⟩
  · have : L = [] := List.eq_nil_of_length_eq_zero h0
    subst this
    exact ⟨none, 0, rfl, Nat.le_refl _, ⟨fun hn => absurd rfl hn, fun _ => rfl⟩, fun a ha => by cases ha⟩
  · refine ⟨some ⟨g, 0, none⟩, cap, rfl, hc, ⟨fun _ => ⟨g, 0, rfl, fun j u hu => ?_⟩, fun e => by cases e⟩, fun a ha => by obtain rfl := Option.some.inj ha; exact ⟨g, 0, rfl⟩⟩
    have hj : j < L.length * 6 := by rw [← wcl_length]; exact (List.getElem?_eq_some_iff.1 hu).1
    have := hr.cellAt j hj
    rw [Nat.zero_add, this]; exact hu
/-- the first ones of a row of one's own -/
theorem own_front {w : World} {B n c g k i : Nat} {e : TypeId} {xs : List Value} (h : w.ownsRow B e k (.slice (some ⟨g, 0, none⟩) n c) n xs) (hi : i ≤ n) : w.ownsRow B e k (.slice (some ⟨g, 0, none⟩) i c) i (xs.take (i * k)) := by
  have hx := h.1
  rcases h.2 with ⟨h1, _⟩ | ⟨g', cap, cur, h1, hB, hg, hc, hm, hs, ht⟩
  · cases h1
  · injection h1 with h1 _ h3
    injection h1 with h1
    injection h1 with h1 _ _
    subst h1; subst h3
    have hk : i * k ≤ n * k := Nat.mul_le_mul_right k hi
    refine ⟨by rw [List.length_take, hx]; omega, .inr ⟨g, c, cur, rfl, hB, hg, Nat.le_trans hi hc, hm, hs, ?_⟩⟩
    rw [← ht, List.take_take, Nat.min_eq_left hk]
set_option maxRecDepth 1000000

/-- a closure that tells of writes, one by one, in worlds that meet S -/
structure TellW (F : FuncId) (caps : Array Value) (goes : Wr → Bool) (B : Nat) (S : World → Prop) : Prop where
  enter : ∀ args w, (callFunc F args).run Tryd.prog w = .ok (.enter F args) w
  tell : ∀ (x : Wr) (w : World), S w → Calls Tryd.prog F (#[.agg x.cells.toArray] ++ caps) w (RetBool w (goes x))
  keep : ∀ w w', S w → Below B w w' → S w'
/-- the first that goes -/
def IdxW (w : World) (goes : Wr → Bool) (L : List Wr) (e : Ending) (w' : World) : Prop :=
  ∃ i : Int, e = .returned (.int .i64 i) ∧ ((i = -1 ∧ ∀ x ∈ L, goes x = false) ∨ (∃ k : Nat, i = k ∧ k < L.length ∧ (∀ y, L[k]? = some y → goes y = true) ∧ ∀ x ∈ L.take k, goes x = false)) ∧ Below w.heap.size w w'
set_option maxHeartbeats 8000000 in
theorem idxW_is (F : FuncId) (caps : Array Value) (goes : Wr → Bool) (B : Nat) (S : World → Prop) (TW : TellW F caps goes B S) (p : Option Addr) (c : Nat) (L : List Wr) (w : World) (hS : S w) (hB : B ≤ w.heap.size) (h : WrsAt w p L) (hn : L.length ≤ 10000) :
    Calls Tryd.prog 81 #[.slice p L.length c, .func (.func F) #[] caps] w (IdxW w goes L) := by
  have EV := Lib.hid h; have HS := Lib.hid hS; have HT := Lib.hid TW; have HB := Lib.hid hB
  clear h hS TW hB
  go_enter Tryd.func81, Tryd.ntmps81
  go_wp2
  go_loopw [8] (fun i wr => ∃ j : Nat, j ≤ L.length ∧ i = .int .i64 j ∧ (∀ x ∈ L.take j, goes x = false) ∧ Below w.heap.size w wr) (fun i _ => L.length - (intOf i).toNat)
  case atStart => exact ⟨0, Nat.zero_le _, rfl, fun x hx => by simp at hx, Below.refl _ _⟩
  case round =>
    obtain ⟨j, hj, rfl, hno, hb⟩ := hrel
    have BB := Lib.hid hb; have NO := Lib.hid hno
    clear hno
    by_cases hjl : j < L.length
    · have hjl' : (j : Int) < L.length := by omega
      obtain ⟨b, o, rfl, hlt, hr⟩ := (EV.out.below hb).at hjl
      obtain ⟨c0, c1, c2, c3, c4, c5⟩ := wr_cells hr
      have hget : Hid (L[j]? = some L[j]) := Lib.hid (List.getElem?_eq_getElem hjl)
      have TS : Hid (L.take (j + 1) = L.take j ++ [L[j]]) := Lib.hid (by rw [List.take_add_one, List.getElem?_eq_getElem hjl]; rfl)
      have TL := Lib.hid (HT.out.tell L[j] wr (HT.out.keep _ _ HS.out (hb.mono HB.out)))
      clear hb hr hlt
      obtain ⟨y, hy⟩ : ∃ y, L[j] = y := ⟨_, rfl⟩
      rw [hy] at c0 c1 c2 c3 c4 c5 hget TS TL
      clear hy
      obtain ⟨gy, hgy⟩ : ∃ gy, goes y = gy := ⟨_, rfl⟩
      rw [hgy] at TL
      have HGY := Lib.hid hgy
      clear hgy
      obtain ⟨r, n, t, d, fl, tx⟩ := y
      simp only [Wr.cells] at c0 c1 c2 c3 c4 c5 TL
      have he := HT.out.enter
      go_wp2_with fail
      refine TL.out.mono ?_
      rintro e w2 ⟨rfl, hb2⟩
      have B2 := Lib.hid (thenBelow BB.out hb2)
      clear hb2 TL c0 c1 c2 c3 c4 c5 he
      cases gy with
      | true =>
        go_wp2
        go_ret
        exact ⟨_, rfl, .inr ⟨j, rfl, hjl, fun y hy => by rw [hget.out] at hy; obtain rfl := Option.some.inj hy; exact HGY.out, NO.out⟩, B2.out⟩
      | false =>
        go_wp2
        go_roundw
        case rel =>
          refine ⟨j + 1, by omega, by go_num, fun x hx => ?_, B2.out⟩
          rw [TS.out] at hx
          rcases List.mem_append.1 hx with h | h
          · exact NO.out x h
          · rw [List.mem_singleton.1 h]; exact HGY.out
        case measure => simp [intOf]; omega
    · obtain rfl : j = L.length := by omega
      have hjl' : ¬ ((L.length : Nat) : Int) < L.length := by omega
      rw [List.take_length] at NO
      go_wp2
      go_ret
      exact ⟨_, rfl, .inl ⟨rfl, NO.out⟩, BB.out⟩
set_option maxRecDepth 1000000

/-! Some cells of a row written at once -/
def setLL (xs : List Value) : Nat → List Value → List Value
  | _, [] => xs
  | o, v :: r => setLL (xs.set o v) (o + 1) r
theorem setLL_length : ∀ (vs : List Value) (xs : List Value) (o : Nat), (setLL xs o vs).length = xs.length
  | [], _, _ => rfl
  | v :: r, xs, o => by rw [setLL, setLL_length r]; simp
theorem setLL_get : ∀ (vs : List Value) (xs : List Value) (o : Nat) (hle : o + vs.length ≤ xs.length) (i : Nat), (setLL xs o vs)[i]? = if o ≤ i ∧ i < o + vs.length then vs[i - o]? else xs[i]?
  | [], xs, o, _, i => by
    have : ¬ (o ≤ i ∧ i < o + ([] : List Value).length) := by simp
    rw [if_neg this]; rfl
  | v :: r, xs, o, hle, i => by
    rw [List.length_cons] at hle ⊢
    rw [setLL, setLL_get r _ _ (by simp; omega)]
    by_cases h1 : o + 1 ≤ i ∧ i < o + 1 + r.length
    · rw [if_pos h1, if_pos (by omega), show i - o = (i - (o + 1)) + 1 from by omega, List.getElem?_cons_succ]
    · rw [if_neg h1]
      by_cases h2 : o = i
      · subst h2
        rw [if_pos (by omega), List.getElem?_set_self (by omega), Nat.sub_self]; rfl
      · rw [if_neg (by omega), List.getElem?_set_ne h2]
theorem own_setCells {B : Nat} {e : TypeId} {k n : Nat} {g c : Nat} : ∀ (vs : List Value) (w : World) (xs : List Value) (o : Nat), w.ownsRow B e k (.slice (some ⟨g, 0, none⟩) n c) n xs →
    (w.setCells g o vs).ownsRow B e k (.slice (some ⟨g, 0, none⟩) n c) n (setLL xs o vs)
  | [], _, _, _, h => h
  | v :: r, w, xs, o, h => by
    rw [World.setCells, setLL]
    exact own_setCells r _ _ _ (h.stored o v).1
theorem wcl_setLL (M : List Wr) (a : Nat) (ha : a < M.length) (y : Wr) : setLL (wcl M) (a * 6) y.cells = wcl (M.set a y) := by
  apply List.ext_getElem?
  intro i
  have hl := wcl_length M
  rw [setLL_get _ _ _ (by rw [Wr.cells_len, hl]; omega)]
  by_cases hi : i < M.length * 6
  · have h2 := flat_get Wr.cells_len (M.set a y) (i / 6) (by simp; omega) (i % 6) (by omega)
    have h1 := flat_get Wr.cells_len M (i / 6) (by omega) (i % 6) (by omega)
    rw [show i / 6 * 6 + i % 6 = i by omega] at h1 h2
    change (wcl M)[i]? = _ at h1
    change (wcl (M.set a y))[i]? = _ at h2
    rw [h1, h2, Wr.cells_len]
    by_cases he : a = i / 6
    · subst he
      rw [if_pos (by omega)]
      simp only [List.getElem_set_self]
      rw [show i - i / 6 * 6 = i % 6 by omega]
    · rw [if_neg (by omega), List.getElem_set_ne he]
  · rw [if_neg (by rw [Wr.cells_len]; omega), List.getElem?_eq_none (by omega), List.getElem?_eq_none (by rw [wcl_length]; simp; omega)]
theorem zeroWr : ∀ w : World, (zeroValue 50).run Tryd.prog w = .ok (.agg #[.int .i64 0, .int .i64 0, .int .i64 0, .string ByteArray.empty, .int .i64 0, .string ByteArray.empty]) w := fun w => by kernel_rfl
theorem clear_anyW (w : World) (ty : TypeId) (b o n c : Nat) (hn : 0 < n) (z : Value) (hz : ∀ w : World, (zeroValue 50).run Tryd.prog w = .ok z w) (hl : (Builtin.zeroCells z.cells n).toList.length = n * 6) (h1 : ∀ u ∈ (Builtin.zeroCells z.cells n).toList, u.oneCell' = true)
    (hc : ∀ j, j < n * 6 → (w.cell? ⟨b, o + j, none⟩).isSome = true) (hf : ∀ j, j < n * 6 → w.frozen? ⟨b, o + j, none⟩ = false) :
    (Builtin.clear_ #[24] ty #[.slice (some ⟨b, o, none⟩) n c]).run Tryd.prog w = .ok (.tuple #[]) (w.setCells b o (Builtin.zeroCells z.cells n).toList) := by
  have hst := run_storeCells_cells (P := Tryd.prog) b o _ 0 w (by rw [hl]; simpa using hc) (by rw [hl]; simpa using hf) h1
  simp only [Nat.add_zero] at hst
  obtain ⟨m, rfl⟩ : ∃ m, n = m + 1 := ⟨n - 1, by omega⟩
  have hu : Tryd.prog.underlying 24 = some (.slice 50) := Tryd.underlying24
  simp [Builtin.clear_, run_underlying hu, hz, hst]
theorem clearW (w : World) (ty : TypeId) (b o n c : Nat) (hn : 0 < n) (hc : ∀ j, j < n * 6 → (w.cell? ⟨b, o + j, none⟩).isSome = true) (hf : ∀ j, j < n * 6 → w.frozen? ⟨b, o + j, none⟩ = false) :
    ∃ vs : List Value, vs.length = n * 6 ∧ (Builtin.clear_ #[24] ty #[.slice (some ⟨b, o, none⟩) n c]).run Tryd.prog w = .ok (.tuple #[]) (w.setCells b o vs) := by
  refine ⟨(Builtin.zeroCells (Value.cells (.agg #[.int .i64 0, .int .i64 0, .int .i64 0, .string ByteArray.empty, .int .i64 0, .string ByteArray.empty])) n).toList, by simp [Builtin.zeroCells, Value.cells], ?_⟩
  have hl : (Builtin.zeroCells (Value.cells (.agg #[.int .i64 0, .int .i64 0, .int .i64 0, .string ByteArray.empty, .int .i64 0, .string ByteArray.empty])) n).toList.length = n * 6 := by simp [Builtin.zeroCells, Value.cells]
  have h1 : ∀ u ∈ (Builtin.zeroCells (Value.cells (.agg #[.int .i64 0, .int .i64 0, .int .i64 0, .string ByteArray.empty, .int .i64 0, .string ByteArray.empty])) n).toList, u.oneCell' = true := by
    intro u hu
    simp only [Builtin.zeroCells, Array.toList_map, List.mem_map] at hu
    obtain ⟨i, _, rfl⟩ := hu
    have hi : i % 6 < 6 := Nat.mod_lt _ (by decide)
    change Value.oneCell' ((Value.cells (.agg #[.int .i64 0, .int .i64 0, .int .i64 0, .string ByteArray.empty, .int .i64 0, .string ByteArray.empty]))[i % 6]!) = true
    generalize i % 6 = j at hi
    match j, hi with
    | 0, _ => rfl
    | 1, _ => rfl
    | 2, _ => rfl
    | 3, _ => rfl
    | 4, _ => rfl
    | 5, _ => rfl
  exact clear_anyW w ty b o n c hn _ zeroWr hl h1 hc hf
section
variable {ops : Array Oper} {rest : List Oper} {o : Oper} {a : Act} {Q : Exit → Act → World → Prop}
/-- a write written over another of a row -/
theorem wpList_wset {w : World} (hg : o.guard = none) (x y : Operand) (ho : o.op = .store 50 x y) (g j : Nat) (hx : a.eval x = .pointer (some ⟨g, j * 6, none⟩)) (X : Wr) (hy : a.eval y = .agg X.cells.toArray)
    (B n c : Nat) (M : List Wr) (hO : w.ownsRow B 50 6 (.slice (some ⟨g, 0, none⟩) n c) n (wcl M)) (hM : M.length = n) (hj : j < n)
    (h : ∀ w', w'.ownsRow B 50 6 (.slice (some ⟨g, 0, none⟩) n c) n (wcl (M.set j X)) → w.grownBy w' (some g) → wpList Tryd.prog ops Q rest (a.put o.dst undef) w') : wpList Tryd.prog ops Q (o :: rest) a w := by
  have ht : w.there g (j * 6) 6 := fun i hi => by
    have hj2 : j * 6 + i < n * 6 := by omega
    refine ⟨?_, hO.frozenAt (j * 6 + i)⟩
    rw [hO.cellAt (j * 6 + i) hj2, List.getElem?_eq_getElem (by rw [wcl_length, hM]; exact hj2)]
    rfl
  have h1 := own_setCells X.cells w _ (j * 6) hO
  rw [wcl_setLL M j (by omega)] at h1
  exact wpList_store_mid hg 50 x y ho g (j * 6) X.cells.toArray hx hy ht (by rw [List.size_toArray]; exact sizeWr X) (Array.all_eq_true_iff_forall_mem.2 (fun u hu => X.cells_one u (by simpa using hu))) (h _ h1 (grown_setCells g _ _ _))
end
/-- what is left -/
def DelW (B : Nat) (goes : Wr → Bool) (K : List Wr) (w : World) (e : Ending) (w' : World) : Prop :=
  ∃ v K', e = .returned v ∧ w'.ownsRow B 50 6 v K'.length (wcl K') ∧ K' = K.filter (fun x => !goes x) ∧ Below B w w'
set_option maxHeartbeats 20000000 in
theorem delW_is (F : FuncId) (caps : Array Value) (goes : Wr → Bool) (B : Nat) (S : World → Prop) (TW : TellW F caps goes B S) (q : Option Addr) (cq : Nat) (K : List Wr) (w : World) (hS : S w) (hO : w.ownsRow B 50 6 (.slice q K.length cq) K.length (wcl K)) (hn : K.length ≤ 10000) (hB : B ≤ w.heap.size) :
    Calls Tryd.prog 58 #[.slice q K.length cq, .func (.func F) #[] caps] w (DelW B goes K w) := by
  obtain ⟨q0, c0', e1, hcap, hat, hoff⟩ := own_wat hO
  injection e1 with e1 _ e2
  subst e1; subst e2
  have IX := Lib.hid (idxW_is F caps goes B S TW q cq K w hS hB hat hn)
  have HS := Lib.hid hS; have OO := Lib.hid hO; have HT := Lib.hid TW
  clear hS hO hat hoff TW
  go_enter Tryd.func58, Tryd.ntmps58
  go_wp2_with fail
  refine IX.out.mono ?_
  rintro e w1 ⟨i, rfl, hcase, hb1⟩
  have B1 := Lib.hid (hb1.mono hB)
  have O1 := Lib.hid (own_later OO.out hb1)
  clear IX hb1
  rcases hcase with ⟨rfl, hall⟩ | ⟨k, rfl, hk, hgo, hno⟩
  · have HAL : Hid (K = K.filter (fun x => !goes x)) := Lib.hid (List.filter_eq_self.2 fun x hx => by rw [hall x hx]; rfl).symm
    clear hall
    go_wp2
    go_ret
    exact ⟨_, K, rfl, O1.out, HAL.out, B1.out⟩
  · obtain ⟨g, rfl⟩ : ∃ g, q = some ⟨g, 0, none⟩ := by
      rcases OO.out.2 with ⟨h1, h0⟩ | ⟨g, cap, cur, e1, _⟩
      · omega
      · injection e1 with e1 _ _
        exact ⟨g, e1⟩
    have hgB : B ≤ g := (O1.out.lt g rfl).1
    have HNO := Lib.hid hno
    have hF0 : Hid (K.take k = (K.take (k + 1)).filter (fun x => !goes x)) := Lib.hid (by
      rw [List.take_succ_eq_append_getElem hk, List.filter_append]
      have h1 : (K.take k).filter (fun x => !goes x) = K.take k := List.filter_eq_self.2 fun x hx => by
        rw [hno x hx]; rfl
      have h2 : goes K[k] = true := hgo _ (List.getElem?_eq_getElem hk)
      rw [h1, List.filter_cons_of_neg (by simp [h2]), List.filter_nil, List.append_nil])
    clear hgo hno
    have hkm : ((k : Int) == -1) = false := by rw [beq_eq_false_iff_ne]; omega
    go_wp2_with fail
    clear hkm
    go_loopw [5, 6] (fun i5 i6 wr => ∃ (a b : Nat) (M : List Wr), a < b ∧ b ≤ K.length ∧ i5 = .int .i64 a ∧ i6 = .int .i64 b ∧ Hid (M.length = K.length) ∧ wr.ownsRow B 50 6 (.slice (some ⟨g, 0, none⟩) K.length cq) K.length (wcl M) ∧
        M.take a = (K.take b).filter (fun x => !goes x) ∧ (∀ m, b ≤ m → M[m]? = K[m]?) ∧ Below B w wr) (fun _ i6 _ => K.length - (intOf i6).toNat)
    case atStart => exact ⟨k, k + 1, K, by omega, by omega, rfl, by go_num, Lib.hid rfl, O1.out, hF0.out, fun m _ => rfl, B1.out⟩
    case round =>
      obtain ⟨a, b, M, hab, hbl, rfl, rfl, HML, hown, hfil, hsame, hbel⟩ := hrel
      have OW := Lib.hid hown; have FI := Lib.hid hfil; have SM := Lib.hid hsame; have BW := Lib.hid hbel
      clear hown hfil hsame hbel
      have hgw : g < wr.heap.size := (OW.out.lt g rfl).2
      by_cases hb : b < K.length
      · have hb' : (b : Int) < K.length := by omega
        have hbM : b < M.length := by rw [HML.out]; exact hb
        have hr : wr.rangeAt g (b * 6) M[b].cells := fun j u hu => by
          have hj : j < 6 := (List.getElem?_eq_some_iff.1 hu).1
          rw [OW.out.cellAt (b * 6 + j) (by omega), show wcl M = M.flatMap Wr.cells from rfl, flat_get Wr.cells_len M b hbM j hj]
          exact hu
        obtain ⟨c0, c1, c2, c3, c4, c5⟩ := wr_cells hr
        have hMK : M[b] = K[b] := by
          have := SM.out b (Nat.le_refl _)
          rw [List.getElem?_eq_getElem hbM, List.getElem?_eq_getElem hb] at this
          exact Option.some.inj this
        have TS := Lib.hid (List.take_succ_eq_append_getElem hb)
        rw [hMK] at c0 c1 c2 c3 c4 c5
        have D6 := Lib.hid (heap_alloc_new wr (.cells K[b].cells.toArray 50))
        have b6 : Below wr.heap.size wr (wr.alloc (.cells K[b].cells.toArray 50)) := below_alloc _ _
        have B6 := Lib.hid b6
        have TL := Lib.hid (HT.out.tell K[b] _ (HT.out.keep _ _ HS.out (BW.out.trans (b6.mono (Nat.le_trans hB BW.out.size)))))
        clear hr hMK b6
        obtain ⟨y, hy⟩ : ∃ y, K[b] = y := ⟨_, rfl⟩
        rw [hy] at c0 c1 c2 c3 c4 c5 TS D6 TL B6
        clear hy
        obtain ⟨gy, hgy⟩ : ∃ gy, goes y = gy := ⟨_, rfl⟩
        rw [hgy] at TL
        have HGY := Lib.hid hgy
        clear hgy
        have YC := Lib.hid (rfl : y = y)
        obtain ⟨r, n, t, d, fl, tx⟩ := y
        simp only [Wr.cells] at c0 c1 c2 c3 c4 c5 D6 TL B6
        have he := HT.out.enter
        go_wp2_with fail
        generalize wr.alloc (.cells #[.int .i64 r, .int .i64 n, .int .i64 t, .string d, .int .i64 fl, .string tx] 50) = w6 at D6 TL B6 ⊢
        refine TL.out.mono ?_
        rintro e w7 ⟨rfl, hb7⟩
        have B7 := Lib.hid (thenBelow B6.out hb7)
        have D7 := Lib.hid ((hb7.block _ (Array.getElem?_eq_some_iff.1 D6.out).1).trans D6.out)
        have O7 := Lib.hid (own_later OW.out B7.out)
        have BW7 := Lib.hid (BW.out.trans (B7.out.mono (Nat.le_trans hB BW.out.size)))
        clear hb7 TL D6 B6 c0 c1 c2 c3 c4 c5 he YC
        cases gy with
        | true =>
          have FN : Hid (M.take a = (K.take (b + 1)).filter (fun x => !goes x)) := Lib.hid (by
            rw [TS.out, List.filter_append, ← FI.out, List.filter_cons_of_neg (by simp [HGY.out]), List.filter_nil, List.append_nil])
          go_wp2
          go_roundw
          case rel => exact ⟨a, b + 1, M, by omega, by omega, rfl, by go_num, HML, O7.out, FN.out, fun m hm => SM.out m (by omega), BW7.out⟩
          case measure => simp [intOf]; omega
        | false =>
          have hgof : (!goes ⟨r, n, t, d, fl, tx⟩) = true := by rw [HGY.out]; rfl
          have haM : a < M.length := by rw [HML.out]; omega
          have FN : Hid ((M.set a ⟨r, n, t, d, fl, tx⟩).take (a + 1) = (K.take (b + 1)).filter (fun x => !goes x)) := Lib.hid (by
            rw [TS.out, List.filter_append, ← FI.out, List.filter_cons_of_pos (p := fun e : Wr => !goes e) hgof, List.filter_nil, List.take_succ_eq_append_getElem (by simpa using haM)]
            simp only [List.getElem_set_self]
            rw [List.take_set_of_le (Nat.le_refl _)])
          have k0 := (cell_of_row w7 wr.heap.size 0 _ _ _ D7.out).trans (show _ = some (Value.int .i64 r) from rfl)
          have k1 := (cell_of_row w7 wr.heap.size 1 _ _ _ D7.out).trans (show _ = some (Value.int .i64 n) from rfl)
          have k2 := (cell_of_row w7 wr.heap.size 2 _ _ _ D7.out).trans (show _ = some (Value.int .i64 t) from rfl)
          have k3 := (cell_of_row w7 wr.heap.size 3 _ _ _ D7.out).trans (show _ = some (Value.string d) from rfl)
          have k4 := (cell_of_row w7 wr.heap.size 4 _ _ _ D7.out).trans (show _ = some (Value.int .i64 fl) from rfl)
          have k5 := (cell_of_row w7 wr.heap.size 5 _ _ _ D7.out).trans (show _ = some (Value.string tx) from rfl)
          have hal' : (a : Int) < K.length := by omega
          have HM2 : Hid ((M.set a ⟨r, n, t, d, fl, tx⟩).length = K.length) := Lib.hid (by simpa using HML.out)
          clear hgof D7
          go_wp2_with (refine wpList_wset rfl _ _ rfl g a rfl ⟨r, n, t, d, fl, tx⟩ rfl B K.length cq M O7.out HML.out (by omega) ?_)
          intro w8 o8 g8
          have OS := Lib.hid o8
          have BW8 := Lib.hid (BW7.out.trans (grown_below g8 (Nat.le_trans hB BW7.out.size) hgB))
          clear o8 g8 O7 BW7 k0 k1 k2 k3 k4 k5
          go_wp2
          go_roundw
          case rel =>
            refine ⟨a + 1, b + 1, M.set a ⟨r, n, t, d, fl, tx⟩, by omega, by omega, by go_num, by go_num, HM2, OS.out, FN.out, fun m hm => ?_, BW8.out⟩
            rw [List.getElem?_set_ne (by omega)]; exact SM.out m (by omega)
          case measure => simp [intOf]; omega
      · obtain rfl : b = K.length := by omega
        have hb' : ¬ ((K.length : Nat) : Int) < K.length := by omega
        have ham : a < K.length := hab
        obtain ⟨vs, hvl, hcl⟩ := clearW wr 0 g (a * 6) (K.length - a) (cq - a) (by omega) (fun j hj => by
          have hj2 : a * 6 + j < K.length * 6 := by omega
          rw [OW.out.cellAt (a * 6 + j) hj2, List.getElem?_eq_getElem (by rw [wcl_length, HML.out]; exact hj2)]; rfl) (fun j hj => OW.out.frozenAt (a * 6 + j))
        have O9 := Lib.hid (own_setCells vs wr _ (a * 6) OW.out)
        have BW9 := Lib.hid (BW.out.trans (grown_below (grown_setCells g vs wr (a * 6)) (Nat.le_trans hB BW.out.size) hgB))
        have FR : Hid ((setLL (wcl M) (a * 6) vs).take (a * 6) = wcl (M.take a)) := Lib.hid (by
          rw [wcl_take]
          apply List.ext_getElem?
          intro i
          by_cases hi : i < a * 6
          · rw [List.getElem?_take_of_lt hi, List.getElem?_take_of_lt hi, setLL_get _ _ _ (by rw [hvl, wcl_length, HML.out]; omega), if_neg (by omega)]
          · rw [List.getElem?_eq_none (by rw [List.length_take]; omega), List.getElem?_eq_none (by rw [List.length_take]; omega)])
        have HMT : Hid ((M.take a).length = a) := Lib.hid (by rw [List.length_take, HML.out]; omega)
        have OF := Lib.hid (own_front O9.out (Nat.le_of_lt ham))
        rw [FR.out] at OF
        have HK : Hid (M.take a = K.filter (fun x => !goes x)) := Lib.hid (by rw [FI.out, List.take_length])
        clear OW O9 FR FI
        generalize wr.setCells g (a * 6) vs = w9 at hcl BW9 OF
        have hal : (a : Int) ≤ K.length := by omega
        have hacq : (a : Int) ≤ cq := by omega
        clear HML SM HS
        go_wp2
        go_ret
        refine ⟨.slice (some ⟨g, 0, none⟩) a cq, M.take a, rfl, ?_, HK.out, BW9.out⟩
        rw [HMT.out]; exact OF.out
end Go.Proofs.YtjmglgcifekhgaaDoor
/- Rows of keys and numbers by rising keys, plain; the order of texts. No number of a program stands here. -/
namespace Go.Proofs.YtjmglgcifekhgaaDoor
open Go
set_option linter.unusedVariables false

structure Lin {α : Type} (lt : α → α → Bool) : Prop where
  irr : ∀ a, lt a a = false
  tr : ∀ a b c, lt a b = true → lt b c = true → lt a c = true
  tot : ∀ a b, lt a b = false → lt b a = false → a = b
/-- how texts are ordered -/
def ltB (a b : ByteArray) : Bool := Op.bytesLess a.toList b.toList
theorem lin_B : Lin ltB := by
  refine ⟨fun a => ?_, fun a b c h1 h2 => ?_, fun a b h1 h2 => ?_⟩
  · simp [ltB, bytesLess_eq, List.lt_irrefl]
  · simp only [ltB, bytesLess_eq, decide_eq_true_eq] at h1 h2 ⊢
    exact List.lt_trans h1 h2
  · simp only [ltB, bytesLess_eq, decide_eq_false_iff_not] at h1 h2
    have h : a.toList = b.toList := List.le_antisymm (List.not_lt.1 h2) (List.not_lt.1 h1)
    rw [Lib.toList_data, Lib.toList_data] at h
    exact ByteArray.ext (Array.toList_inj.1 h)
namespace Tb
variable {α : Type} {lt : α → α → Bool}
abbrev Rows (α : Type) := List (α × Int)
def Rise (lt : α → α → Bool) (l : Rows α) : Prop := l.Pairwise fun a b => lt a.1 b.1 = true
/-- rows by a key: those below it, those that are not -/
structure Sp (lt : α → α → Bool) (l : Rows α) (k : α) (A B : Rows α) : Prop where
  eq : l = A ++ B
  below : ∀ r ∈ A, lt r.1 k = true
  not : ∀ r ∈ B, lt r.1 k = false
theorem split (L : Lin lt) : ∀ {l : Rows α} (h : Rise lt l) (k : α), ∃ A B, Sp lt l k A B
  | [], _, k => ⟨[], [], rfl, by simp, by simp⟩
  | r :: l, h, k => by
    have h' := List.pairwise_cons.1 h
    by_cases hr : lt r.1 k = true
    · obtain ⟨A, B, rfl, h2, h3⟩ := split L (l := l) h'.2 k
      refine ⟨r :: A, B, rfl, fun x hx => ?_, h3⟩
      rcases List.mem_cons.1 hx with rfl | hx
      · exact hr
      · exact h2 x hx
    · have hr' : lt r.1 k = false := by simpa using hr
      refine ⟨[], r :: l, rfl, by simp, fun x hx => ?_⟩
      rcases List.mem_cons.1 hx with rfl | hx
      · exact hr'
      · have h1 := h'.1 x hx
        cases hx1 : lt x.1 k with
        | false => rfl
        | true => exact absurd (L.tr _ _ _ h1 hx1) (by rw [hr']; simp)
/-- behind the key all is above it -/
theorem Sp.cases (L : Lin lt) {l : Rows α} (h : Rise lt l) {k : α} {A B : Rows α} (s : Sp lt l k A B) :
    (k ∉ l.map (·.1) ∧ ∀ r ∈ B, lt k r.1 = true) ∨ ∃ v B', B = (k, v) :: B' ∧ ∀ r ∈ B', lt k r.1 = true := by
  have hAk : ∀ r ∈ A, r.1 ≠ k := fun r hr e => by have := s.below r hr; rw [e, L.irr] at this; cases this
  cases B with
  | nil => left; refine ⟨fun hk => ?_, by simp⟩
           obtain ⟨r, hr, e⟩ := List.mem_map.1 hk
           rw [s.eq, List.append_nil] at hr
           exact hAk r hr e
  | cons r B =>
    have hB : Rise lt (r :: B) := by
      have := h
      unfold Rise at this ⊢
      rw [s.eq, List.pairwise_append] at this
      exact this.2.1
    have hB' := List.pairwise_cons.1 hB
    by_cases e : r.1 = k
    · right
      obtain ⟨k', v⟩ := r
      simp only at e
      subst e
      exact ⟨v, B, rfl, hB'.1⟩
    · left
      have h1 : lt k r.1 = true := by
        cases hk : lt k r.1 with
        | true => rfl
        | false => exact absurd (L.tot _ _ (s.not r (List.mem_cons_self ..)) hk) e
      have h2 : ∀ x ∈ r :: B, lt k x.1 = true := fun x hx => by
        rcases List.mem_cons.1 hx with rfl | hx
        · exact h1
        · exact L.tr _ _ _ h1 (hB'.1 x hx)
      refine ⟨fun hk => ?_, h2⟩
      obtain ⟨x, hx, ex⟩ := List.mem_map.1 hk
      rw [s.eq] at hx
      rcases List.mem_append.1 hx with hx | hx
      · exact hAk x hx ex
      · have := h2 x hx
        rw [ex, L.irr] at this
        cases this
/-- those below stay below, those above above: the key between them -/
theorem Sp.rise (L : Lin lt) {l : Rows α} (h : Rise lt l) {k : α} {A B B' : Rows α} (s : Sp lt l k A B) (hs : B'.Sublist B) (hB : ∀ r ∈ B', lt k r.1 = true) (v : Int) : Rise lt (A ++ (k, v) :: B') := by
  unfold Rise at h ⊢
  rw [s.eq, List.pairwise_append] at h
  rw [List.pairwise_append, List.pairwise_cons]
  refine ⟨h.1, ⟨hB, h.2.1.sublist hs⟩, fun a ha b hb => ?_⟩
  rcases List.mem_cons.1 hb with rfl | hb
  · exact s.below a ha
  · exact h.2.2 a ha b (hs.subset hb)
theorem Sp.rise_cut {l : Rows α} (h : Rise lt l) {k : α} {A B B' : Rows α} (s : Sp lt l k A B) (hs : B'.Sublist B) : Rise lt (A ++ B') := by
  unfold Rise at h ⊢
  rw [s.eq] at h
  exact h.sublist (List.Sublist.append_left hs A)
/-- how many are below -/
theorem Sp.count {l : Rows α} {k : α} {A B : Rows α} (s : Sp lt l k A B) : l.countP (fun r => lt r.1 k) = A.length := by
  rw [s.eq, List.countP_append, List.countP_eq_length.2 (fun r hr => s.below r hr), List.countP_eq_zero.2 (fun r hr => by rw [s.not r hr]; simp)]
  omega
theorem Sp.mem_iff {l : Rows α} {k : α} {v : Int} {A B' : Rows α} (s : Sp lt l k A ((k, v) :: B')) : k ∈ l.map (·.1) := by
  rw [s.eq]; simp
/-- another key -/
def other (lt : α → α → Bool) (k : α) (r : α × Int) : Bool := lt r.1 k || lt k r.1
theorem other_iff (L : Lin lt) (k : α) (r : α × Int) : other lt k r = true ↔ r.1 ≠ k := by
  unfold other
  constructor
  · intro h e
    rw [e, L.irr] at h
    simp at h
  · intro h
    cases h1 : lt r.1 k with
    | true => rfl
    | false =>
      cases h2 : lt k r.1 with
      | true => rfl
      | false => exact absurd (L.tot _ _ h1 h2) h
theorem other_self (L : Lin lt) (k : α) (v : Int) : other lt k (k, v) = false := by simp [other, L.irr]
theorem Sp.filter_there (L : Lin lt) {l : Rows α} {k : α} {v : Int} {A B' : Rows α} (s : Sp lt l k A ((k, v) :: B')) (hB : ∀ r ∈ B', lt k r.1 = true) : l.filter (other lt k) = A ++ B' := by
  rw [s.eq, List.filter_append, List.filter_cons, other_self L]
  simp only [Bool.false_eq_true, if_false]
  congr 1
  · exact List.filter_eq_self.2 fun r hr => by simp [other, s.below r hr]
  · exact List.filter_eq_self.2 fun r hr => by simp [other, hB r hr]
theorem filter_absent (L : Lin lt) {l : Rows α} {k : α} (h : k ∉ l.map (·.1)) : l.filter (other lt k) = l :=
  List.filter_eq_self.2 fun r hr => (other_iff L k r).2 fun e => h (List.mem_map.2 ⟨r, hr, e⟩)
end Tb
end Go.Proofs.YtjmglgcifekhgaaDoor
/- How two writes stand: docs.compare; stable.Compare. -/
namespace Go.Proofs.YtjmglgcifekhgaaDoor
open Go Go.RowKit
set_option linter.unusedVariables false
set_option maxRecDepth 1000000

/-- how two texts stand -/
def cmpS (a b : ByteArray) : Int := if ltB a b then -1 else if ltB b a then 1 else 0
theorem isNaNS_is (x : ByteArray) (w : World) : Calls Tryd.prog 84 #[.string x] w fun e w' => e = .returned (.bool false) ∧ w = w' := by
  go_enter Tryd.func84, Tryd.ntmps84
  go_wp2
  go_ret
  exact ⟨ret_bool (by simp), rfl⟩
theorem compareS_is (x y : ByteArray) (w : World) : Calls Tryd.prog 63 #[.string x, .string y] w fun e w' => e = .returned (.int .i64 (cmpS x y)) ∧ w = w' := by
  have Nx := Lib.hid (isNaNS_is x w); have Ny := Lib.hid (isNaNS_is y w)
  unfold cmpS
  cases h : ltB x y with
  | true =>
    have h' : Op.bytesLess x.toList y.toList = true := h
    rw [if_pos rfl]
    clear h
    go_enter Tryd.func63, Tryd.ntmps63
    go_wp2_with fail
    refine Nx.out.mono ?_
    rintro e w' ⟨rfl, rfl⟩
    go_wp2_with fail
    refine Ny.out.mono ?_
    rintro e w' ⟨rfl, rfl⟩
    go_wp2
    go_ret
    exact ⟨rfl, rfl⟩
  | false =>
    have h' : Op.bytesLess x.toList y.toList = false := h
    rw [if_neg (by decide)]
    clear h
    cases h2 : ltB y x with
    | true =>
      have h2' : Op.bytesLess y.toList x.toList = true := h2
      have hne : (x.toList == y.toList) = false := by
        rw [beq_eq_false_iff_ne]
        intro e
        have e2 : ltB x y = ltB y x := by unfold ltB; rw [e]
        rw [h2] at e2
        have e3 : ltB x y = false := h'
        rw [e3] at e2
        cases e2
      rw [if_pos rfl]
      clear h2
      go_enter Tryd.func63, Tryd.ntmps63
      go_wp2_with fail
      refine Nx.out.mono ?_
      rintro e w' ⟨rfl, rfl⟩
      go_wp2_with fail
      refine Ny.out.mono ?_
      rintro e w' ⟨rfl, rfl⟩
      go_wp2
      go_ret
      exact ⟨rfl, rfl⟩
    | false =>
      have h2' : Op.bytesLess y.toList x.toList = false := h2
      have hne : (x.toList == y.toList) = true := by
        have e3 : ltB x y = false := h'
        rw [lin_B.tot x y e3 h2]
        simp
      rw [if_neg (by decide)]
      clear h2
      go_enter Tryd.func63, Tryd.ntmps63
      go_wp2_with fail
      refine Nx.out.mono ?_
      rintro e w' ⟨rfl, rfl⟩
      go_wp2_with fail
      refine Ny.out.mono ?_
      rintro e w' ⟨rfl, rfl⟩
      go_wp2
      go_ret
      exact ⟨rfl, rfl⟩
/-- the first one that is not nought -/
def orL : List Int → Int
  | [] => 0
  | x :: l => if x = 0 then orL l else x
theorem orL_drop (l : List Int) (k : Nat) (h : k < l.length) : orL (l.drop k) = if l[k] = 0 then orL (l.drop (k + 1)) else l[k] := by
  rw [List.drop_eq_getElem_cons h]; rfl
theorem orL_is (G : Nat) (l : List Int) (w : World) (h : ∀ i (hi : i < l.length), w.cell? ⟨G, i, none⟩ = some (.int .i64 l[i])) (hn : l.length ≤ 10) :
    Calls Tryd.prog 62 #[.slice (some ⟨G, 0, none⟩) l.length l.length] w fun e w' => e = .returned (.int .i64 (orL l)) ∧ w = w' := by
  have H := Lib.hid h; clear h
  obtain ⟨x, hx⟩ : ∃ x, orL l = x := ⟨_, rfl⟩
  rw [hx]
  have HX := Lib.hid hx
  clear hx
  go_enter Tryd.func62, Tryd.ntmps62
  go_wp2
  go_loop [8] (fun i => ∃ k : Nat, k ≤ l.length ∧ i = .int .i64 k ∧ orL (l.drop k) = x) (fun i => l.length - (intOf i).toNat)
  case atStart => exact ⟨0, Nat.zero_le _, rfl, by simpa using HX.out⟩
  case round =>
    obtain ⟨k, hk, rfl, ho⟩ := hrel
    have HO := Lib.hid ho
    clear ho
    by_cases hkl : k < l.length
    · have hkl' : (k : Int) < l.length := by omega
      have hc := H.out k hkl
      have HS := Lib.hid (orL_drop l k hkl)
      obtain ⟨y, hy⟩ : ∃ y, l[k] = y := ⟨_, rfl⟩
      rw [hy] at hc HS
      clear hy
      by_cases h0 : y = 0
      · subst h0
        have HN : Hid (orL (l.drop (k + 1)) = x) := Lib.hid (by have := HS.out; rw [if_pos rfl] at this; rw [← this]; exact HO.out)
        go_wp2
        go_round
        case rel => exact ⟨k + 1, by omega, by go_num, HN.out⟩
        case measure => simp [intOf]; omega
      · have h1 : (y != 0) = true := by simpa using h0
        have HN : Hid (y = x) := Lib.hid (by have := HS.out; rw [if_neg h0] at this; rw [← this]; exact HO.out)
        clear h0
        go_wp2
        go_ret
        exact ⟨by rw [← HN.out]; rfl, rfl⟩
    · obtain rfl : k = l.length := by omega
      have hkl' : ¬ ((l.length : Nat) : Int) < l.length := by omega
      have HN : Hid (x = 0) := Lib.hid (by have := HO.out; rw [List.drop_length] at this; exact this.symm)
      go_wp2
      go_ret
      exact ⟨by rw [HN.out]; rfl, rfl⟩
/-- how two writes stand in a state: by document, field and dot -/
def cmpW (x y : Wr) : Int := orL [cmpS x.doc y.doc, cmpI x.field y.field, cmpD x.rep x.n y.rep y.n]
set_option maxHeartbeats 4000000 in
theorem docCompare_is (x y : Wr) (w : World) : Calls Tryd.prog 38 #[.agg x.cells.toArray, .agg y.cells.toArray] w fun e w' => e = .returned (.int .i64 (cmpW x y)) ∧ Below w.heap.size w w' := by
  have HD : Hid (cmpW x y = orL [cmpS x.doc y.doc, cmpI x.field y.field, cmpD x.rep x.n y.rep y.n]) := rfl
  go_enter Tryd.func38, Tryd.ntmps38
  go_wp2_with (refine wpList_gbox rfl _ rfl x.cells.toArray rfl ?_)
  intro g2 w1 l2 h2 hb1
  go_wp2_with (refine wpList_gbox rfl _ rfl y.cells.toArray rfl ?_)
  intro g3 w2 l3 h3 hb2
  have B2 := Lib.hid (thenBelow hb1 hb2)
  have rx : w2.rangeAt g2 0 x.cells := range_below (by simpa using range_of_block h2) hb2
  have ry : w2.rangeAt g3 0 y.cells := by simpa using range_of_block h3
  clear h2 h3 hb1 hb2
  obtain ⟨a0, a1, a2, a3, a4, a5⟩ := wr_cells rx
  obtain ⟨b0, b1, b2, b3, b4, b5⟩ := wr_cells ry
  clear rx ry
  obtain ⟨r, n, t, d, f, tx⟩ := x
  obtain ⟨r', n', t', d', f', tx'⟩ := y
  simp only [Nat.zero_add] at a0 a1 a2 a3 a4 a5 b0 b1 b2 b3 b4 b5 HD
  have a0 := cell_regrown a0; have a1 := cell_regrown a1; have b0 := cell_regrown b0; have b1 := cell_regrown b1
  have a3 := cell_regrown a3; have a4 := cell_regrown a4; have b3 := cell_regrown b3; have b4 := cell_regrown b4
  clear a2 a5 b2 b5
  have q1 := quiet_call (w := w2) (fun W => (compareS_is d d' W).mono fun e w' ⟨h1, h2⟩ => ⟨h1, by subst h2; exact Below.refl _ _⟩)
  have q2 := quiet_call (w := w2) (fun W => (compare_is f f' W).mono fun e w' ⟨h1, h2⟩ => ⟨h1, by subst h2; exact Below.refl _ _⟩)
  have q3 := quiet_call (w := w2) (fun W => dotCompare_is r n r' n' W)
  generalize cmpS d d' = x1 at q1 HD
  generalize cmpI f f' = x2 at q2 HD
  generalize cmpD r n r' n' = x3 at q3 HD
  go_wp2_with fail
  refine wp_region_below_tail 15 (by kernel_rfl) (by kernel_rfl) ?_
  simp only [List.take_succ_cons, List.take_zero, List.drop_succ_cons, List.drop_zero]
  iterate 4 (quiet_step (fail))
  quiet_step (exact q1 _ _)
  iterate 4 (quiet_step (fail))
  quiet_step (exact q2 _ _)
  iterate 4 (quiet_step (fail))
  quiet_step (exact q3 _ _)
  refine wpQuiet_nil ?_
  rintro _ ⟨⟨dq, osq⟩, rfl⟩
  have B3 := Lib.hid (thenBelow B2.out (below_regrown w2 dq osq))
  generalize Sort.grow (redrawn w2 dq) osq = w3 at B3 ⊢
  clear a0 a1 a3 a4 b0 b1 b3 b4 q1 q2 q3
  have hn := heap_alloc_new w3 (.cells #[.int .i64 x1, .int .i64 x2, .int .i64 x3] 3)
  have hO := Lib.hid (orL_is w3.heap.size [x1, x2, x3] (w3.alloc (.cells #[.int .i64 x1, .int .i64 x2, .int .i64 x3] 3)) (fun i hi => by
    have hi3 : i < 3 := hi
    match i, hi3 with
    | 0, _ => exact (cell_of_row _ w3.heap.size 0 _ _ _ hn).trans rfl
    | 1, _ => exact (cell_of_row _ w3.heap.size 1 _ _ _ hn).trans rfl
    | 2, _ => exact (cell_of_row _ w3.heap.size 2 _ _ _ hn).trans rfl) (by simp))
  have B4 := Lib.hid (thenBelow B3.out (below_alloc w3 (.cells #[.int .i64 x1, .int .i64 x2, .int .i64 x3] 3)))
  clear hn
  go_wp2_with fail
  refine hO.out.mono ?_
  rintro e w' ⟨rfl, rfl⟩
  go_wp2
  go_ret
  exact ⟨by rw [HD.out]; rfl, B4.out⟩
/-- how two writes stand by time -/
def cmpT (x y : Wr) : Int := orL [cmpI x.time y.time, cmpD x.rep x.n y.rep y.n]
set_option maxHeartbeats 4000000 in
theorem stCompare_is (x y : Wr) (w : World) : Calls Tryd.prog 92 #[.agg x.cells.toArray, .agg y.cells.toArray] w fun e w' => e = .returned (.int .i64 (cmpT x y)) ∧ Below w.heap.size w w' := by
  have HD : Hid (cmpT x y = orL [cmpI x.time y.time, cmpD x.rep x.n y.rep y.n]) := rfl
  go_enter Tryd.func92, Tryd.ntmps92
  go_wp2_with (refine wpList_gbox rfl _ rfl x.cells.toArray rfl ?_)
  intro g2 w1 l2 h2 hb1
  go_wp2_with (refine wpList_gbox rfl _ rfl y.cells.toArray rfl ?_)
  intro g3 w2 l3 h3 hb2
  have B2 := Lib.hid (thenBelow hb1 hb2)
  have rx : w2.rangeAt g2 0 x.cells := range_below (by simpa using range_of_block h2) hb2
  have ry : w2.rangeAt g3 0 y.cells := by simpa using range_of_block h3
  clear h2 h3 hb1 hb2
  obtain ⟨a0, a1, a2, a3, a4, a5⟩ := wr_cells rx
  obtain ⟨b0, b1, b2, b3, b4, b5⟩ := wr_cells ry
  clear rx ry
  obtain ⟨r, n, t, d, f, tx⟩ := x
  obtain ⟨r', n', t', d', f', tx'⟩ := y
  simp only [Nat.zero_add] at a0 a1 a2 a3 a4 a5 b0 b1 b2 b3 b4 b5 HD
  have a0 := cell_regrown a0; have a1 := cell_regrown a1; have b0 := cell_regrown b0; have b1 := cell_regrown b1
  have a2 := cell_regrown a2; have b2 := cell_regrown b2
  clear a3 a4 a5 b3 b4 b5
  have q2 := quiet_call (w := w2) (fun W => (compare_is t t' W).mono fun e w' ⟨h1, h2⟩ => ⟨h1, by subst h2; exact Below.refl _ _⟩)
  have q3 := quiet_call (w := w2) (fun W => dotCompare_is r n r' n' W)
  generalize cmpI t t' = x2 at q2 HD
  generalize cmpD r n r' n' = x3 at q3 HD
  go_wp2_with fail
  refine wp_region_below_tail 10 (by kernel_rfl) (by kernel_rfl) ?_
  simp only [List.take_succ_cons, List.take_zero, List.drop_succ_cons, List.drop_zero]
  iterate 4 (quiet_step (fail))
  quiet_step (exact q2 _ _)
  iterate 4 (quiet_step (fail))
  quiet_step (exact q3 _ _)
  refine wpQuiet_nil ?_
  rintro _ ⟨⟨dq, osq⟩, rfl⟩
  have B3 := Lib.hid (thenBelow B2.out (below_regrown w2 dq osq))
  generalize Sort.grow (redrawn w2 dq) osq = w3 at B3 ⊢
  clear a0 a1 a2 b0 b1 b2 q2 q3
  have hn := heap_alloc_new w3 (.cells #[.int .i64 x2, .int .i64 x3] 3)
  have hO := Lib.hid (orL_is w3.heap.size [x2, x3] (w3.alloc (.cells #[.int .i64 x2, .int .i64 x3] 3)) (fun i hi => by
    have hi3 : i < 2 := hi
    match i, hi3 with
    | 0, _ => exact (cell_of_row _ w3.heap.size 0 _ _ _ hn).trans rfl
    | 1, _ => exact (cell_of_row _ w3.heap.size 1 _ _ _ hn).trans rfl) (by simp))
  have B4 := Lib.hid (thenBelow B3.out (below_alloc w3 (.cells #[.int .i64 x2, .int .i64 x3] 3)))
  clear hn
  go_wp2_with fail
  refine hO.out.mono ?_
  rintro e w' ⟨rfl, rfl⟩
  go_wp2
  go_ret
  exact ⟨by rw [HD.out]; rfl, B4.out⟩
end Go.Proofs.YtjmglgcifekhgaaDoor
