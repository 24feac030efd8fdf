/- The statement WireDecodes, proved for every input that its row reads: part 12 of 54. -/
import Derived.Test.YtapmbankpbiglaaGreatDoorProg
import Derived.Test.YtapmbankpbiglaaGreatDoorMem
import Derived.Outline
import Derived.Laws.BitsLemmas
import Derived.Laws.BitsAllLaws
import Derived.Test.YtapmbankpbiglaaGreatDoorPackWireDecodes11
/- Contracts of bytes.Clone and bytes.Equal over this program, by the bytes that lie there. -/
namespace Go.Proofs.YtapmbankpbiglaaGreatDoor
open Go Go.RowKit

theorem infoU8 : (Tryz.prog.info? 5).map (fun i => (i.zero, i.size, i.bytes)) = some (some (.int .u8 0), 1, 1) := by kernel_rfl

theorem isU8 : U8 Tryz.prog 22 5 := ⟨Tryz.underlying22, infoU8⟩

set_option maxHeartbeats 1000000 in
/-- bytes.Equal -/
theorem equal_any (p1 p2 : Option Addr) (n1 n2 c1 c2 : Nat) (l1 l2 : List UInt8) (w : World) (h1 : Lies w p1 l1) (h2 : Lies w p2 l2) (e1 : n1 = l1.length) (e2 : n2 = l2.length) :
    Calls Tryz.prog 9 #[.slice p1 n1 c1, .slice p2 n2 c2] w fun e w' => e = .returned (.bool (l1 == l2)) ∧ w = w' := by
  have k1 := h1.convert (P := Tryz.prog) n1 e1 c1 22 5 9 Tryz.underlying22 Tryz.underlying5 Tryz.underlying9
  have k2 := h2.convert (P := Tryz.prog) n2 e2 c2 22 5 9 Tryz.underlying22 Tryz.underlying5 Tryz.underlying9
  clear h1 h2 e1 e2
  go_enter Tryz.func9, Tryz.ntmps9
  go_wp2
  go_ret
  exact ⟨rfl, rfl⟩
end Go.Proofs.YtapmbankpbiglaaGreatDoor
/- The contracts of utf's Sign, led, shaped. -/
namespace Go.Proofs.YtapmbankpbiglaaGreatDoor
open Go Go.RowKit

namespace Utf
def sg (r : Int) : Bool := decide ((0 ≤ r ∧ r < 55296) ∨ (57343 < r ∧ r ≤ 1114111))
def led (f : Nat) : Nat := if f < 192 then 0 else if f < 224 then 1 else if f < 240 then 2 else 3
def lead (k : Nat) : Nat := if k = 0 then 0 else if k = 1 then 192 else if k = 2 then 224 else 240
def sh (r : Int) : Nat := if r ≤ 127 then 0 else if r ≤ 2047 then 1 else if r ≤ 65535 then 2 else 3
theorem led_le (f : Nat) : led f ≤ 3 := by unfold led; (repeat' split) <;> omega
theorem led_lead (f : Nat) (hf : f < 256) : lead (led f) ≤ f ∧ f - lead (led f) ≤ 191 := by unfold lead led; (repeat' split) <;> omega
theorem sh_le (r : Int) : sh r ≤ 3 := by unfold sh; (repeat' split) <;> omega
theorem led_iff (f : Nat) : (led f ≤ 0 ↔ f < 192) ∧ (led f ≤ 1 ↔ f < 224) ∧ (led f ≤ 2 ↔ f < 240) := by unfold led; (repeat' split) <;> omega
theorem sh_iff (r : Int) : (1 ≤ sh r ↔ 127 < r) ∧ (2 ≤ sh r ↔ 2047 < r) ∧ (3 ≤ sh r ↔ 65535 < r) := by unfold sh; (repeat' split) <;> omega
end Utf

/-- the table of shapes -/
structure Shapes (w : World) : Prop where
  c0 : w.cell? ⟨1, 0, none⟩ = some (.int .i64 127)
  c1 : w.cell? ⟨1, 1, none⟩ = some (.int .i64 0)
  c2 : w.cell? ⟨1, 2, none⟩ = some (.int .i64 0)
  c3 : w.cell? ⟨1, 3, none⟩ = some (.int .i64 2047)
  c4 : w.cell? ⟨1, 4, none⟩ = some (.int .i64 192)
  c5 : w.cell? ⟨1, 5, none⟩ = some (.int .i64 1)
  c6 : w.cell? ⟨1, 6, none⟩ = some (.int .i64 65535)
  c7 : w.cell? ⟨1, 7, none⟩ = some (.int .i64 224)
  c8 : w.cell? ⟨1, 8, none⟩ = some (.int .i64 2)
  c9 : w.cell? ⟨1, 9, none⟩ = some (.int .i64 1114111)
  c10 : w.cell? ⟨1, 10, none⟩ = some (.int .i64 240)
  c11 : w.cell? ⟨1, 11, none⟩ = some (.int .i64 3)
theorem Shapes.below {w w' : World} (h : Shapes w) (hb : Below w.heap.size w w') : Shapes w' := by
  have k : ∀ (a : Addr) v, w.cell? a = some v → w'.cell? a = some v := fun a v q => by
    rw [hb.cell (p := a) (World.block_lt_of_cell? w _ q)]; exact q
  exact ⟨k _ _ h.c0, k _ _ h.c1, k _ _ h.c2, k _ _ h.c3, k _ _ h.c4, k _ _ h.c5, k _ _ h.c6, k _ _ h.c7, k _ _ h.c8, k _ _ h.c9, k _ _ h.c10, k _ _ h.c11⟩

theorem ret_intU {k : IntKind} {a b : Int} (h : a = b) : Ending.returned (.int k a) = .returned (.int k b) := by rw [h]

set_option maxHeartbeats 1000000 in
theorem sign_is (r : Int) (w : World) : Calls Tryz.prog 110 #[.int .i64 r] w fun e w' => e = .returned (.bool (Utf.sg r)) ∧ w = w' := by
  obtain ⟨b, hb⟩ : ∃ b, b = Utf.sg r := ⟨_, rfl⟩
  rw [← hb]
  have key : (r < 0 ∧ b = false) ∨ ((0 ≤ r ∧ r < 55296) ∧ b = true) ∨ ((55296 ≤ r ∧ r ≤ 57343) ∧ b = false) ∨ ((57343 < r ∧ r ≤ 1114111) ∧ b = true) ∨ (1114111 < r ∧ b = false) := by
    rw [hb]; unfold Utf.sg
    simp only [decide_eq_true_eq, decide_eq_false_iff_not]
    omega
  clear hb
  rcases key with ⟨h1, rfl⟩ | ⟨⟨h1, h2⟩, rfl⟩ | ⟨⟨h1, h2⟩, rfl⟩ | ⟨⟨h1, h2⟩, rfl⟩ | ⟨h1, rfl⟩
  all_goals
    go_enter Tryz.func110, Tryz.ntmps110
    go_wp2
    go_ret
    exact ⟨ret_bool (by first | rfl | (simp; done) | (simp; omega)), rfl⟩

set_option maxHeartbeats 1000000 in
set_option maxRecDepth 100000 in
theorem led_is (f : Nat) (w : World) (h : Shapes w) : Calls Tryz.prog 109 #[.int .i64 f] w fun e w' => e = .returned (.int .i64 (Utf.led f : Nat)) ∧ w = w' := by
  obtain ⟨c0, c1, c2, c3, c4, c5, c6, c7, c8, c9, c10, c11⟩ := h
  clear c0 c2 c3 c5 c6 c8 c9 c11
  have hi := Utf.led_iff f
  have hle := Utf.led_le f
  obtain ⟨m, hm⟩ : ∃ m, m = Utf.led f := ⟨_, rfl⟩
  rw [← hm] at hi hle ⊢
  clear hm
  obtain ⟨i0, i1, i2⟩ := hi
  have I0 := Lib.hid i0; have I1 := Lib.hid i1; have I2 := Lib.hid i2
  clear i0 i1 i2
  go_enter Tryz.func109, Tryz.ntmps109
  go_wp2
  go_loop [3] (fun i => ∃ k : Nat, k ≤ 3 ∧ i = .int .i64 k ∧ m ≤ k) (fun i => (intOf i).toNat)
  case atStart => exact ⟨3, by omega, rfl, hle⟩
  case round =>
    obtain ⟨k, hk, rfl, hb⟩ := hrel
    match k, hk, hb with
    | 0, _, hb =>
      have h1 := I0.out.1 hb
      obtain rfl : m = 0 := by omega
      go_wp2
      go_ret
      exact ⟨rfl, rfl⟩
    | 1, _, hb =>
      have h2 := I1.out.1 hb
      by_cases h1 : f < 192
      · have h1' := I0.out.2 h1
        go_wp2
        go_round
        case rel => exact ⟨0, by omega, rfl, h1'⟩
        case measure => simp [intOf]
      · obtain rfl : m = 1 := by have : ¬ m ≤ 0 := fun h => h1 (I0.out.1 h); omega
        go_wp2
        go_ret
        exact ⟨rfl, rfl⟩
    | 2, _, hb =>
      have h2 := I2.out.1 hb
      by_cases h1 : f < 224
      · have h1' := I1.out.2 h1
        go_wp2
        go_round
        case rel => exact ⟨1, by omega, rfl, h1'⟩
        case measure => simp [intOf]
      · obtain rfl : m = 2 := by have : ¬ m ≤ 1 := fun h => h1 (I1.out.1 h); omega
        go_wp2
        go_ret
        exact ⟨rfl, rfl⟩
    | 3, _, hb =>
      by_cases h1 : f < 240
      · have h1' := I2.out.2 h1
        go_wp2
        go_round
        case rel => exact ⟨2, by omega, rfl, h1'⟩
        case measure => simp [intOf]
      · obtain rfl : m = 3 := by have : ¬ m ≤ 2 := fun h => h1 (I2.out.1 h); omega
        go_wp2
        go_ret
        exact ⟨rfl, rfl⟩

set_option maxHeartbeats 1000000 in
theorem shaped_is (r : Int) (w : World) (h : Shapes w) (hr : r ≤ 1114111) : Calls Tryz.prog 111 #[.int .i64 r] w fun e w' => e = .returned (.int .i64 (Utf.sh r : Nat)) ∧ w = w' := by
  obtain ⟨c0, c1, c2, c3, c4, c5, c6, c7, c8, c9, c10, c11⟩ := h
  clear c1 c2 c4 c5 c7 c8 c10 c11
  have hi := Utf.sh_iff r
  have hle := Utf.sh_le r
  obtain ⟨m, hm⟩ : ∃ m, m = Utf.sh r := ⟨_, rfl⟩
  rw [← hm] at hi hle ⊢
  clear hm
  obtain ⟨i0, i1, i2⟩ := hi
  have I0 := Lib.hid i0; have I1 := Lib.hid i1; have I2 := Lib.hid i2
  clear i0 i1 i2
  go_enter Tryz.func111, Tryz.ntmps111
  go_wp2
  go_loop [3] (fun i => ∃ k : Nat, k ≤ 3 ∧ i = .int .i64 k ∧ k ≤ m) (fun i => 3 - (intOf i).toNat)
  case atStart => exact ⟨0, by omega, rfl, Nat.zero_le _⟩
  case round =>
    obtain ⟨k, hk, rfl, hb⟩ := hrel
    match k, hk, hb with
    | 0, _, hb =>
      by_cases h1 : 127 < r
      · have h1' := I0.out.2 h1
        go_wp2
        go_round
        case rel => exact ⟨1, by omega, rfl, h1'⟩
        case measure => simp [intOf]
      · obtain rfl : m = 0 := by have : ¬ 1 ≤ m := fun h => h1 (I0.out.1 h); omega
        go_wp2
        go_ret
        exact ⟨rfl, rfl⟩
    | 1, _, hb =>
      have h0 := I0.out.1 hb
      by_cases h1 : 2047 < r
      · have h1' := I1.out.2 h1
        go_wp2
        go_round
        case rel => exact ⟨2, by omega, rfl, h1'⟩
        case measure => simp [intOf]
      · obtain rfl : m = 1 := by have : ¬ 2 ≤ m := fun h => h1 (I1.out.1 h); omega
        go_wp2
        go_ret
        exact ⟨rfl, rfl⟩
    | 2, _, hb =>
      have h0 := I1.out.1 hb
      by_cases h1 : 65535 < r
      · have h1' := I2.out.2 h1
        go_wp2
        go_round
        case rel => exact ⟨3, by omega, rfl, h1'⟩
        case measure => simp [intOf]
      · obtain rfl : m = 2 := by have : ¬ 3 ≤ m := fun h => h1 (I2.out.1 h); omega
        go_wp2
        go_ret
        exact ⟨rfl, rfl⟩
    | 3, _, hb =>
      have h0 := I2.out.1 hb
      obtain rfl : m = 3 := by omega
      go_wp2
      go_ret
      exact ⟨rfl, rfl⟩
theorem i64_fits (n : Int) (h0 : 0 ≤ n) (h1 : n < 2 ^ 63) : IntKind.i64.wrap n = n := IntWalk.i64_in _ ⟨by omega, by omega⟩
theorem i64_and_nat (a b : Nat) (ha : a < 9223372036854775808) (hb : b < 9223372036854775808) : bits .and .i64 (a : Int) (b : Int) = ((a &&& b : Nat) : Int) :=
  (bits_nat .i64 63 (by decide) i64_fits a b (by simpa using ha) (by simpa using hb)).1
theorem i64_or_nat (a b : Nat) (ha : a < 9223372036854775808) (hb : b < 9223372036854775808) : bits .or .i64 (a : Int) (b : Int) = ((a ||| b : Nat) : Int) :=
  (bits_nat .i64 63 (by decide) i64_fits a b (by simpa using ha) (by simpa using hb)).2
theorem i64_join (u c : Nat) (hu : u < 1000000000) : bits .or .i64 ((u : Int) * 64) ((c % 64 : Nat) : Int) = ((u * 64 + c % 64 : Nat) : Int) := by
  rw [show ((u : Int) * 64) = ((u * 64 : Nat) : Int) from by simp, i64_or_nat _ _ (by omega) (by omega)]
  have := Nat.two_pow_add_eq_or_of_lt (i := 6) (b := c % 64) (by omega) u
  rw [show u * 64 = 2 ^ 6 * u from by omega, ← this]
theorem mask63 (c : Nat) (hc : c < 256) : bits .and .i64 (c : Int) 63 = ((c % 64 : Nat) : Int) := by
  rw [show (63 : Int) = ((63 : Nat) : Int) from rfl, i64_and_nat _ _ (by omega) (by omega), show (63 : Nat) = 2 ^ 6 - 1 from rfl, Nat.and_two_pow_sub_one_eq_mod]
theorem top192 : ∀ c : Fin 256, (c.val &&& 192 = 128) ↔ (128 ≤ c.val ∧ c.val < 192) := by decide +kernel

namespace Utf
/-- the byte at a place -/
def gt (s : ByteArray) (i : Nat) : Nat := (s.data.toList.getD i 0).toNat
theorem gt_lt (s : ByteArray) (i : Nat) : gt s i < 256 := UInt8.toNat_lt _
theorem gt_at (s : ByteArray) (i : Nat) (h : i < s.size) : s[i].toNat = gt s i := by
  have h' : i < s.data.toList.length := by rw [Array.length_toList]; exact h
  unfold gt
  rw [List.getD, List.getElem?_eq_getElem h', Option.getD_some, Array.getElem_toList]; rfl
def cont (s : ByteArray) (i : Nat) : Prop := 128 ≤ gt s i ∧ gt s i < 192
def acc (s : ByteArray) (p : Nat) : Nat → Nat
  | 0 => gt s p - lead (led (gt s p))
  | j + 1 => acc s p j * 64 + gt s (p + 1 + j) % 64
theorem acc_le (s : ByteArray) (p j : Nat) (hj : j ≤ 3) : acc s p j < 50331648 := by
  have h0 := (led_lead (gt s p) (gt_lt s p)).2
  match j, hj with
  | 0, _ => simp only [acc]; omega
  | 1, _ => simp only [acc]; omega
  | 2, _ => simp only [acc]; omega
  | 3, _ => simp only [acc]; omega
def ok (s : ByteArray) (p : Nat) : Prop := p + led (gt s p) + 1 ≤ s.size ∧ (∀ j, j < led (gt s p) → cont s (p + 1 + j)) ∧ sg (acc s p (led (gt s p))) = true ∧ sh (acc s p (led (gt s p))) = led (gt s p)
instance (s : ByteArray) (p : Nat) : Decidable (ok s p) := by unfold ok cont; infer_instance
def nx (s : ByteArray) (p : Nat) : Int × Nat := if ok s p then ((acc s p (led (gt s p)) : Nat), led (gt s p) + 1) else (-1, 1)
theorem nx_yes {s : ByteArray} {p : Nat} (h : ok s p) : nx s p = (((acc s p (led (gt s p)) : Nat) : Int), led (gt s p) + 1) := if_pos h
theorem nx_no {s : ByteArray} {p : Nat} (h : ¬ ok s p) : nx s p = (-1, 1) := if_neg h
end Utf

theorem shapes_at {w : World} (h : Shapes w) (k : Nat) (hk : k ≤ 3) : w.cell? ⟨1, k * 3 + 1, none⟩ = some (.int .i64 (Utf.lead k : Nat)) ∧ w.cell? ⟨1, k * 3 + 2, none⟩ = some (.int .i64 k) := by
  match k, hk with
  | 0, _ => exact ⟨h.c1, h.c2⟩
  | 1, _ => exact ⟨h.c4, h.c5⟩
  | 2, _ => exact ⟨h.c7, h.c8⟩
  | 3, _ => exact ⟨h.c10, h.c11⟩

theorem next_out (s : ByteArray) (at_ : Int) (w : World) (h : at_ < 0 ∨ (s.size : Int) ≤ at_) : Calls Tryz.prog 106 #[.string s, .int .i64 at_] w fun e w' => e = .returned (.tuple #[.int .i64 (-1), .int .i64 0]) ∧ w = w' := by
  rcases h with h | h
  · go_enter Tryz.func106, Tryz.ntmps106
    go_wp2
    go_ret2
    exact ⟨rfl, rfl⟩
  · by_cases h0 : at_ < 0
    all_goals
      go_enter Tryz.func106, Tryz.ntmps106
      go_wp2
      go_ret2
      exact ⟨rfl, rfl⟩

theorem ret_two {a b c d : Int} (h1 : a = c) (h2 : b = d) : Ending.returned (.tuple #[.int .i64 a, .int .i64 b]) = .returned (.tuple #[.int .i64 c, .int .i64 d]) := by rw [h1, h2]

set_option maxHeartbeats 2000000 in
set_option maxRecDepth 100000 in
theorem next_in (s : ByteArray) (p : Nat) (w : World) (h : p < s.size) (hs : s.size ≤ 140737488351232) (hT : Shapes w) :
    Calls Tryz.prog 106 #[.string s, .int .i64 p] w fun e w' => e = .returned (.tuple #[.int .i64 (Utf.nx s p).1, .int .i64 ((Utf.nx s p).2 : Nat)]) ∧ w = w' := by
  have h' : (p : Int) < s.size := by omega
  have hok : Hid (Utf.ok s p ↔ Utf.ok s p) := Iff.rfl
  obtain ⟨X, hX⟩ : ∃ X, X = (Utf.nx s p).1 := ⟨_, rfl⟩
  obtain ⟨N, hN⟩ : ∃ N, N = (Utf.nx s p).2 := ⟨_, rfl⟩
  rw [← hX, ← hN]
  have hyes : Utf.ok s p → X = (Utf.acc s p (Utf.led (Utf.gt s p)) : Nat) ∧ N = Utf.led (Utf.gt s p) + 1 := fun h => by rw [hX, hN, Utf.nx_yes h]; exact ⟨rfl, rfl⟩
  have hno : ¬ Utf.ok s p → X = -1 ∧ N = 1 := fun h => by rw [hX, hN, Utf.nx_no h]; exact ⟨rfl, rfl⟩
  clear hX hN hok
  unfold Utf.ok at hyes hno
  have hacc0 : Utf.acc s p 0 = Utf.gt s p - Utf.lead (Utf.led (Utf.gt s p)) := rfl
  have hll := Utf.led_lead (Utf.gt s p) (Utf.gt_lt s p)
  have hf := Utf.gt_at s p h
  have hfb := Utf.gt_lt s p
  have hkl := Utf.led_le (Utf.gt s p)
  have hled := led_is (Utf.gt s p) w hT
  obtain ⟨f, hfe⟩ : ∃ f, f = Utf.gt s p := ⟨_, rfl⟩
  rw [← hfe] at hacc0 hf hfb hll hkl hled hyes hno
  obtain ⟨k, hk⟩ : ∃ k, k = Utf.led f := ⟨_, rfl⟩
  rw [← hk] at hacc0 hll hkl hled hyes hno
  obtain ⟨q1, q2⟩ := shapes_at hT k hkl
  obtain ⟨ld, hld⟩ : ∃ ld, ld = Utf.lead k := ⟨_, rfl⟩
  rw [← hld] at hacc0 hll q1
  obtain ⟨l1, l2⟩ := hll
  have hsub : (f : Int) - ld = ((f - ld : Nat) : Int) := by omega
  have HY := Lib.hid hyes; have HNO := Lib.hid hno; have HA := Lib.hid hacc0; have HT := Lib.hid hT; have HS := Lib.hid hsub
  clear hfe hk hld hyes hno hacc0 hT hsub
  by_cases hfit : p + k + 1 ≤ s.size
  · go_enter Tryz.func106, Tryz.ntmps106
    go_wp2_with fail
    refine hled.mono ?_
    rintro e w' ⟨rfl, rfl⟩
    clear hled
    go_wp2
    rw [HS.out, ← HA.out]
    go_loop [9, 47] (fun r i => ∃ j : Nat, j ≤ k ∧ i = .int .i64 j ∧ r = .int .i64 (Utf.acc s p j : Nat) ∧ ∀ i, i < j → Utf.cont s (p + 1 + i)) (fun _ i => k - (intOf i).toNat)
    case atStart => exact ⟨0, Nat.zero_le _, rfl, rfl, fun i hi => by omega⟩
    case round =>
      obtain ⟨j, hj, rfl, rfl, hcont⟩ := hrel
      have HC := Lib.hid hcont
      have hb := Utf.acc_le s p j (by omega)
      have HJ : Hid (Utf.acc s p (j + 1) = Utf.acc s p j * 64 + Utf.gt s (p + 1 + j) % 64) := rfl
      clear hcont
      by_cases hjk : j < k
      · have hcg := Utf.gt_at s (p + 1 + j) (by omega)
        have hcb := Utf.gt_lt s (p + 1 + j)
        have hcn : Hid (Utf.cont s (p + 1 + j) ↔ 128 ≤ Utf.gt s (p + 1 + j) ∧ Utf.gt s (p + 1 + j) < 192) := Iff.rfl
        obtain ⟨u, hu⟩ : ∃ u, u = Utf.acc s p j := ⟨_, rfl⟩
        obtain ⟨c, hc⟩ : ∃ c, c = Utf.gt s (p + 1 + j) := ⟨_, rfl⟩
        rw [← hu] at hb HJ ⊢
        rw [← hc] at hcg hcb hcn HJ
        have hm := mask63 c hcb
        have hjn := i64_join u c (by omega)
        have ht := top192 ⟨c, hcb⟩
        have h192 : bits .and .i64 (c : Int) 192 = ((c &&& 192 : Nat) : Int) := by rw [show (192 : Int) = ((192 : Nat) : Int) from rfl, i64_and_nat _ _ (by omega) (by omega)]
        simp only at ht
        obtain ⟨t, htt⟩ : ∃ t, t = c &&& 192 := ⟨_, rfl⟩
        rw [← htt] at ht h192
        have hix : (p : Int) + 1 + j < s.size := by omega
        clear hu hc htt
        obtain ⟨m6, hm6⟩ : ∃ m6, m6 = c % 64 := ⟨_, rfl⟩
        rw [← hm6] at hm hjn HJ
        have hm6b : m6 < 64 := by omega
        have HT6 := Lib.hid ht
        clear hm6 ht
        by_cases hcc : 128 ≤ c ∧ c < 192
        · have ht2 := HT6.out.2 hcc
          rw [ht2] at h192
          have HCC : Hid (∀ i, i < j + 1 → Utf.cont s (p + 1 + i)) := fun i hi => by
            rcases Nat.lt_or_ge i j with h1 | h1
            · exact HC.out i h1
            · obtain rfl : i = j := by omega
              exact hcn.2 hcc
          clear HT6 ht2 hcn
          go_wp2
          go_round
          case rel => exact ⟨j + 1, by omega, by go_num, by rw [HJ.out]; go_num, HCC.out⟩
          case measure => simp [intOf]; omega
        · have ht2 : ¬ (t : Int) = 128 := fun e => hcc (HT6.out.1 (by omega))
          have hn : Hid (X = -1 ∧ N = 1) := HNO.out fun h => hcc (hcn.1 (h.2.1 j hjk))
          clear HT6 hcn
          go_wp2
          go_ret2
          exact ⟨ret_two (by rw [hn.out.1]) (by rw [hn.out.2]; rfl), rfl⟩
      · obtain rfl : j = k := by omega
        have hsg : Hid (Utf.sg (Utf.acc s p j : Nat) = true → ((Utf.acc s p j : Nat) : Int) ≤ 1114111) := fun h => by
          unfold Utf.sg at h; simp only [decide_eq_true_eq] at h; omega
        have his := sign_is (Utf.acc s p j : Nat) w
        have hsh := fun h => shaped_is (Utf.acc s p j : Nat) w HT.out h
        clear HJ
        generalize Utf.acc s p j = a at hsg his hsh hb HY HNO ⊢
        cases hsv : Utf.sg (a : Int) with
        | false =>
          have hn : Hid (X = -1 ∧ N = 1) := HNO.out fun h => by rw [hsv] at h; exact absurd h.2.2.1 (by decide)
          rw [hsv] at his
          clear hsh hsv HY HNO
          go_wp2_with fail
          refine his.mono ?_
          rintro e w' ⟨rfl, rfl⟩
          go_wp2
          go_ret2
          exact ⟨ret_two (by rw [hn.out.1]) (by rw [hn.out.2]; rfl), rfl⟩
        | true =>
          have hs2 := hsh (hsg.out hsv)
          rw [hsv] at his
          by_cases hk : Utf.sh (a : Int) = j
          · have hn : Hid (X = (a : Int) ∧ N = j + 1) := HY.out ⟨hfit, HC.out, hsv, hk⟩
            rw [hk] at hs2
            clear hsh hsv HY HNO hk
            go_wp2_with fail
            refine his.mono ?_
            rintro e w' ⟨rfl, rfl⟩
            go_wp2_with fail
            refine hs2.mono ?_
            rintro e w' ⟨rfl, rfl⟩
            go_wp2
            go_ret2
            exact ⟨ret_two (by rw [hn.out.1]) (by rw [hn.out.2]; omega), rfl⟩
          · have hn : Hid (X = -1 ∧ N = 1) := HNO.out fun h => hk h.2.2.2
            obtain ⟨m, hm⟩ : ∃ m, m = Utf.sh (a : Int) := ⟨_, rfl⟩
            rw [← hm] at hk hs2
            clear hsh hsv HY HNO hm
            have hk' : ¬ (m : Int) = j := by omega
            go_wp2_with fail
            refine his.mono ?_
            rintro e w' ⟨rfl, rfl⟩
            go_wp2_with fail
            refine hs2.mono ?_
            rintro e w' ⟨rfl, rfl⟩
            go_wp2
            go_ret2
            exact ⟨ret_two (by rw [hn.out.1]) (by rw [hn.out.2]; rfl), rfl⟩
  · have hn := HNO.out (fun h => hfit h.1)
    have HN := Lib.hid hn
    clear hn
    go_enter Tryz.func106, Tryz.ntmps106
    go_wp2_with fail
    refine hled.mono ?_
    rintro e w' ⟨rfl, rfl⟩
    go_wp2
    go_ret2
    exact ⟨ret_two (by rw [HN.out.1]) (by rw [HN.out.2]; rfl), rfl⟩
end Go.Proofs.YtapmbankpbiglaaGreatDoor
/- The contracts of coder's writers: behind, cutOff, put. -/
namespace Go.Proofs.YtapmbankpbiglaaGreatDoor
open Go Go.RowKit

theorem take_snoc {l : List UInt8} {k : Nat} (h : k < l.length) : l.take (k + 1) = l.take k ++ [l.getD k 0] := by
  rw [List.take_succ_eq_append_getElem h]; simp [List.getD, List.getElem?_eq_getElem h]
theorem ret_int {k : IntKind} {a b : Int} (h : a = b) : Ending.returned (.int k a) = .returned (.int k b) := by rw [h]

set_option maxHeartbeats 1000000 in
theorem behind_any (x : Nat) (w : World) : Calls Tryz.prog 78 #[.int .u64 x] w fun e w' => e = .returned (.int .i64 (Cod.bh x : Nat)) ∧ w = w' := by
  go_enter Tryz.func78, Tryz.ntmps78
  go_wp2
  go_loop [4] (fun i => ∃ k : Nat, k ≤ 8 ∧ i = .int .i64 k ∧ k ≤ Cod.bh x) (fun i => 8 - (intOf i).toNat)
  case atStart => exact ⟨0, by omega, rfl, Nat.zero_le _⟩
  case round =>
    obtain ⟨k, hk, rfl, hb⟩ := hrel
    by_cases hk8 : k < 8
    · have hd := Cod.bh_div x k hk8
      have HD := Lib.hid hd; clear hd
      go_wp2
      · have ht : ((x : Int) / 2 ^ (7 + 7 * k) == 0) = true := by assumption
        have h0 : x / 2 ^ (7 + 7 * k) = 0 := Int.ofNat_inj.1 (by simpa using ht)
        go_ret
        exact ⟨ret_int (by have := HD.out.1 h0; omega), rfl⟩
      · have ht : ((x : Int) / 2 ^ (7 + 7 * k) == 0) = false := by assumption
        have h0 : ¬ x / 2 ^ (7 + 7 * k) = 0 := by
          intro e
          have : ((x : Int) / 2 ^ (7 + 7 * k)) = ((x / 2 ^ (7 + 7 * k) : Nat) : Int) := by simp
          rw [this, e] at ht; simp at ht
        go_round
        case rel => exact ⟨k + 1, by omega, by go_num, by have : ¬ Cod.bh x ≤ k := fun h => h0 (HD.out.2 h)
                                                          omega⟩
        case measure => simp [intOf]; omega
    · have := Cod.bh_le x
      go_wp2
      go_ret
      exact ⟨ret_int (by omega), rfl⟩

set_option maxHeartbeats 1000000 in
theorem cutOff_any (p : Option Addr) (n c : Nat) (hn : n ≤ c) (w : World) : Calls Tryz.prog 70 #[.slice p n c] w fun e w' => e = .returned (.slice p n n) ∧ w = w' := by
  go_enter Tryz.func70, Tryz.ntmps70
  go_wp2
  go_ret
  exact ⟨rfl, rfl⟩

theorem shl_255 (P : Program) (k : Nat) (hk : k ≤ 8) (w : World) : Sem.run P (Op.shift BinOp.shl IntKind.u8 255 IntKind.i64 (IntKind.i64.wrap (8 - (k : Int)))) w = .ok (.int .u8 ((255 * 2 ^ (8 - k) % 256 : Nat) : Int)) w := by
  have e1 : IntKind.i64.wrap (8 - (k : Int)) = ((8 - k : Nat) : Int) := by rw [IntWalk.i64_in _ (by omega)]; omega
  rw [e1]
  unfold Op.shift
  rw [if_neg (by omega)]
  simp only [Int.toNat_natCast, show min (8 - k) IntKind.u8.bits = 8 - k from by simp [IntKind.bits]]
  rw [Sem.run_pure]
  simp [IntKind.wrap_u8']
theorem shr_u64 (P : Program) (x k : Nat) (hk : k ≤ 8) (w : World) : Sem.run P (Op.shift BinOp.shr IntKind.u64 (x : Int) IntKind.i64 (IntKind.i64.wrap (8 * (k : Int)))) w = .ok (.int .u64 ((x / 2 ^ (8 * k) : Nat) : Int)) w := by
  have e1 : IntKind.i64.wrap (8 * (k : Int)) = ((8 * k : Nat) : Int) := by rw [IntWalk.i64_in _ (by omega)]; omega
  rw [e1]
  unfold Op.shift
  rw [if_neg (by omega)]
  have e2 : min (8 * k) IntKind.u64.bits = 8 * k := by simp [IntKind.bits]; omega
  simp only [Int.toNat_natCast, e2]
  rw [Sem.run_pure]
  have : (x : Int).fdiv (2 ^ (8 * k)) = ((x / 2 ^ (8 * k) : Nat) : Int) := by
    rw [show ((2 : Int) ^ (8 * k)) = ((2 ^ (8 * k) : Nat) : Int) from by simp, Int.fdiv_eq_ediv_of_nonneg _ (Int.natCast_nonneg _)]; simp
  simp only [this]

set_option maxHeartbeats 1000000 in
theorem put_any (B : Nat) (v : Value) (l : List UInt8) (x : Nat) (w : World) (hg : Grows w B 5 v l) (hB : B ≤ w.heap.size) (hx : x < 18446744073709551616) (hlen : l.length ≤ 140737488355000) :
    Calls Tryz.prog 69 #[v, .int .u64 x] w (RetGrow w B 5 (l ++ Cod.enc x)) := by
  have HG := Lib.hid hg; clear hg
  have h8 := Cod.bh_le x
  have hbe := behind_any x w
  obtain ⟨k, hk⟩ : ∃ k, k = Cod.bh x := ⟨_, rfl⟩
  rw [← hk] at hbe h8
  have HK := Lib.hid hk; clear hk
  go_enter Tryz.func69, Tryz.ntmps69
  go_wp2_with (go_at_call 78; refine hbe.mono ?_; rintro e w' ⟨rfl, rfl⟩)
  have s1 := shl_255 Tryz.prog k h8
  have s2 := shr_u64 Tryz.prog x k h8
  obtain ⟨b, hb⟩ : ∃ b, b = UInt8.ofNat (Cod.head x k) := ⟨_, rfl⟩
  have hor : bits BinOp.or IntKind.u8 (255 * 2 ^ (8 - k) % 256) (IntKind.u8.wrap ((x : Int) / 2 ^ (8 * k))) = (b.toNat : Int) := by
    have h1 := Cod.head_or x hx
    have h2 := Cod.head_lt x hx
    rw [← HK.out] at h1 h2
    rw [show ((255 : Int) * 2 ^ (8 - k) % 256) = ((255 * 2 ^ (8 - k) % 256 : Nat) : Int) from by simp, IntKind.wrap_u8', show ((x : Int) / 2 ^ (8 * k) % 256) = ((x / 2 ^ (8 * k) % 256 : Nat) : Int) from by simp,
      u8_or_nat _ _ (by omega) (by omega), h1, hb, UInt8.toNat_ofNat', Nat.mod_eq_of_lt h2]
  have HB := Lib.hid hb; clear hb
  go_region_law (refine step_byteG isU8 rfl (.tmp 9) (.tmp 19) rfl B l v (by simp [Act.eval, Act.put]) (HG.out.later (by first | exact ((Below.refl _ _).alloc (Nat.le_refl _) _).drew | exact (Below.refl _ _).drew.alloc (Nat.le_refl _) _)) ⟨w.heap.size, 0, none⟩ b (by simp [Act.eval, Act.put]) (by simp) (by omega) (by simp; omega) ?_; intro v1 w1 hown1 hb1)
  clear s1 s2 hor hbe
  have hb0 : Below B w w1 := (((Below.refl _ _).alloc hB _).drew).trans hb1
  have hown0 : w1.ownsRow B 5 1 v1 (l.length + 1 + 0) (bys (l ++ (Cod.enc x).take (1 + 0))) := by
    have : (Cod.enc x).take (1 + 0) = [b] := by rw [HB.out, HK.out]; rfl
    rw [this]; exact hown1
  clear hown1 hb1
  go_wp2
  go_loopw [0, 22] (fun u i wr => ∃ j : Nat, j ≤ k ∧ i = .int .i64 j ∧ wr.ownsRow B 5 1 u (l.length + 1 + j) (bys (l ++ (Cod.enc x).take (1 + j))) ∧ Below B w wr) (fun _ i _ => k - (intOf i).toNat)
  case atStart => exact ⟨0, Nat.zero_le _, rfl, hown0, hb0⟩
  case round =>
    clear hown0 hb0
    obtain ⟨j, hj, rfl, hown, hb⟩ := hrel
    by_cases hjk : j < k
    · have hsz := hb.size
      obtain ⟨d, hd⟩ : ∃ d, d = (Cod.enc x).getD (j + 1) 0 := ⟨_, rfl⟩
      have hdx : ((x : Int) / 2 ^ (8 * (k - 1 - j)) % 256) = (d.toNat : Int) := by
        rw [hd, Cod.enc_get x j (by rw [← HK.out]; exact hjk), UInt8.toNat_ofNat', ← HK.out]
        simp
      have HD := Lib.hid hd; clear hd
      go_wp2_with (at_builtin; refine wpList_byte isU8 _ rfl _ _ rfl B (l.length + 1 + j) (l ++ (Cod.enc x).take (1 + j)) _ rfl hown _ d rfl rfl (by omega) (by omega) ?_)
      intro v' w' hown' hb'
      clear hown hdx
      go_wp2
      go_roundw
      case rel =>
        have e1 : l ++ (Cod.enc x).take (1 + (j + 1)) = l ++ ((Cod.enc x).take (1 + j) ++ [d]) := by
          rw [show 1 + (j + 1) = (1 + j) + 1 from by omega, take_snoc (by rw [Cod.enc_length, ← HK.out]; omega), show (1 + j) = j + 1 from by omega, ← HD.out]
        exact ⟨j + 1, by omega, by go_num, by rw [e1]; simpa only [Nat.add_assoc, List.append_assoc] using hown', hb.trans hb'⟩
      case measure => simp [intOf]; omega
    · obtain rfl : j = k := by omega
      go_wp2
      go_ret
      rw [List.take_of_length_le (by rw [Cod.enc_length, ← HK.out]; omega)] at hown
      exact RetGrow.of_own hown rfl hb
end Go.Proofs.YtapmbankpbiglaaGreatDoor
/- The contracts of coder's Num, Sign, Text, and of the document's own. -/
namespace Go.Proofs.YtapmbankpbiglaaGreatDoor
open Go Go.RowKit

theorem int_range {n : Int} (h : (Lit.int .i64 n).wf = true) : -9223372036854775808 ≤ n ∧ n ≤ 9223372036854775807 := by
  simp [Lit.wf, IntKind.min, IntKind.max, IntKind.bits, IntKind.signed] at h; omega

/-- a number of either sign as one of none -/
def zz (n : Int) : Nat := if n < 0 then (2 * (-(n + 1)) + 1).toNat else (2 * n).toNat

theorem zz_lt {n : Int} (h : -9223372036854775808 ≤ n ∧ n ≤ 9223372036854775807) : zz n < 18446744073709551616 := by unfold zz; split <;> omega
theorem xor_ones (a : Nat) (h : a < 18446744073709551616) : a ^^^ 18446744073709551615 = 18446744073709551615 - a := by
  have h1 : (BitVec.ofNat 64 a ^^^ BitVec.allOnes 64).toNat = a ^^^ 18446744073709551615 := by
    rw [BitVec.toNat_xor, BitVec.toNat_ofNat, BitVec.toNat_allOnes, Nat.mod_eq_of_lt h]
  rw [← h1, BitVec.xor_allOnes, BitVec.toNat_not, BitVec.toNat_ofNat, Nat.mod_eq_of_lt h]
theorem zz_bits {n : Int} (h : -9223372036854775808 ≤ n ∧ n ≤ 9223372036854775807) :
    bits BinOp.xor IntKind.u64 (IntKind.u64.wrap (IntKind.u64.wrap n * 2)) (IntKind.u64.wrap (n / 9223372036854775808)) = (zz n : Int) := by
  simp only [IntKind.wrap_u64]
  unfold zz
  by_cases h0 : n < 0
  · rw [if_pos h0]
    have e1 : n % 18446744073709551616 * 2 % 18446744073709551616 = (((2 * n + 18446744073709551616).toNat : Nat) : Int) := by omega
    have e2 : n / 9223372036854775808 % 18446744073709551616 = ((18446744073709551615 : Nat) : Int) := by omega
    rw [e1, e2, u64_xor_nat _ _ (by omega) (by omega), xor_ones _ (by omega)]
    omega
  · rw [if_neg h0]
    have e1 : n % 18446744073709551616 * 2 % 18446744073709551616 = (((2 * n).toNat : Nat) : Int) := by omega
    have e2 : n / 9223372036854775808 % 18446744073709551616 = ((0 : Nat) : Int) := by omega
    rw [e1, e2, u64_xor_nat _ _ (by omega) (by omega), Nat.xor_zero]

set_option maxHeartbeats 1000000 in
theorem num_any (p : Option Addr) (c : Nat) (l : List UInt8) (n : Int) (w : World) (h : Lies w p l) (hp : p = none → l = []) (hlc : l.length ≤ c) (hn : (Lit.int .i64 n).wf = true) (hlen : l.length ≤ 140737488355000) :
    Calls Tryz.prog 48 #[.slice p l.length c, .int .i64 n] w (RetOwn w 5 (l ++ Cod.enc n.toNat)) := by
  have hr := int_range hn
  have hput := put_any w.heap.size (.slice p l.length l.length) l n.toNat w (.inr ⟨p, rfl, h, hp⟩) (Nat.le_refl _) (by omega) hlen
  have HP := Lib.hid hput; clear hput h hp hn
  have hcut := cutOff_any p l.length c hlc w
  by_cases h0 : n < 0
  · have e0 : n.toNat = 0 := by omega
    rw [e0] at HP ⊢
    go_enter Tryz.func48, Tryz.ntmps48
    go_wp2_with (first
      | (go_at_call 70; refine hcut.mono ?_; rintro e w' ⟨rfl, rfl⟩)
      | (go_at_call 69; refine HP.out.mono ?_; rintro e w' ⟨v', rfl, hown, hb⟩))
    go_ret
    exact ⟨v', rfl, hown, hb⟩
  · obtain ⟨m, rfl⟩ := Int.eq_ofNat_of_zero_le (show 0 ≤ n by omega)
    rw [Int.toNat_natCast] at HP ⊢
    go_enter Tryz.func48, Tryz.ntmps48
    go_wp2_with (first
      | (go_at_call 70; refine hcut.mono ?_; rintro e w' ⟨rfl, rfl⟩)
      | (go_at_call 69; refine HP.out.mono ?_; rintro e w' ⟨v', rfl, hown, hb⟩))
    go_ret
    exact ⟨v', rfl, hown, hb⟩

end Go.Proofs.YtapmbankpbiglaaGreatDoor
/- The contracts of the document's own Bytes, join, Num, Sign, Text. -/
namespace Go.Proofs.YtapmbankpbiglaaGreatDoor
open Go Go.RowKit

theorem shr_nat (P : Program) (x m : Nat) (hm : m ≤ 64) (w : World) : Sem.run P (Op.shift BinOp.shr IntKind.u64 (x : Int) IntKind.i64 (m : Int)) w = .ok (.int .u64 ((x / 2 ^ m : Nat) : Int)) w := by
  unfold Op.shift
  rw [if_neg (by omega)]
  have e2 : min m IntKind.u64.bits = m := by simp [IntKind.bits]; omega
  simp only [Int.toNat_natCast, e2]
  rw [Sem.run_pure]
  have : (x : Int).fdiv (2 ^ m) = ((x / 2 ^ m : Nat) : Int) := by
    rw [show ((2 : Int) ^ m) = ((2 ^ m : Nat) : Int) from by simp, Int.fdiv_eq_ediv_of_nonneg _ (Int.natCast_nonneg _)]; simp
  simp only [this]

/-- the first byte's ones -/
def sm (j : Nat) : Nat := 256 - 2 ^ (8 - j)
theorem sm_step (j : Nat) (h : j < 8) : ((sm j : Nat) : Int) + 128 / 2 ^ j = ((sm (j + 1) : Nat) : Int) := by
  match j, h with
  | 0, _ => decide
  | 1, _ => decide
  | 2, _ => decide
  | 3, _ => decide
  | 4, _ => decide
  | 5, _ => decide
  | 6, _ => decide
  | 7, _ => decide
theorem sm_le (j : Nat) (h : j ≤ 8) : sm j ≤ 255 := by
  have := (Cod.pow_parts j h).1
  unfold sm; omega

set_option maxHeartbeats 2000000 in
theorem refBytes_any (x : Nat) (hx : x < 18446744073709551616) (w : World) : Calls Tryz.prog 62 #[.int .u64 x] w (RetOwn w 5 (Cod.enc x)) := by
  have h8 := Cod.bh_le x
  obtain ⟨K, hK⟩ : ∃ K, K = Cod.bh x := ⟨_, rfl⟩
  rw [← hK] at h8
  have HK := Lib.hid hK; clear hK
  go_enter Tryz.func62, Tryz.ntmps62
  go_wp2
  go_loop [3, 9] (fun k i => ∃ j : Nat, j ≤ 9 ∧ i = .int .i64 j ∧ k = .int .i64 (min j K : Nat)) (fun _ i => 9 - (intOf i).toNat)
  case atStart => exact ⟨0, Nat.zero_le _, rfl, by simp⟩
  case round =>
    obtain ⟨j, hj, rfl, rfl⟩ := hrel
    by_cases hj8 : j < 8
    · have hd := Cod.bh_div x j hj8
      rw [← HK.out] at hd
      by_cases hjK : j < K
      · have ht : ((x : Int) / 2 ^ (7 + 7 * j) != 0) = true := by
          have h0 : ¬ x / 2 ^ (7 + 7 * j) = 0 := fun e => by have := hd.1 e; omega
          rw [bne_iff_ne]
          intro e
          exact h0 (Int.ofNat_inj.1 (by simpa using e))
        clear hd
        go_wp2
        go_round
        case rel => exact ⟨j + 1, by omega, by go_num, by congr 2; omega⟩
        case measure => simp [intOf]; omega
      · have ht : ((x : Int) / 2 ^ (7 + 7 * j) != 0) = false := by
          have h0 : x / 2 ^ (7 + 7 * j) = 0 := hd.2 (by omega)
          have : ((x : Int) / 2 ^ (7 + 7 * j)) = ((x / 2 ^ (7 + 7 * j) : Nat) : Int) := by simp
          rw [this, h0]; rfl
        clear hd
        go_wp2
        go_round
        case rel => exact ⟨j + 1, by omega, by go_num, by congr 2; omega⟩
        case measure => simp [intOf]; omega
    · by_cases hj9 : j < 9
      · go_wp2
        go_round
        case rel => exact ⟨j + 1, by omega, by go_num, by congr 2; omega⟩
        case measure => simp [intOf]; omega
      · obtain rfl : j = 9 := by omega
        have e9 : min 9 K = K := by omega
        rw [e9]; clear e9
        go_wp2
        go_loop [5, 26] (fun f i => ∃ j : Nat, j ≤ K ∧ i = .int .i64 j ∧ f = .int .i64 (sm j : Nat)) (fun _ i => K - (intOf i).toNat)
        case atStart => exact ⟨0, Nat.zero_le _, rfl, rfl⟩
        case round =>
          obtain ⟨j, hj, rfl, rfl⟩ := hrel
          by_cases hjK : j < K
          · have hs := sm_step j (by omega)
            have hl := sm_le j (by omega)
            have hl' := sm_le (j + 1) (by omega)
            obtain ⟨f, hf⟩ : ∃ f, f = sm j := ⟨_, rfl⟩
            obtain ⟨f', hf'⟩ : ∃ f', f' = sm (j + 1) := ⟨_, rfl⟩
            rw [← hf, ← hf'] at hs
            rw [← hf] at hl ⊢
            have hb1 : (0 : Int) ≤ 128 / 2 ^ j := by
              rw [show ((128 : Int) / 2 ^ j) = ((128 / 2 ^ j : Nat) : Int) from by simp]; exact Int.natCast_nonneg _
            have hb2 : (128 : Int) / 2 ^ j ≤ 255 := by rw [← hf'] at hl'; omega
            have HS := Lib.hid hs; clear hs
            have HF' := Lib.hid hf'; clear hf' hf
            go_wp2
            go_round
            case rel => exact ⟨j + 1, by omega, by go_num, by rw [← HF'.out, ← HS.out]⟩
            case measure => simp [intOf]; omega
          · obtain rfl : j = K := by omega
            have hl := sm_le j h8
            have hhd : Cod.head x j = sm j + x / 2 ^ (8 * j) := by unfold Cod.head sm; rw [Cod.pow256]
            have hh2 := Cod.head_lt x hx
            rw [← HK.out] at hh2
            obtain ⟨f, hf⟩ : ∃ f, f = sm j := ⟨_, rfl⟩
            rw [← hf] at hl hhd ⊢
            clear hf
            obtain ⟨hd, hhde⟩ : ∃ hd, hd = Cod.head x j := ⟨_, rfl⟩
            rw [← hhde] at hhd hh2
            have HHD := Lib.hid hhde; clear hhde
            have hown : (w.alloc (.cells #[.int .u8 ((hd : Nat) : Int)] 5)).ownsRow w.heap.size 5 1 (.slice (some ⟨w.heap.size, 0, none⟩) 1 1) (1 + 0) (bys ((Cod.enc x).take (1 + 0))) := by
              have := World.ownsRow_lit (base := w.heap.size) (e := 5) (size := 1) w #[.int .u8 ((hd : Nat) : Int)] 1 (Nat.le_refl _) (by decide) (by simp)
              have e1 : bys ((Cod.enc x).take (1 + 0)) = [.int .u8 ((hd : Nat) : Int)] := by
                show bys [UInt8.ofNat (Cod.head x (Cod.bh x))] = _
                simp only [bys, List.map_cons, List.map_nil, UInt8.toNat_ofNat', ← HK.out, ← HHD.out]
                rw [Nat.mod_eq_of_lt (show hd < 2 ^ 8 by omega)]
              rw [e1]; simpa using this
            have HO := Lib.hid hown; clear hown
            have hparts : (j < 8 ∧ ((f : Int) + (x : Int) / 2 ^ (8 * j)) = (hd : Int) ∧ 0 ≤ (x : Int) / 2 ^ (8 * j) ∧ (x : Int) / 2 ^ (8 * j) ≤ 255) ∨ (8 ≤ j ∧ f = hd) := by
              by_cases hj8 : j < 8
              · have hq : ((f : Int) + (x : Int) / 2 ^ (8 * j)) = (hd : Int) := by rw [hhd]; simp
                have hq0 : 0 ≤ (x : Int) / 2 ^ (8 * j) := by
                  rw [show ((x : Int) / 2 ^ (8 * j)) = ((x / 2 ^ (8 * j) : Nat) : Int) from by simp]; exact Int.natCast_nonneg _
                exact .inl ⟨hj8, hq, hq0, by omega⟩
              · have e8 : j = 8 := by omega
                have : x / 2 ^ (8 * j) = 0 := by rw [e8]; exact Nat.div_eq_of_lt (by simpa using hx)
                exact .inr ⟨by omega, by omega⟩
            clear hhd
            have HKd := Lib.hid (show j ≤ 8 from h8)
            rcases hparts with ⟨hj8, hq, hq0, hq1⟩ | ⟨hj8, rfl⟩
            all_goals
              go_wp2
              go_loopw [7, 47] (fun u i wr => ∃ m : Nat, m ≤ Cod.bh x ∧ i = .int .i64 m ∧ wr.ownsRow w.heap.size 5 1 u (1 + m) (bys ((Cod.enc x).take (1 + m))) ∧ Below w.heap.size w wr) (fun _ i _ => Cod.bh x - (intOf i).toNat)
              case atStart => exact ⟨0, Nat.zero_le _, rfl, HO.out, (Below.refl _ _).alloc (Nat.le_refl _) _⟩
              case round =>
                obtain ⟨m, hm, rfl, hown, hb⟩ := hrel
                have hmj0 : m ≤ j := by rw [HK.out]; exact hm
                have hsz := hb.size
                by_cases hmj : m < j
                · obtain ⟨d, hd⟩ : ∃ d, d = (Cod.enc x).getD (m + 1) 0 := ⟨_, rfl⟩
                  have hdx : ((x : Int) / 2 ^ (8 * (j - 1 - m)) % 256) = (d.toNat : Int) := by
                    rw [hd, Cod.enc_get x m (by rw [← HK.out]; exact hmj), UInt8.toNat_ofNat', ← HK.out]
                    simp
                  have HD := Lib.hid hd; clear hd
                  have hm1 : m + 1 ≤ Cod.bh x := by rw [← HK.out]; omega
                  have e1 : (Cod.enc x).take (1 + (m + 1)) = (Cod.enc x).take (1 + m) ++ [d] := by
                    rw [show 1 + (m + 1) = (1 + m) + 1 from by omega, take_snoc (by rw [Cod.enc_length, ← HK.out]; omega), show (1 + m) = m + 1 from by omega, ← HD.out]
                  have E1 := Lib.hid e1; clear e1
                  go_wp2_with (at_builtin; refine wpList_byte isU8 _ rfl _ _ rfl w.heap.size (1 + m) ((Cod.enc x).take (1 + m)) _ rfl hown _ d rfl rfl (by omega) (by omega) ?_)
                  intro v' w' hown' hb'
                  clear hown hdx
                  go_wp2
                  go_roundw
                  case rel => exact ⟨m + 1, hm1, by go_num, by rw [E1.out]; simpa only [Nat.add_assoc] using hown', hb.trans hb'⟩
                  case measure => simp [intOf]; omega
                · obtain rfl : m = j := by omega
                  go_wp2
                  go_ret
                  rw [List.take_of_length_le (by rw [Cod.enc_length, ← HK.out]; omega)] at hown
                  exact RetOwn.of_own hown rfl hb
end Go.Proofs.YtapmbankpbiglaaGreatDoor
/- The contract of frame.Sum: it is the plain sum. -/
namespace Go.Proofs.YtapmbankpbiglaaGreatDoor
open Go Go.RowKit

/-- the table of eight, in memory -/
def Table (w : World) : Prop := ∀ i, i < 8 → w.cell? ⟨0, i, none⟩ = some (.int .u32 (Frm.left i : Nat))
theorem Table.below {w w' : World} (h : Table w) (hb : Below w.heap.size w w') : Table w' := fun i hi => by
  rw [hb.cell (p := ⟨_, i, none⟩) (World.block_lt_of_cell? w _ (h i hi))]; exact h i hi

theorem bit_and (out j : Nat) (h : out < 4294967296) : bits BinOp.and IntKind.u32 ((out : Int) / 2 ^ j) 1 = ((out / 2 ^ j % 2 : Nat) : Int) := by
  rw [show (1 : Int) = ((1 : Nat) : Int) from rfl, show ((out : Int) / 2 ^ j) = ((out / 2 ^ j : Nat) : Int) from by simp, u32_and_nat _ 1 (Nat.lt_of_le_of_lt (Nat.div_le_self _ _) h) (by omega), nat_mask1]
theorem left_lt : ∀ j, j < 8 → Frm.left j < 4294967296 := by decide
theorem tab_lt (out n s : Nat) (hs : s < 4294967296) (hn : n ≤ 8) : Frm.tab out n s < 4294967296 := by
  induction n with
  | zero => exact hs
  | succ n ih =>
    simp only [Frm.tab]
    split
    · exact Nat.xor_lt_two_pow (n := 32) (ih (by omega)) (left_lt n (by omega))
    · exact ih (by omega)
theorem tab_yes {out j s : Nat} (h : out < 256) (hj : j < 8) (hs : s < 4294967296) (ht : (bits BinOp.and IntKind.u32 ((out : Int) / 2 ^ j) 1 == 1) = true) :
    Value.int IntKind.u32 (bits BinOp.xor IntKind.u32 (Frm.tab out j s : Nat) (Frm.left j : Nat)) = Value.int IntKind.u32 (Frm.tab out (j + 1) s : Nat) := by
  rw [bit_and out j (by omega)] at ht
  have h1 : out / 2 ^ j % 2 = 1 := Int.ofNat_inj.1 (by simpa using ht)
  rw [u32_xor_nat _ _ (tab_lt out j s hs (by omega)) (left_lt j hj)]
  simp only [Frm.tab, h1, if_true]
theorem tab_no {out j s : Nat} (h : out < 256) (ht : (bits BinOp.and IntKind.u32 ((out : Int) / 2 ^ j) 1 == 1) = false) :
    Value.int IntKind.u32 (Frm.tab out j s : Nat) = Value.int IntKind.u32 (Frm.tab out (j + 1) s : Nat) := by
  rw [bit_and out j (by omega)] at ht
  have h1 : ¬ out / 2 ^ j % 2 = 1 := by intro e; rw [e] at ht; simp at ht
  simp only [Frm.tab, h1, if_false]
theorem take_snocF {l : List UInt8} {k : Nat} (h : k < l.length) : l.take (k + 1) = l.take k ++ [l.getD k 0] := by
  rw [List.take_succ_eq_append_getElem h]; simp [List.getD, List.getElem?_eq_getElem h]

theorem ret_intF {k : IntKind} {a b : Int} (h : a = b) : Ending.returned (.int k a) = .returned (.int k b) := by rw [h]
theorem sum_end (l : List UInt8) (k : Nat) (hk : l.length ≤ k) : bits BinOp.xor IntKind.u32 IntKind.u32.max (Frm.run 4294967295 (l.take k) : Nat) = (Frm.crc l : Nat) := by
  rw [List.take_of_length_le hk, show IntKind.u32.max = ((4294967295 : Nat) : Int) from rfl, u32_xor_nat _ _ (by omega) (Frm.run_lt l (by omega)), Nat.xor_comm]; rfl

set_option maxHeartbeats 1000000 in
theorem sum_any (p : Option Addr) (c : Nat) (l : List UInt8) (w : World) (h : Lies w p l) (hT : Table w) (hn : l.length ≤ 140737488355328) :
    Calls Tryz.prog 29 #[.slice p l.length c] w fun e w' => e = .returned (.int .u32 (Frm.crc l : Nat)) ∧ w = w' := by
  have H := Lib.hid h; clear h
  have HT := Lib.hid hT; clear hT
  go_enter Tryz.func29, Tryz.ntmps29
  go_wp2
  go_loop [3, 9] (fun s i => ∃ k : Nat, k ≤ l.length ∧ i = .int .i64 k ∧ s = .int .u32 (Frm.run 0xffffffff (l.take k) : Nat)) (fun _ i => l.length - (intOf i).toNat)
  case atStart => exact ⟨0, Nat.zero_le _, rfl, rfl⟩
  case round =>
    obtain ⟨k, hk, rfl, rfl⟩ := hrel
    by_cases hlt : k < l.length
    · obtain ⟨b, o, rfl, _, hc⟩ := H.out.at (by omega)
      have hck := hc k hlt
      clear hc
      have hs0 := Frm.run_lt (l.take k) (s := 0xffffffff) (by omega)
      obtain ⟨x, hx⟩ : ∃ x : Nat, x = (l.getD k 0).toNat := ⟨_, rfl⟩
      have hx2 : x < 256 := by rw [hx]; exact UInt8.toNat_lt _
      rw [← hx] at hck
      have HX := Lib.hid hx; clear hx
      obtain ⟨s, hs⟩ : ∃ s, s = Frm.run 0xffffffff (l.take k) := ⟨_, rfl⟩
      rw [← hs] at hs0 ⊢
      have HS := Lib.hid hs; clear hs
      obtain ⟨out, ho⟩ : ∃ out, out = (s &&& 255) ^^^ x := ⟨_, rfl⟩
      have ho2 : out < 256 := by rw [ho]; exact Nat.xor_lt_two_pow (n := 8) (Nat.lt_of_le_of_lt Nat.and_le_right (by omega)) (by omega)
      have e1 : bits BinOp.xor IntKind.u32 (bits BinOp.and IntKind.u32 (s : Int) 255) (x : Int) = (out : Int) := by
        rw [show (255 : Int) = ((255 : Nat) : Int) from rfl, u32_and_nat s 255 (by omega) (by omega), u32_xor_nat _ _ (Nat.lt_of_le_of_lt Nat.and_le_right (by omega)) (by omega), ho]
      have HO := Lib.hid ho; clear ho
      go_wp2
      clear e1
      go_loop [3, 22] (fun s' i => ∃ j : Nat, j ≤ 8 ∧ i = .int .i64 j ∧ s' = .int .u32 (Frm.tab out j (s / 256) : Nat)) (fun _ i => 8 - (intOf i).toNat)
      case atStart => exact ⟨0, Nat.zero_le _, rfl, by simp [Frm.tab]⟩
      case round =>
        obtain ⟨j, hj, rfl, rfl⟩ := hrel
        by_cases hj8 : j < 8
        · have hcell := HT.out j hj8
          go_wp2
          · have ht : (bits BinOp.and IntKind.u32 ((out : Int) / 2 ^ j) 1 == 1) = true := by assumption
            go_round
            case rel => exact ⟨j + 1, by omega, by go_num, tab_yes ho2 hj8 (by omega) ht⟩
            case measure => simp [intOf]; omega
          · have ht : (bits BinOp.and IntKind.u32 ((out : Int) / 2 ^ j) 1 == 1) = false := by assumption
            go_round
            case rel => exact ⟨j + 1, by omega, by go_num, tab_no ho2 ht⟩
            case measure => simp [intOf]; omega
        · go_wp2
          obtain rfl : j = 8 := by omega
          go_round
          case rel => exact ⟨k + 1, by omega, by go_num, by rw [HO.out, Frm.byte_eq s x hx2, HX.out, HS.out, take_snocF hlt, Frm.run_snoc]⟩
          case measure => simp [intOf]; omega
    · go_wp2
      go_ret
      exact ⟨ret_intF (sum_end l k (by omega)), rfl⟩
end Go.Proofs.YtapmbankpbiglaaGreatDoor
/- The contract of the document's own sum: it is the plain sum too. -/
namespace Go.Proofs.YtapmbankpbiglaaGreatDoor
open Go Go.RowKit

theorem steps_snoc (n s : Nat) : Frm.steps (n + 1) s = Frm.step (Frm.steps n s) := by rw [Frm.steps_add n 1]; rfl
theorem step_yes {r : Nat} (hr : r < 4294967296) (ht : ((r : Int) % 2 == 1) = true) : Value.int IntKind.u32 (bits BinOp.xor IntKind.u32 ((r : Int) / 2) 3988292384) = Value.int IntKind.u32 (Frm.step r : Nat) := by
  have h1 : r % 2 = 1 := Int.ofNat_inj.1 (by simpa using ht)
  rw [show ((r : Int) / 2) = ((r / 2 : Nat) : Int) from by simp, show (3988292384 : Int) = ((3988292384 : Nat) : Int) from rfl, u32_xor_nat _ _ (by omega) (by omega)]
  simp only [Frm.step, h1, if_true, Frm.poly]
theorem step_no {r : Nat} (ht : ((r : Int) % 2 == 1) = false) : Value.int IntKind.u32 ((r : Int) / 2) = Value.int IntKind.u32 (Frm.step r : Nat) := by
  have h1 : ¬ r % 2 = 1 := by intro e; have : (r : Int) % 2 = 1 := by omega
                              rw [this] at ht; simp at ht
  simp only [Frm.step, h1, if_false]
  simp
theorem sum2_end (l : List UInt8) (k : Nat) (hk : l.length ≤ k) : bits BinOp.xor IntKind.u32 (Frm.run 4294967295 (l.take k) : Nat) 4294967295 = (Frm.crc l : Nat) := by
  rw [List.take_of_length_le hk, show (4294967295 : Int) = ((4294967295 : Nat) : Int) from rfl, u32_xor_nat _ _ (Frm.run_lt l (by omega)) (by omega)]; rfl

set_option maxHeartbeats 1000000 in
theorem sum2_any (p : Option Addr) (c : Nat) (l : List UInt8) (w : World) (h : Lies w p l) (hn : l.length ≤ 140737488355328) :
    Calls Tryz.prog 28 #[.slice p l.length c] w fun e w' => e = .returned (.int .u32 (Frm.crc l : Nat)) ∧ w = w' := by
  have H := Lib.hid h; clear h
  go_enter Tryz.func28, Tryz.ntmps28
  go_wp2
  go_loop [3, 8] (fun s i => ∃ k : Nat, k ≤ l.length ∧ i = .int .i64 k ∧ s = .int .u32 (Frm.run 0xffffffff (l.take k) : Nat)) (fun _ i => l.length - (intOf i).toNat)
  case atStart => exact ⟨0, Nat.zero_le _, rfl, rfl⟩
  case round =>
    obtain ⟨k, hk, rfl, rfl⟩ := hrel
    by_cases hlt : k < l.length
    · obtain ⟨b, o, rfl, _, hc⟩ := H.out.at (by omega)
      have hck := hc k hlt
      clear hc
      have hs0 := Frm.run_lt (l.take k) (s := 0xffffffff) (by omega)
      obtain ⟨x, hx⟩ : ∃ x : Nat, x = (l.getD k 0).toNat := ⟨_, rfl⟩
      have hx2 : x < 256 := by rw [hx]; exact UInt8.toNat_lt _
      rw [← hx] at hck
      have HX := Lib.hid hx; clear hx
      obtain ⟨s, hs⟩ : ∃ s, s = Frm.run 0xffffffff (l.take k) := ⟨_, rfl⟩
      rw [← hs] at hs0 ⊢
      have HS := Lib.hid hs; clear hs
      obtain ⟨out, ho⟩ : ∃ out, out = s ^^^ x := ⟨_, rfl⟩
      have ho2 : out < 4294967296 := by rw [ho]; exact Nat.xor_lt_two_pow (n := 32) hs0 (by omega)
      have e1 : bits BinOp.xor IntKind.u32 (s : Int) (x : Int) = (out : Int) := by
        rw [u32_xor_nat _ _ hs0 (by omega), ho]
      have HO := Lib.hid ho; clear ho
      go_wp2
      clear e1
      go_loop [3, 16] (fun s' i => ∃ j : Nat, j ≤ 8 ∧ i = .int .i64 j ∧ s' = .int .u32 (Frm.steps j out : Nat)) (fun _ i => 8 - (intOf i).toNat)
      case atStart => exact ⟨0, Nat.zero_le _, rfl, by simp [Frm.steps]⟩
      case round =>
        obtain ⟨j, hj, rfl, rfl⟩ := hrel
        have hr := Frm.steps_lt j ho2
        obtain ⟨r, hre⟩ : ∃ r, r = Frm.steps j out := ⟨_, rfl⟩
        rw [← hre] at hr ⊢
        have HR := Lib.hid hre; clear hre
        by_cases hj8 : j < 8
        · go_wp2
          · have ht : ((r : Int) % 2 == 1) = true := by assumption
            go_round
            case rel => exact ⟨j + 1, by omega, by go_num, by rw [steps_snoc, ← HR.out]; exact step_yes hr ht⟩
            case measure => simp [intOf]; omega
          · have ht : ((r : Int) % 2 == 1) = false := by assumption
            go_round
            case rel => exact ⟨j + 1, by omega, by go_num, by rw [steps_snoc, ← HR.out]; exact step_no ht⟩
            case measure => simp [intOf]; omega
        · go_wp2
          obtain rfl : j = 8 := by omega
          go_round
          case rel => exact ⟨k + 1, by omega, by go_num, by rw [HR.out, HO.out, HX.out, HS.out, take_snocF hlt, Frm.run_snoc]; rfl⟩
          case measure => simp [intOf]; omega
    · go_wp2
      go_ret
      exact ⟨ret_intF (sum2_end l k (by omega)), rfl⟩
end Go.Proofs.YtapmbankpbiglaaGreatDoor
/- The contracts of both Seals: the sum's four bytes, and the bytes behind them. -/
namespace Go.Proofs.YtapmbankpbiglaaGreatDoor
open Go Go.RowKit

/-- a sum's four bytes, the highest first -/
def be4 (c : Nat) : List UInt8 := [UInt8.ofNat (c / 16777216), UInt8.ofNat (c / 65536), UInt8.ofNat (c / 256), UInt8.ofNat c]
def sealed (l : List UInt8) : List UInt8 := be4 (Frm.crc l) ++ l
theorem sealed_length (l : List UInt8) : (sealed l).length = l.length + 4 := by simp [sealed, be4]

theorem be4_at {s : Nat} {k : Nat} (hk : k < 4) : ((s : Int) / 2 ^ (8 * (3 - k)) % 256) = (((be4 s).getD k 0).toNat : Int) := by
  match k, hk with
  | 0, _ => simp [be4]
  | 1, _ => simp [be4]
  | 2, _ => simp [be4]
  | 3, _ => simp [be4]
theorem be4_snoc (s : Nat) {k : Nat} (hk : k < 4) : (be4 s).take (k + 1) = (be4 s).take k ++ [(be4 s).getD k 0] := take_snocF (by simpa [be4] using hk)

set_option maxHeartbeats 1000000 in
theorem seal_own (p : Option Addr) (c : Nat) (l : List UInt8) (w : World) (h : Lies w p l) (hp : p = none → l = [] ∧ c = 0) (hT : Table w) (hn : l.length ≤ 140737488355000) :
    Calls Tryz.prog 26 #[.slice p l.length c] w (RetOwn w 5 (sealed l)) := by
  have H := Lib.hid h; clear h
  have HT := Lib.hid hT; clear hT
  have HP := Lib.hid hp; clear hp
  go_enter Tryz.func26, Tryz.ntmps26
  go_wp2_with (first
    | (go_at_call 29; refine (sum_any _ _ _ _ H.out HT.out (by omega)).mono ?_; rintro e w' ⟨rfl, rfl⟩)
    | (at_make; refine wpList_makeBytes isU8 w rfl _ _ rfl _ _ _ (4 + l.length) rfl rfl (by omega) (by omega) ?_))
  intro v w1 hown hb
  obtain ⟨s, hs⟩ : ∃ s, s = Frm.crc l := ⟨_, rfl⟩
  have hs2 := Frm.crc_lt l
  rw [← hs] at hs2 ⊢
  have HS := Lib.hid hs; clear hs
  go_wp2
  go_loopw [4, 12] (fun v i wr => ∃ k : Nat, k ≤ 4 ∧ i = .int .i64 k ∧ wr.ownsRow w.heap.size 5 1 v k (bys ((be4 s).take k)) ∧ Below w.heap.size w wr) (fun _ i _ => 4 - (intOf i).toNat)
  case atStart => exact ⟨0, Nat.zero_le _, rfl, hown, hb⟩
  case round =>
    clear hown hb
    obtain ⟨k, hk, rfl, hown, hb⟩ := hrel
    by_cases hk4 : k < 4
    · go_wp2_with (at_builtin; refine wpList_byte isU8 _ rfl _ _ rfl w.heap.size k ((be4 s).take k) _ rfl hown _ ((be4 s).getD k 0) rfl (be4_at hk4) (by omega) hb.size ?_)
      intro v' w' hown' hb'
      clear hown
      go_wp2
      go_roundw
      case rel => exact ⟨k + 1, by omega, by go_num, by rw [be4_snoc s hk4]; exact hown', hb.trans hb'⟩
      case measure => simp [intOf]; omega
    · obtain rfl : k = 4 := by omega
      go_wp2_with (at_builtin; refine wpList_bytes isU8 _ rfl _ _ rfl w.heap.size 4 ((be4 s).take 4) _ rfl hown p l.length c l rfl (H.out.below hb) rfl (fun e => ⟨by rw [(HP.out e).1]; rfl, (HP.out e).2⟩) (by omega) hb.size ?_)
      intro v' w' hown' hb'
      go_wp2
      go_ret
      exact RetOwn.of_own (by unfold sealed; rw [← HS.out]; exact hown') rfl (hb.trans hb')
theorem seal_any (p : Option Addr) (c : Nat) (l : List UInt8) (w : World) (h : Lies w p l) (hp : p = none → l = [] ∧ c = 0) (hT : Table w) (hn : l.length ≤ 140737488355000) :
    Calls Tryz.prog 26 #[.slice p l.length c] w (RetBytes w (sealed l)) := (seal_own p c l w h hp hT hn).mono fun _ _ h => h.bytes
end Go.Proofs.YtapmbankpbiglaaGreatDoor
