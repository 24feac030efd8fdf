/- The statement DocsReads, proved for every input that its row reads: part 17 of 54. -/
import Derived.Test.YtijmijokgenflaaGreatDoorProg
import Derived.Test.YtijmijokgenflaaGreatDoorMem
import Derived.Outline
import Derived.Laws.BitsLemmas
import Derived.Laws.BitsAllLaws
/- Contracts of bytes.Clone and bytes.Equal over this program, by the bytes that lie there. -/
namespace Go.Proofs.YtijmijokgenflaaGreatDoor
open Go Go.RowKit

theorem infoU8 : (Tryz.prog.info? 5).map (fun i => (i.zero, i.size, i.bytes)) = some (some (.int .u8 0), 1, 1) := by kernel_rfl

theorem isU8 : U8 Tryz.prog 130 5 := ⟨Tryz.underlying130, infoU8⟩

end Go.Proofs.YtijmijokgenflaaGreatDoor
/- The contracts of utf's Sign, led, shaped. -/
namespace Go.Proofs.YtijmijokgenflaaGreatDoor
open Go Go.RowKit

namespace Utf
def sg (r : Int) : Bool := decide ((0 ≤ r ∧ r < 55296) ∨ (57343 < r ∧ r ≤ 1114111))
def led (f : Nat) : Nat := if f < 192 then 0 else if f < 224 then 1 else if f < 240 then 2 else 3
def lead (k : Nat) : Nat := if k = 0 then 0 else if k = 1 then 192 else if k = 2 then 224 else 240
def sh (r : Int) : Nat := if r ≤ 127 then 0 else if r ≤ 2047 then 1 else if r ≤ 65535 then 2 else 3
theorem led_le (f : Nat) : led f ≤ 3 := by unfold led; (repeat' split) <;> omega
theorem led_lead (f : Nat) (hf : f < 256) : lead (led f) ≤ f ∧ f - lead (led f) ≤ 191 := by unfold lead led; (repeat' split) <;> omega
theorem sh_le (r : Int) : sh r ≤ 3 := by unfold sh; (repeat' split) <;> omega
theorem led_iff (f : Nat) : (led f ≤ 0 ↔ f < 192) ∧ (led f ≤ 1 ↔ f < 224) ∧ (led f ≤ 2 ↔ f < 240) := by unfold led; (repeat' split) <;> omega
theorem sh_iff (r : Int) : (1 ≤ sh r ↔ 127 < r) ∧ (2 ≤ sh r ↔ 2047 < r) ∧ (3 ≤ sh r ↔ 65535 < r) := by unfold sh; (repeat' split) <;> omega
end Utf

/-- the table of shapes -/
structure Shapes (w : World) : Prop where
  c0 : w.cell? ⟨0, 0, none⟩ = some (.int .i64 127)
  c1 : w.cell? ⟨0, 1, none⟩ = some (.int .i64 0)
  c2 : w.cell? ⟨0, 2, none⟩ = some (.int .i64 0)
  c3 : w.cell? ⟨0, 3, none⟩ = some (.int .i64 2047)
  c4 : w.cell? ⟨0, 4, none⟩ = some (.int .i64 192)
  c5 : w.cell? ⟨0, 5, none⟩ = some (.int .i64 1)
  c6 : w.cell? ⟨0, 6, none⟩ = some (.int .i64 65535)
  c7 : w.cell? ⟨0, 7, none⟩ = some (.int .i64 224)
  c8 : w.cell? ⟨0, 8, none⟩ = some (.int .i64 2)
  c9 : w.cell? ⟨0, 9, none⟩ = some (.int .i64 1114111)
  c10 : w.cell? ⟨0, 10, none⟩ = some (.int .i64 240)
  c11 : w.cell? ⟨0, 11, none⟩ = some (.int .i64 3)
theorem Shapes.below {w w' : World} (h : Shapes w) (hb : Below w.heap.size w w') : Shapes w' := by
  have k : ∀ (a : Addr) v, w.cell? a = some v → w'.cell? a = some v := fun a v q => by
    rw [hb.cell (p := a) (World.block_lt_of_cell? w _ q)]; exact q
  exact ⟨k _ _ h.c0, k _ _ h.c1, k _ _ h.c2, k _ _ h.c3, k _ _ h.c4, k _ _ h.c5, k _ _ h.c6, k _ _ h.c7, k _ _ h.c8, k _ _ h.c9, k _ _ h.c10, k _ _ h.c11⟩

theorem ret_intU {k : IntKind} {a b : Int} (h : a = b) : Ending.returned (.int k a) = .returned (.int k b) := by rw [h]

set_option maxHeartbeats 1000000 in
theorem sign_is (r : Int) (w : World) : Calls Tryz.prog 120 #[.int .i64 r] w fun e w' => e = .returned (.bool (Utf.sg r)) ∧ w = w' := by
  obtain ⟨b, hb⟩ : ∃ b, b = Utf.sg r := ⟨_, rfl⟩
  rw [← hb]
  have key : (r < 0 ∧ b = false) ∨ ((0 ≤ r ∧ r < 55296) ∧ b = true) ∨ ((55296 ≤ r ∧ r ≤ 57343) ∧ b = false) ∨ ((57343 < r ∧ r ≤ 1114111) ∧ b = true) ∨ (1114111 < r ∧ b = false) := by
    rw [hb]; unfold Utf.sg
    simp only [decide_eq_true_eq, decide_eq_false_iff_not]
    omega
  clear hb
  rcases key with ⟨h1, rfl⟩ | ⟨⟨h1, h2⟩, rfl⟩ | ⟨⟨h1, h2⟩, rfl⟩ | ⟨⟨h1, h2⟩, rfl⟩ | ⟨h1, rfl⟩
  all_goals
    go_enter Tryz.func120, Tryz.ntmps120
    go_wp2
    go_ret
    exact ⟨ret_bool (by first | rfl | (simp; done) | (simp; omega)), rfl⟩

set_option maxHeartbeats 1000000 in
set_option maxRecDepth 100000 in
theorem led_is (f : Nat) (w : World) (h : Shapes w) : Calls Tryz.prog 119 #[.int .i64 f] w fun e w' => e = .returned (.int .i64 (Utf.led f : Nat)) ∧ w = w' := by
  obtain ⟨c0, c1, c2, c3, c4, c5, c6, c7, c8, c9, c10, c11⟩ := h
  clear c0 c2 c3 c5 c6 c8 c9 c11
  have hi := Utf.led_iff f
  have hle := Utf.led_le f
  obtain ⟨m, hm⟩ : ∃ m, m = Utf.led f := ⟨_, rfl⟩
  rw [← hm] at hi hle ⊢
  clear hm
  obtain ⟨i0, i1, i2⟩ := hi
  have I0 := Lib.hid i0; have I1 := Lib.hid i1; have I2 := Lib.hid i2
  clear i0 i1 i2
  go_enter Tryz.func119, Tryz.ntmps119
  go_wp2
  go_loop [3] (fun i => ∃ k : Nat, k ≤ 3 ∧ i = .int .i64 k ∧ m ≤ k) (fun i => (intOf i).toNat)
  case atStart => exact ⟨3, by omega, rfl, hle⟩
  case round =>
    obtain ⟨k, hk, rfl, hb⟩ := hrel
    match k, hk, hb with
    | 0, _, hb =>
      have h1 := I0.out.1 hb
      obtain rfl : m = 0 := by omega
      go_wp2
      go_ret
      exact ⟨rfl, rfl⟩
    | 1, _, hb =>
      have h2 := I1.out.1 hb
      by_cases h1 : f < 192
      · have h1' := I0.out.2 h1
        go_wp2
        go_round
        case rel => exact ⟨0, by omega, rfl, h1'⟩
        case measure => simp [intOf]
      · obtain rfl : m = 1 := by have : ¬ m ≤ 0 := fun h => h1 (I0.out.1 h); omega
        go_wp2
        go_ret
        exact ⟨rfl, rfl⟩
    | 2, _, hb =>
      have h2 := I2.out.1 hb
      by_cases h1 : f < 224
      · have h1' := I1.out.2 h1
        go_wp2
        go_round
        case rel => exact ⟨1, by omega, rfl, h1'⟩
        case measure => simp [intOf]
      · obtain rfl : m = 2 := by have : ¬ m ≤ 1 := fun h => h1 (I1.out.1 h); omega
        go_wp2
        go_ret
        exact ⟨rfl, rfl⟩
    | 3, _, hb =>
      by_cases h1 : f < 240
      · have h1' := I2.out.2 h1
        go_wp2
        go_round
        case rel => exact ⟨2, by omega, rfl, h1'⟩
        case measure => simp [intOf]
      · obtain rfl : m = 3 := by have : ¬ m ≤ 2 := fun h => h1 (I2.out.1 h); omega
        go_wp2
        go_ret
        exact ⟨rfl, rfl⟩

set_option maxHeartbeats 1000000 in
theorem shaped_is (r : Int) (w : World) (h : Shapes w) (hr : r ≤ 1114111) : Calls Tryz.prog 121 #[.int .i64 r] w fun e w' => e = .returned (.int .i64 (Utf.sh r : Nat)) ∧ w = w' := by
  obtain ⟨c0, c1, c2, c3, c4, c5, c6, c7, c8, c9, c10, c11⟩ := h
  clear c1 c2 c4 c5 c7 c8 c10 c11
  have hi := Utf.sh_iff r
  have hle := Utf.sh_le r
  obtain ⟨m, hm⟩ : ∃ m, m = Utf.sh r := ⟨_, rfl⟩
  rw [← hm] at hi hle ⊢
  clear hm
  obtain ⟨i0, i1, i2⟩ := hi
  have I0 := Lib.hid i0; have I1 := Lib.hid i1; have I2 := Lib.hid i2
  clear i0 i1 i2
  go_enter Tryz.func121, Tryz.ntmps121
  go_wp2
  go_loop [3] (fun i => ∃ k : Nat, k ≤ 3 ∧ i = .int .i64 k ∧ k ≤ m) (fun i => 3 - (intOf i).toNat)
  case atStart => exact ⟨0, by omega, rfl, Nat.zero_le _⟩
  case round =>
    obtain ⟨k, hk, rfl, hb⟩ := hrel
    match k, hk, hb with
    | 0, _, hb =>
      by_cases h1 : 127 < r
      · have h1' := I0.out.2 h1
        go_wp2
        go_round
        case rel => exact ⟨1, by omega, rfl, h1'⟩
        case measure => simp [intOf]
      · obtain rfl : m = 0 := by have : ¬ 1 ≤ m := fun h => h1 (I0.out.1 h); omega
        go_wp2
        go_ret
        exact ⟨rfl, rfl⟩
    | 1, _, hb =>
      have h0 := I0.out.1 hb
      by_cases h1 : 2047 < r
      · have h1' := I1.out.2 h1
        go_wp2
        go_round
        case rel => exact ⟨2, by omega, rfl, h1'⟩
        case measure => simp [intOf]
      · obtain rfl : m = 1 := by have : ¬ 2 ≤ m := fun h => h1 (I1.out.1 h); omega
        go_wp2
        go_ret
        exact ⟨rfl, rfl⟩
    | 2, _, hb =>
      have h0 := I1.out.1 hb
      by_cases h1 : 65535 < r
      · have h1' := I2.out.2 h1
        go_wp2
        go_round
        case rel => exact ⟨3, by omega, rfl, h1'⟩
        case measure => simp [intOf]
      · obtain rfl : m = 2 := by have : ¬ 3 ≤ m := fun h => h1 (I2.out.1 h); omega
        go_wp2
        go_ret
        exact ⟨rfl, rfl⟩
    | 3, _, hb =>
      have h0 := I2.out.1 hb
      obtain rfl : m = 3 := by omega
      go_wp2
      go_ret
      exact ⟨rfl, rfl⟩
theorem i64_fits (n : Int) (h0 : 0 ≤ n) (h1 : n < 2 ^ 63) : IntKind.i64.wrap n = n := IntWalk.i64_in _ ⟨by omega, by omega⟩
theorem i64_and_nat (a b : Nat) (ha : a < 9223372036854775808) (hb : b < 9223372036854775808) : bits .and .i64 (a : Int) (b : Int) = ((a &&& b : Nat) : Int) :=
  (bits_nat .i64 63 (by decide) i64_fits a b (by simpa using ha) (by simpa using hb)).1
theorem i64_or_nat (a b : Nat) (ha : a < 9223372036854775808) (hb : b < 9223372036854775808) : bits .or .i64 (a : Int) (b : Int) = ((a ||| b : Nat) : Int) :=
  (bits_nat .i64 63 (by decide) i64_fits a b (by simpa using ha) (by simpa using hb)).2
theorem i64_join (u c : Nat) (hu : u < 1000000000) : bits .or .i64 ((u : Int) * 64) ((c % 64 : Nat) : Int) = ((u * 64 + c % 64 : Nat) : Int) := by
  rw [show ((u : Int) * 64) = ((u * 64 : Nat) : Int) from by simp, i64_or_nat _ _ (by omega) (by omega)]
  have := Nat.two_pow_add_eq_or_of_lt (i := 6) (b := c % 64) (by omega) u
  rw [show u * 64 = 2 ^ 6 * u from by omega, ← this]
theorem mask63 (c : Nat) (hc : c < 256) : bits .and .i64 (c : Int) 63 = ((c % 64 : Nat) : Int) := by
  rw [show (63 : Int) = ((63 : Nat) : Int) from rfl, i64_and_nat _ _ (by omega) (by omega), show (63 : Nat) = 2 ^ 6 - 1 from rfl, Nat.and_two_pow_sub_one_eq_mod]
theorem top192 : ∀ c : Fin 256, (c.val &&& 192 = 128) ↔ (128 ≤ c.val ∧ c.val < 192) := by decide +kernel

namespace Utf
/-- the byte at a place -/
def gt (s : ByteArray) (i : Nat) : Nat := (s.data.toList.getD i 0).toNat
theorem gt_lt (s : ByteArray) (i : Nat) : gt s i < 256 := UInt8.toNat_lt _
theorem gt_at (s : ByteArray) (i : Nat) (h : i < s.size) : s[i].toNat = gt s i := by
  have h' : i < s.data.toList.length := by rw [Array.length_toList]; exact h
  unfold gt
  rw [List.getD, List.getElem?_eq_getElem h', Option.getD_some, Array.getElem_toList]; rfl
def cont (s : ByteArray) (i : Nat) : Prop := 128 ≤ gt s i ∧ gt s i < 192
def acc (s : ByteArray) (p : Nat) : Nat → Nat
  | 0 => gt s p - lead (led (gt s p))
  | j + 1 => acc s p j * 64 + gt s (p + 1 + j) % 64
theorem acc_le (s : ByteArray) (p j : Nat) (hj : j ≤ 3) : acc s p j < 50331648 := by
  have h0 := (led_lead (gt s p) (gt_lt s p)).2
  match j, hj with
  | 0, _ => simp only [acc]; omega
  | 1, _ => simp only [acc]; omega
  | 2, _ => simp only [acc]; omega
  | 3, _ => simp only [acc]; omega
def ok (s : ByteArray) (p : Nat) : Prop := p + led (gt s p) + 1 ≤ s.size ∧ (∀ j, j < led (gt s p) → cont s (p + 1 + j)) ∧ sg (acc s p (led (gt s p))) = true ∧ sh (acc s p (led (gt s p))) = led (gt s p)
instance (s : ByteArray) (p : Nat) : Decidable (ok s p) := by unfold ok cont; infer_instance
def nx (s : ByteArray) (p : Nat) : Int × Nat := if ok s p then ((acc s p (led (gt s p)) : Nat), led (gt s p) + 1) else (-1, 1)
theorem nx_yes {s : ByteArray} {p : Nat} (h : ok s p) : nx s p = (((acc s p (led (gt s p)) : Nat) : Int), led (gt s p) + 1) := if_pos h
theorem nx_no {s : ByteArray} {p : Nat} (h : ¬ ok s p) : nx s p = (-1, 1) := if_neg h
end Utf

theorem shapes_at {w : World} (h : Shapes w) (k : Nat) (hk : k ≤ 3) : w.cell? ⟨0, k * 3 + 1, none⟩ = some (.int .i64 (Utf.lead k : Nat)) ∧ w.cell? ⟨0, k * 3 + 2, none⟩ = some (.int .i64 k) := by
  match k, hk with
  | 0, _ => exact ⟨h.c1, h.c2⟩
  | 1, _ => exact ⟨h.c4, h.c5⟩
  | 2, _ => exact ⟨h.c7, h.c8⟩
  | 3, _ => exact ⟨h.c10, h.c11⟩

theorem next_out (s : ByteArray) (at_ : Int) (w : World) (h : at_ < 0 ∨ (s.size : Int) ≤ at_) : Calls Tryz.prog 112 #[.string s, .int .i64 at_] w fun e w' => e = .returned (.tuple #[.int .i64 (-1), .int .i64 0]) ∧ w = w' := by
  rcases h with h | h
  · go_enter Tryz.func112, Tryz.ntmps112
    go_wp2
    go_ret2
    exact ⟨rfl, rfl⟩
  · by_cases h0 : at_ < 0
    all_goals
      go_enter Tryz.func112, Tryz.ntmps112
      go_wp2
      go_ret2
      exact ⟨rfl, rfl⟩

theorem ret_two {a b c d : Int} (h1 : a = c) (h2 : b = d) : Ending.returned (.tuple #[.int .i64 a, .int .i64 b]) = .returned (.tuple #[.int .i64 c, .int .i64 d]) := by rw [h1, h2]

set_option maxHeartbeats 2000000 in
set_option maxRecDepth 100000 in
theorem next_in (s : ByteArray) (p : Nat) (w : World) (h : p < s.size) (hs : s.size ≤ 140737488351232) (hT : Shapes w) :
    Calls Tryz.prog 112 #[.string s, .int .i64 p] w fun e w' => e = .returned (.tuple #[.int .i64 (Utf.nx s p).1, .int .i64 ((Utf.nx s p).2 : Nat)]) ∧ w = w' := by
  have h' : (p : Int) < s.size := by omega
  have hok : Hid (Utf.ok s p ↔ Utf.ok s p) := Iff.rfl
  obtain ⟨X, hX⟩ : ∃ X, X = (Utf.nx s p).1 := ⟨_, rfl⟩
  obtain ⟨N, hN⟩ : ∃ N, N = (Utf.nx s p).2 := ⟨_, rfl⟩
  rw [← hX, ← hN]
  have hyes : Utf.ok s p → X = (Utf.acc s p (Utf.led (Utf.gt s p)) : Nat) ∧ N = Utf.led (Utf.gt s p) + 1 := fun h => by rw [hX, hN, Utf.nx_yes h]; exact ⟨rfl, rfl⟩
  have hno : ¬ Utf.ok s p → X = -1 ∧ N = 1 := fun h => by rw [hX, hN, Utf.nx_no h]; exact ⟨rfl, rfl⟩
  clear hX hN hok
  unfold Utf.ok at hyes hno
  have hacc0 : Utf.acc s p 0 = Utf.gt s p - Utf.lead (Utf.led (Utf.gt s p)) := rfl
  have hll := Utf.led_lead (Utf.gt s p) (Utf.gt_lt s p)
  have hf := Utf.gt_at s p h
  have hfb := Utf.gt_lt s p
  have hkl := Utf.led_le (Utf.gt s p)
  have hled := led_is (Utf.gt s p) w hT
  obtain ⟨f, hfe⟩ : ∃ f, f = Utf.gt s p := ⟨_, rfl⟩
  rw [← hfe] at hacc0 hf hfb hll hkl hled hyes hno
  obtain ⟨k, hk⟩ : ∃ k, k = Utf.led f := ⟨_, rfl⟩
  rw [← hk] at hacc0 hll hkl hled hyes hno
  obtain ⟨q1, q2⟩ := shapes_at hT k hkl
  obtain ⟨ld, hld⟩ : ∃ ld, ld = Utf.lead k := ⟨_, rfl⟩
  rw [← hld] at hacc0 hll q1
  obtain ⟨l1, l2⟩ := hll
  have hsub : (f : Int) - ld = ((f - ld : Nat) : Int) := by omega
  have HY := Lib.hid hyes; have HNO := Lib.hid hno; have HA := Lib.hid hacc0; have HT := Lib.hid hT; have HS := Lib.hid hsub
  clear hfe hk hld hyes hno hacc0 hT hsub
  by_cases hfit : p + k + 1 ≤ s.size
  · go_enter Tryz.func112, Tryz.ntmps112
    go_wp2_with fail
    refine hled.mono ?_
    rintro e w' ⟨rfl, rfl⟩
    clear hled
    go_wp2
    rw [HS.out, ← HA.out]
    go_loop [9, 47] (fun r i => ∃ j : Nat, j ≤ k ∧ i = .int .i64 j ∧ r = .int .i64 (Utf.acc s p j : Nat) ∧ ∀ i, i < j → Utf.cont s (p + 1 + i)) (fun _ i => k - (intOf i).toNat)
    case atStart => exact ⟨0, Nat.zero_le _, rfl, rfl, fun i hi => by omega⟩
    case round =>
      obtain ⟨j, hj, rfl, rfl, hcont⟩ := hrel
      have HC := Lib.hid hcont
      have hb := Utf.acc_le s p j (by omega)
      have HJ : Hid (Utf.acc s p (j + 1) = Utf.acc s p j * 64 + Utf.gt s (p + 1 + j) % 64) := rfl
      clear hcont
      by_cases hjk : j < k
      · have hcg := Utf.gt_at s (p + 1 + j) (by omega)
        have hcb := Utf.gt_lt s (p + 1 + j)
        have hcn : Hid (Utf.cont s (p + 1 + j) ↔ 128 ≤ Utf.gt s (p + 1 + j) ∧ Utf.gt s (p + 1 + j) < 192) := Iff.rfl
        obtain ⟨u, hu⟩ : ∃ u, u = Utf.acc s p j := ⟨_, rfl⟩
        obtain ⟨c, hc⟩ : ∃ c, c = Utf.gt s (p + 1 + j) := ⟨_, rfl⟩
        rw [← hu] at hb HJ ⊢
        rw [← hc] at hcg hcb hcn HJ
        have hm := mask63 c hcb
        have hjn := i64_join u c (by omega)
        have ht := top192 ⟨c, hcb⟩
        have h192 : bits .and .i64 (c : Int) 192 = ((c &&& 192 : Nat) : Int) := by rw [show (192 : Int) = ((192 : Nat) : Int) from rfl, i64_and_nat _ _ (by omega) (by omega)]
        simp only at ht
        obtain ⟨t, htt⟩ : ∃ t, t = c &&& 192 := ⟨_, rfl⟩
        rw [← htt] at ht h192
        have hix : (p : Int) + 1 + j < s.size := by omega
        clear hu hc htt
        obtain ⟨m6, hm6⟩ : ∃ m6, m6 = c % 64 := ⟨_, rfl⟩
        rw [← hm6] at hm hjn HJ
        have hm6b : m6 < 64 := by omega
        have HT6 := Lib.hid ht
        clear hm6 ht
        by_cases hcc : 128 ≤ c ∧ c < 192
        · have ht2 := HT6.out.2 hcc
          rw [ht2] at h192
          have HCC : Hid (∀ i, i < j + 1 → Utf.cont s (p + 1 + i)) := fun i hi => by
            rcases Nat.lt_or_ge i j with h1 | h1
            · exact HC.out i h1
            · obtain rfl : i = j := by omega
              exact hcn.2 hcc
          clear HT6 ht2 hcn
          go_wp2
          go_round
          case rel => exact ⟨j + 1, by omega, by go_num, by rw [HJ.out]; go_num, HCC.out⟩
          case measure => simp [intOf]; omega
        · have ht2 : ¬ (t : Int) = 128 := fun e => hcc (HT6.out.1 (by omega))
          have hn : Hid (X = -1 ∧ N = 1) := HNO.out fun h => hcc (hcn.1 (h.2.1 j hjk))
          clear HT6 hcn
          go_wp2
          go_ret2
          exact ⟨ret_two (by rw [hn.out.1]) (by rw [hn.out.2]; rfl), rfl⟩
      · obtain rfl : j = k := by omega
        have hsg : Hid (Utf.sg (Utf.acc s p j : Nat) = true → ((Utf.acc s p j : Nat) : Int) ≤ 1114111) := fun h => by
          unfold Utf.sg at h; simp only [decide_eq_true_eq] at h; omega
        have his := sign_is (Utf.acc s p j : Nat) w
        have hsh := fun h => shaped_is (Utf.acc s p j : Nat) w HT.out h
        clear HJ
        generalize Utf.acc s p j = a at hsg his hsh hb HY HNO ⊢
        cases hsv : Utf.sg (a : Int) with
        | false =>
          have hn : Hid (X = -1 ∧ N = 1) := HNO.out fun h => by rw [hsv] at h; exact absurd h.2.2.1 (by decide)
          rw [hsv] at his
          clear hsh hsv HY HNO
          go_wp2_with fail
          refine his.mono ?_
          rintro e w' ⟨rfl, rfl⟩
          go_wp2
          go_ret2
          exact ⟨ret_two (by rw [hn.out.1]) (by rw [hn.out.2]; rfl), rfl⟩
        | true =>
          have hs2 := hsh (hsg.out hsv)
          rw [hsv] at his
          by_cases hk : Utf.sh (a : Int) = j
          · have hn : Hid (X = (a : Int) ∧ N = j + 1) := HY.out ⟨hfit, HC.out, hsv, hk⟩
            rw [hk] at hs2
            clear hsh hsv HY HNO hk
            go_wp2_with fail
            refine his.mono ?_
            rintro e w' ⟨rfl, rfl⟩
            go_wp2_with fail
            refine hs2.mono ?_
            rintro e w' ⟨rfl, rfl⟩
            go_wp2
            go_ret2
            exact ⟨ret_two (by rw [hn.out.1]) (by rw [hn.out.2]; omega), rfl⟩
          · have hn : Hid (X = -1 ∧ N = 1) := HNO.out fun h => hk h.2.2.2
            obtain ⟨m, hm⟩ : ∃ m, m = Utf.sh (a : Int) := ⟨_, rfl⟩
            rw [← hm] at hk hs2
            clear hsh hsv HY HNO hm
            have hk' : ¬ (m : Int) = j := by omega
            go_wp2_with fail
            refine his.mono ?_
            rintro e w' ⟨rfl, rfl⟩
            go_wp2_with fail
            refine hs2.mono ?_
            rintro e w' ⟨rfl, rfl⟩
            go_wp2
            go_ret2
            exact ⟨ret_two (by rw [hn.out.1]) (by rw [hn.out.2]; rfl), rfl⟩
  · have hn := HNO.out (fun h => hfit h.1)
    have HN := Lib.hid hn
    clear hn
    go_enter Tryz.func112, Tryz.ntmps112
    go_wp2_with fail
    refine hled.mono ?_
    rintro e w' ⟨rfl, rfl⟩
    go_wp2
    go_ret2
    exact ⟨ret_two (by rw [HN.out.1]) (by rw [HN.out.2]; rfl), rfl⟩
end Go.Proofs.YtijmijokgenflaaGreatDoor
/- The contract of utf's Valid; the example that each law of layer 3 ends with. -/
namespace Go.Proofs.YtijmijokgenflaaGreatDoor
open Go Go.RowKit

namespace Utf
theorem nx_step (s : ByteArray) (p : Nat) (h : p < s.size) : 1 ≤ (nx s p).2 ∧ (nx s p).2 ≤ 4 ∧ p + (nx s p).2 ≤ s.size := by
  unfold nx
  split
  · rename_i h1
    have h2 := h1.1
    have := led_le (gt s p)
    simp only
    omega
  · simp only
    omega
theorem nx_small (s : ByteArray) (p : Nat) : -1 ≤ (nx s p).1 ∧ (nx s p).1 ≤ 1114111 := by
  unfold nx
  split
  · rename_i h1
    have h2 := h1.2.2.1
    unfold sg at h2
    simp only [decide_eq_true_eq] at h2
    simp only
    omega
  · simp only
    omega
def vd (s : ByteArray) : Nat → Nat → Bool
  | 0, _ => true
  | f + 1, p => if p < s.size then (if (nx s p).1 < 0 then false else vd s f (p + (nx s p).2)) else true
def valid (s : ByteArray) : Bool := vd s s.size 0
theorem vd_end (s : ByteArray) (f p : Nat) (h : s.size ≤ p) : vd s f p = true := by
  cases f with
  | zero => rfl
  | succ f => rw [vd, if_neg (by omega)]
theorem vd_no (s : ByteArray) (f p : Nat) (h : p < s.size) (hf : s.size ≤ p + f) (hn : (nx s p).1 < 0) : vd s f p = false := by
  cases f with
  | zero => omega
  | succ f => rw [vd, if_pos h, if_pos hn]
theorem vd_step (s : ByteArray) (f p : Nat) (h : p < s.size) (hf : s.size ≤ p + f) (hn : ¬ (nx s p).1 < 0) : vd s f p = vd s (f - 1) (p + (nx s p).2) := by
  cases f with
  | zero => omega
  | succ f => rw [vd, if_pos h, if_neg hn]; rfl
end Utf

set_option maxHeartbeats 1000000 in
theorem utfValid_is (s : ByteArray) (w : World) (hs : s.size ≤ 140737488351232) (hT : Shapes w) :
    Calls Tryz.prog 99 #[.string s] w fun e w' => e = .returned (.bool (Utf.valid s)) ∧ w = w' := by
  obtain ⟨b, hb⟩ : ∃ b, b = Utf.valid s := ⟨_, rfl⟩
  rw [← hb]
  have HB : Hid (b = Utf.vd s s.size 0) := hb
  have HT := Lib.hid hT
  clear hb hT
  go_enter Tryz.func99, Tryz.ntmps99
  go_wp2
  go_loop [3] (fun i => ∃ p f : Nat, p ≤ s.size ∧ s.size ≤ p + f ∧ i = .int .i64 p ∧ b = Utf.vd s f p) (fun i => s.size - (intOf i).toNat)
  case atStart => exact ⟨0, s.size, Nat.zero_le _, by omega, rfl, HB.out⟩
  case round =>
    obtain ⟨p, f, hp, hf, rfl, hbv⟩ := hrel
    have BV := Lib.hid hbv
    clear hbv
    by_cases hps : p < s.size
    · have hn := next_in s p w hps hs HT.out
      have hst := Utf.nx_step s p hps
      have hv := fun h => Utf.vd_no s f p hps hf h
      have hv2 := fun h => Utf.vd_step s f p hps hf h
      have HV := Lib.hid hv; have HV2 := Lib.hid hv2
      clear hv hv2
      generalize (Utf.nx s p).1 = x at hn HV HV2
      generalize (Utf.nx s p).2 = n at hn hst HV2
      obtain ⟨n1, n2, n3⟩ := hst
      have hp' : (p : Int) < s.size := by omega
      by_cases hx : x < 0
      · have HE := Lib.hid (HV.out hx)
        go_wp2_with fail
        refine hn.mono ?_
        rintro e w' ⟨rfl, rfl⟩
        clear hn
        go_wp2
        go_ret
        exact ⟨ret_bool (by rw [BV.out, HE.out]), rfl⟩
      · have HE := Lib.hid (HV2.out hx)
        go_wp2_with fail
        refine hn.mono ?_
        rintro e w' ⟨rfl, rfl⟩
        clear hn
        go_wp2
        go_round
        case rel => exact ⟨p + n, f - 1, by omega, by omega, by go_num, by rw [BV.out, HE.out]⟩
        case measure => simp [intOf]; omega
    · have HE := Lib.hid (Utf.vd_end s f p (by omega))
      have hp' : ¬ (p : Int) < s.size := by omega
      go_wp2
      go_ret
      exact ⟨ret_bool (by rw [BV.out, HE.out]), rfl⟩

theorem utfEx1 : Utf.nx ⟨#[195, 169]⟩ 0 = (233, 2) := by decide +kernel
theorem utfEx2 : Utf.valid ⟨#[97, 195, 169]⟩ = true := by decide +kernel
theorem utfEx3 : Utf.valid ⟨#[255]⟩ = false := by decide +kernel

end Go.Proofs.YtijmijokgenflaaGreatDoor
/- The contract of utf's Put. -/
namespace Go.Proofs.YtijmijokgenflaaGreatDoor
open Go Go.RowKit

/-- a row of another type stays as it is when bytes of the call's own are appended to -/
def Stays (e : TypeId) (w w' : World) : Prop := ∀ (X : Nat) (cs : Array Value) (ty : TypeId) (m : Nat × Nat), w.heap[X]? = some (Obj.cells cs ty m) → ty ≠ e → w'.heap[X]? = some (Obj.cells cs ty m)
theorem stays_of {w w' : World} {B : Nat} {e : TypeId} {v : Value} {n : Nat} {xs : List Value} (hown : w.ownsRow B e 1 v n xs) (hg : w.grownBy w' v.ownBlock) : Stays e w w' := by
  intro X cs ty m hX hne
  have hlt : X < w.heap.size := (Array.getElem?_eq_some_iff.1 hX).1
  rw [hg.block X hlt ?_]
  · exact hX
  · rcases hown.2 with ⟨rfl, _⟩ | ⟨g, cap, cur, rfl, _, q3, _⟩
    · intro h; cases h
    · intro h
      have hXg : X = g := by simpa [Value.ownBlock] using h
      subst hXg
      rw [q3] at hX
      simp only [Option.some.injEq, Obj.cells.injEq] at hX
      exact hne hX.2.1.symm

section
variable {P : Program} {t e : TypeId} {ops : Array Oper} {rest : List Oper} {o : Oper} {a : Act} {Q : Exit → Act → World → Prop}
theorem wpList_byteX (U : U8 P t e) (w : World) (hg : o.guard = none) (s x : Operand) (ho : o.op = .call { callee := .builtin .append, args := #[s, x], argTypes := #[t, t] })
    (B n : Nat) (l : List UInt8) (v : Value) (hs : a.eval s = v) (hown : w.ownsRow B e 1 v n (bys l)) (X : Int) (b : UInt8) (hx : a.eval x = .slice (some ⟨w.heap.size, 0, none⟩) 1 1) (hX : X = (b.toNat : Int))
    (hlen : n + 1 ≤ 140737488355328) (hB : B ≤ w.heap.size)
    (h : ∀ v' w', w'.ownsRow B e 1 v' (n + 1) (bys (l ++ [b])) → Below B w w' → Stays e w w' → wpList P ops Q rest (a.put o.dst v') w') : wpList P ops Q (o :: rest) a (w.alloc (.cells #[.int .u8 X] e)) := by
  obtain ⟨i0, hi, hz0, hz1, hz2⟩ := info_parts U.info
  refine wpList_append_own _ hg s x t ho B e i0 (.int .u8 0) 1 1 U.slice hi hz0 hz1 hz2 rfl (by decide) v n (bys l) hs (hown.alloc _) ⟨w.heap.size, 0, none⟩ 1 1 (bys [b]) hx rfl ?_ (bys_one _) (by unfold maxLen; omega) (by omega) (by simp; omega) ?_
  · intro j u hu
    match j, hu with
    | 0, hu => simp [bys] at hu; subst hu; subst hX; simp [Addr.add]
  · intro v' w' h1 h2 _
    refine h v' w' (by rw [bys_append]; exact h1) ?_ ?_
    · exact ((Below.refl B w).alloc hB _).grown h2 (by simp; omega) (fun k hk => (hown.lt k hk).1)
    · intro X cs ty m hX hne
      refine stays_of (hown.alloc _) h2 X cs ty m ?_ hne
      rw [((Below.refl w.heap.size w).alloc (Nat.le_refl _) _).block X (Array.getElem?_eq_some_iff.1 hX).1]
      exact hX
theorem step_byteX (U : U8 P t e) {w : World} {K : Act → World → Prop} {E : Prop} {Q : Exit → Act → World → Prop} (hg : o.guard = none) (s x : Operand) (ho : o.op = .call { callee := .builtin .append, args := #[s, x], argTypes := #[t, t] })
    (B n : Nat) (l : List UInt8) (v : Value) (hs : a.eval s = v) (hown : w.ownsRow B e 1 v n (bys l)) (ad : Addr) (b : UInt8) (hx : a.eval x = .slice (some ad) 1 1) (hX : w.cell? ad = some (.int .u8 (b.toNat : Int)))
    (hlen : n + 1 ≤ 140737488355328) (hB : B ≤ w.heap.size)
    (h : ∀ v' w', w'.ownsRow B e 1 v' (n + 1) (bys (l ++ [b])) → Below B w w' → Stays e w w' → K (a.put o.dst v') w') :
    if Region.wanted o (yielded ops a.tmps) = true then Oper.wp P o a w K Q else E := by
  obtain ⟨i0, hi, hz0, hz1, hz2⟩ := info_parts U.info
  have hnews : ∀ j u, (bys [b])[j]? = some u → w.cell? (ad.add j) = some u := by
    intro j u hu
    match j, hu with
    | 0, hu => simp [bys] at hu; subst hu; rw [show ad.add 0 = ad from by cases ad; simp [Addr.add]]; exact hX
  have hw : Region.wanted o (yielded ops a.tmps) = true := by simp [Region.wanted, hg]
  rw [if_pos hw]
  obtain ⟨v', w', hrun, h1, h2, _⟩ := run_append_own (P := P) w B t o.type e i0 (.int .u8 0) 1 1 U.slice hi hz0 hz1 hz2 rfl (by decide) v n (bys l) hown ad 1 1 (bys [b]) rfl hnews (bys_one _) (by unfold maxLen; omega) (by omega) hB
  unfold Oper.wp
  simp [execOp, ho, resolve, invoke, builtin, hs, hx, hrun, Result.andThen]
  exact h v' w' (by rw [bys_append]; exact h1) ((Below.refl B w).grown h2 hB (fun k hk => (hown.lt k hk).1)) (stays_of hown h2)
end

namespace Utf
def tailB (r : Nat) (k i : Nat) : UInt8 := UInt8.ofNat (128 + r / 64 ^ (k - 1 - i) % 64)
def encK (r k : Nat) : List UInt8 := UInt8.ofNat (lead k + r / 64 ^ k) :: (List.range k).map (tailB r k)
def enc (r : Int) : List UInt8 := if sg r then encK r.toNat (sh r) else []
end Utf

theorem shapes_three {w : World} (h : Shapes w) (k : Nat) (hk : k ≤ 3) : ∃ L : Int, w.cell? ⟨0, k * 3, none⟩ = some (.int .i64 L) ∧ w.cell? ⟨0, k * 3 + 1, none⟩ = some (.int .i64 (Utf.lead k : Nat)) ∧ w.cell? ⟨0, k * 3 + 2, none⟩ = some (.int .i64 k) := by
  match k, hk with
  | 0, _ => exact ⟨_, h.c0, h.c1, h.c2⟩
  | 1, _ => exact ⟨_, h.c3, h.c4, h.c5⟩
  | 2, _ => exact ⟨_, h.c6, h.c7, h.c8⟩
  | 3, _ => exact ⟨_, h.c9, h.c10, h.c11⟩

theorem utfOwn_later {w w' : World} {B : Nat} {ty : TypeId} {n : Nat} {v : Value} {xs : List Value} (h : w.ownsRow B ty 1 v n xs) (hb : Below w.heap.size w w') : w'.ownsRow B ty 1 v n xs := by
  refine ⟨h.1, ?_⟩
  rcases h.2 with q | ⟨g, cap, cur, q1, q2, q3, q4⟩
  · exact .inl q
  · exact .inr ⟨g, cap, cur, q1, q2, by rw [hb.block g (Array.getElem?_eq_some_iff.1 q3).1]; exact q3, q4⟩
theorem shr_i64 (P : Program) (m k : Nat) (hk : k ≤ 3) (w : World) : Sem.run P (Op.shift BinOp.shr IntKind.i64 (m : Int) IntKind.i64 (IntKind.i64.wrap (6 * (k : Int)))) w = .ok (.int .i64 ((m / 64 ^ k : Nat) : Int)) w := by
  have e1 : IntKind.i64.wrap (6 * (k : Int)) = ((6 * k : Nat) : Int) := by rw [IntWalk.i64_in _ (by omega)]; omega
  rw [e1]
  unfold Op.shift
  rw [if_neg (by omega)]
  have e2 : min (6 * k) IntKind.i64.bits = 6 * k := by simp [IntKind.bits]; omega
  simp only [Int.toNat_natCast, e2]
  rw [Sem.run_pure]
  have : (m : Int).fdiv (2 ^ (6 * k)) = ((m / 64 ^ k : Nat) : Int) := by
    rw [show ((2 : Int) ^ (6 * k)) = ((64 ^ k : Nat) : Int) from by rw [Int.pow_mul]; simp, Int.fdiv_eq_ediv_of_nonneg _ (Int.natCast_nonneg _)]; simp
  simp only [this]
theorem lead_or (k q : Nat) (hk : k = 0 ∧ q < 192 ∨ k = 1 ∧ q < 32 ∨ k = 2 ∧ q < 16 ∨ k = 3 ∧ q < 8) : Utf.lead k ||| q = Utf.lead k + q := by
  unfold Utf.lead
  rcases hk with ⟨rfl, h⟩ | ⟨rfl, h⟩ | ⟨rfl, h⟩ | ⟨rfl, h⟩
  · simp
  · exact nat_join 5 192 q (by decide) (by simpa using h)
  · exact nat_join 4 224 q (by decide) (by simpa using h)
  · exact nat_join 3 240 q (by decide) (by simpa using h)
theorem lead_part (r : Nat) (hr : r ≤ 1114111) : Utf.sh (r : Int) = 0 ∧ r / 64 ^ Utf.sh (r : Int) < 192 ∨ Utf.sh (r : Int) = 1 ∧ r / 64 ^ Utf.sh (r : Int) < 32 ∨ Utf.sh (r : Int) = 2 ∧ r / 64 ^ Utf.sh (r : Int) < 16 ∨ Utf.sh (r : Int) = 3 ∧ r / 64 ^ Utf.sh (r : Int) < 8 := by
  have h : Utf.sh (r : Int) = 0 ∧ r ≤ 127 ∨ Utf.sh (r : Int) = 1 ∧ 127 < r ∧ r ≤ 2047 ∨ Utf.sh (r : Int) = 2 ∧ 2047 < r ∧ r ≤ 65535 ∨ Utf.sh (r : Int) = 3 ∧ 65535 < r := by
    unfold Utf.sh; (repeat' split) <;> omega
  rcases h with ⟨e, h⟩ | ⟨e, h⟩ | ⟨e, h⟩ | ⟨e, h⟩ <;> rw [e] <;> simp <;> omega
theorem lead_sum (k q : Nat) (hk : k = 0 ∧ q < 192 ∨ k = 1 ∧ q < 32 ∨ k = 2 ∧ q < 16 ∨ k = 3 ∧ q < 8) : Utf.lead k + q < 256 := by
  unfold Utf.lead
  rcases hk with ⟨rfl, h⟩ | ⟨rfl, h⟩ | ⟨rfl, h⟩ | ⟨rfl, h⟩ <;> simp <;> omega
theorem encK_take0 (m k : Nat) : (Utf.encK m k).take (1 + 0) = [UInt8.ofNat (Utf.lead k + m / 64 ^ k)] := rfl
theorem encK_taken (m k j : Nat) (hj : j < k) : (Utf.encK m k).take (1 + (j + 1)) = (Utf.encK m k).take (1 + j) ++ [Utf.tailB m k j] := by
  have hl : 1 + j < (Utf.encK m k).length := by simp [Utf.encK]; omega
  rw [show 1 + (j + 1) = (1 + j) + 1 from by omega, List.take_succ_eq_append_getElem hl]
  congr 2
  simp [Utf.encK, show 1 + j = j + 1 from by omega]
theorem or128 (t : Nat) (h : t < 64) : bits .or .i64 128 (t : Int) = ((128 + t : Nat) : Int) := by
  rw [show (128 : Int) = ((128 : Nat) : Int) from rfl, i64_or_nat _ _ (by omega) (by omega), nat_join 6 128 t (by decide) (by simpa using h)]
theorem and63 (q : Nat) (h : q ≤ 1114111) : bits .and .i64 (q : Int) 63 = ((q % 64 : Nat) : Int) := by
  rw [show (63 : Int) = ((63 : Nat) : Int) from rfl, i64_and_nat _ _ (by omega) (by omega), show (63 : Nat) = 2 ^ 6 - 1 from rfl, Nat.and_two_pow_sub_one_eq_mod]

end Go.Proofs.YtijmijokgenflaaGreatDoor
/- What was put is found: the plain part. -/
namespace Go.Proofs.YtijmijokgenflaaGreatDoor
open Go Go.RowKit
namespace Utf
theorem gt_arr (l : List UInt8) (i : Nat) : gt ⟨l.toArray⟩ i = (l.getD i 0).toNat := rfl
theorem gt_behind (b m : List UInt8) (i : Nat) : gt ⟨(b ++ m).toArray⟩ (b.length + i) = (m.getD i 0).toNat := by
  rw [gt_arr, List.getD, List.getElem?_append_right (by omega), show b.length + i - b.length = i from by omega]; rfl
theorem encK_len (r k : Nat) : (encK r k).length = k + 1 := by simp [encK]
theorem encK_head (r k : Nat) : (encK r k).getD 0 0 = UInt8.ofNat (lead k + r / 64 ^ k) := rfl
theorem encK_tail (r k i : Nat) (h : i < k) : (encK r k).getD (i + 1) 0 = tailB r k i := by
  simp [encK, List.getD, h]
theorem tailB_nat (r k i : Nat) : (tailB r k i).toNat = 128 + r / 64 ^ (k - 1 - i) % 64 := by
  unfold tailB
  rw [UInt8.toNat_ofNat', Nat.mod_eq_of_lt]
  omega
theorem head_is (r : Nat) (hr : r ≤ 1114111) : (UInt8.ofNat (lead (sh r) + r / 64 ^ (sh r))).toNat = lead (sh r) + r / 64 ^ (sh r) ∧ led (lead (sh r) + r / 64 ^ (sh r)) = sh r := by
  have h : sh (r : Int) = 0 ∧ r ≤ 127 ∨ sh (r : Int) = 1 ∧ 127 < r ∧ r ≤ 2047 ∨ sh (r : Int) = 2 ∧ 2047 < r ∧ r ≤ 65535 ∨ sh (r : Int) = 3 ∧ 65535 < r := by
    unfold sh; (repeat' split) <;> omega
  rw [UInt8.toNat_ofNat']
  rcases h with ⟨e, h⟩ | ⟨e, h⟩ | ⟨e, h⟩ | ⟨e, h⟩ <;> rw [e] <;> unfold lead led <;> simp <;> constructor <;> (repeat' split) <;> omega
theorem found (b : List UInt8) (r : Int) (h : sg r = true) : nx ⟨(b ++ enc r).toArray⟩ b.length = (r, sh r + 1) := by
  have hr : 0 ≤ r ∧ r ≤ 1114111 := by unfold sg at h; simp only [decide_eq_true_eq] at h; omega
  obtain ⟨m, rfl⟩ := Int.eq_ofNat_of_zero_le hr.1
  have he : enc (m : Int) = encK m (sh (m : Int)) := by unfold enc; rw [h]; rfl
  rw [he]
  obtain ⟨h1, h2⟩ := head_is m (by omega)
  have hg : gt ⟨(b ++ encK m (sh (m : Int))).toArray⟩ b.length = lead (sh (m : Int)) + m / 64 ^ (sh (m : Int)) := by
    have := gt_behind b (encK m (sh (m : Int))) 0
    rw [Nat.add_zero] at this
    rw [this, encK_head, h1]
  have hi : ∀ i, i < sh (m : Int) → gt ⟨(b ++ encK m (sh (m : Int))).toArray⟩ (b.length + 1 + i) = 128 + m / 64 ^ (sh (m : Int) - 1 - i) % 64 := fun i hi => by
    rw [show b.length + 1 + i = b.length + (i + 1) from by omega, gt_behind, encK_tail _ _ _ hi, tailB_nat]
  have hsz : (⟨(b ++ encK m (sh (m : Int))).toArray⟩ : ByteArray).size = b.length + (sh (m : Int) + 1) := by
    show (b ++ encK m (sh (m : Int))).toArray.size = _
    simp [encK_len]
  have hacc : acc ⟨(b ++ encK m (sh (m : Int))).toArray⟩ b.length (sh (m : Int)) = m := by
    have hle := sh_le (m : Int)
    generalize hS : (⟨(b ++ encK m (sh (m : Int))).toArray⟩ : ByteArray) = S at hg hi ⊢
    generalize sh (m : Int) = k at hg hi hle h2 ⊢
    have h0 : acc S b.length 0 = m / 64 ^ k := by simp only [acc]; rw [hg, h2]; exact Nat.add_sub_cancel_left _ _
    match k, hle with
    | 0, _ => rw [h0]; simp
    | 1, _ =>
      have a0 := hi 0 (by omega)
      simp only [acc] at h0 ⊢
      rw [h0, a0]
      simp
      omega
    | 2, _ =>
      have a0 := hi 0 (by omega); have a1 := hi 1 (by omega)
      simp only [acc] at h0 ⊢
      rw [h0, a0, a1]
      simp
      omega
    | 3, _ =>
      have a0 := hi 0 (by omega); have a1 := hi 1 (by omega); have a2 := hi 2 (by omega)
      simp only [acc] at h0 ⊢
      rw [h0, a0, a1, a2]
      simp
      omega
  have hok : ok ⟨(b ++ encK m (sh (m : Int))).toArray⟩ b.length := by
    unfold ok
    rw [hg, h2, hacc, hsz]
    refine ⟨by omega, fun j hj => ?_, h, rfl⟩
    unfold cont
    rw [hi j hj]
    omega
  rw [nx_yes hok, hg, h2, hacc]
end Utf
namespace Utf
/-- the number that the document tries with k bytes behind the first -/
def rk (s : ByteArray) (p : Nat) : Nat → Nat
  | 0 => gt s p
  | 1 => gt s p % 32 * 64 + gt s (p + 1) % 64
  | 2 => gt s p % 16 * 4096 + gt s (p + 1) % 64 * 64 + gt s (p + 2) % 64
  | _ => gt s p % 8 * 262144 + gt s (p + 1) % 64 * 4096 + gt s (p + 2) % 64 * 64 + gt s (p + 3) % 64
/-- its bytes are those that stand there -/
def mt (s : ByteArray) (p k : Nat) : Prop := p + k + 1 ≤ s.size ∧ (enc (rk s p k : Nat)).length = k + 1 ∧ ∀ i, i ≤ k → ((enc (rk s p k : Nat)).getD i 0).toNat = gt s (p + i)
theorem sh_cases (r : Nat) : sh (r : Int) = 0 ∧ r ≤ 127 ∨ sh (r : Int) = 1 ∧ 127 < r ∧ r ≤ 2047 ∨ sh (r : Int) = 2 ∧ 2047 < r ∧ r ≤ 65535 ∨ sh (r : Int) = 3 ∧ 65535 < r := by
  unfold sh; (repeat' split) <;> omega
theorem led_cases (f : Nat) : led f = 0 ∧ f < 192 ∨ led f = 1 ∧ 192 ≤ f ∧ f < 224 ∨ led f = 2 ∧ 224 ≤ f ∧ f < 240 ∨ led f = 3 ∧ 240 ≤ f := by
  unfold led; (repeat' split) <;> omega
theorem enc_get0 (m : Nat) (h : sg (m : Int) = true) : ((enc (m : Int)).getD 0 0).toNat = lead (sh (m : Int)) + m / 64 ^ sh (m : Int) := by
  have hr : m ≤ 1114111 := by unfold sg at h; simp only [decide_eq_true_eq] at h; omega
  have he : enc (m : Int) = encK m (sh (m : Int)) := by unfold enc; rw [h]; rfl
  rw [he, encK_head, (head_is m hr).1]
theorem enc_getS (m i : Nat) (h : sg (m : Int) = true) (hi : i < sh (m : Int)) : ((enc (m : Int)).getD (i + 1) 0).toNat = 128 + m / 64 ^ (sh (m : Int) - 1 - i) % 64 := by
  have he : enc (m : Int) = encK m (sh (m : Int)) := by unfold enc; rw [h]; rfl
  rw [he, encK_tail _ _ _ hi, tailB_nat]
theorem enc_lenS (m : Nat) (h : sg (m : Int) = true) : (enc (m : Int)).length = sh (m : Int) + 1 := by
  have he : enc (m : Int) = encK m (sh (m : Int)) := by unfold enc; rw [h]; rfl
  rw [he, encK_len]
theorem acc_rk (s : ByteArray) (p : Nat) (h : ok s p) : acc s p (led (gt s p)) = rk s p (led (gt s p)) := by
  have hg := gt_lt s p
  have h4 := h.2.2.1
  unfold sg at h4
  simp only [decide_eq_true_eq] at h4
  rcases led_cases (gt s p) with ⟨e, b⟩ | ⟨e, b⟩ | ⟨e, b⟩ | ⟨e, b⟩
  · rw [e]
    show gt s p - lead (led (gt s p)) = gt s p
    rw [e]; simp [lead]
  · have a : acc s p 1 = (gt s p - 192) * 64 + gt s (p + 1) % 64 := by simp only [acc]; rw [e]; rfl
    rw [e, a]
    simp only [rk]
    omega
  · have a : acc s p 2 = ((gt s p - 224) * 64 + gt s (p + 1) % 64) * 64 + gt s (p + 2) % 64 := by simp only [acc]; rw [e]; rfl
    rw [e, a]
    simp only [rk]
    omega
  · have a : acc s p 3 = (((gt s p - 240) * 64 + gt s (p + 1) % 64) * 64 + gt s (p + 2) % 64) * 64 + gt s (p + 3) % 64 := by simp only [acc]; rw [e]; rfl
    rw [e, a] at h4
    rw [e, a]
    simp only [rk]
    omega
/-- where a sign begins, the document's way finds it with just so many bytes -/
theorem mt_of_ok (s : ByteArray) (p : Nat) (h : ok s p) : mt s p (led (gt s p)) := by
  have ha := acc_rk s p h
  have hg := gt_lt s p
  have hb0 : acc s p (led (gt s p)) ≤ 1114111 := by
    have h5 := h.2.2.1
    unfold sg at h5
    simp only [decide_eq_true_eq] at h5
    omega
  obtain ⟨h1, h2, h3, h4⟩ := h
  rw [ha] at h3 h4
  have hl := enc_lenS _ h3
  have e0 := enc_get0 _ h3
  have eS := fun i hi => enc_getS _ i h3 hi
  rw [h4] at hl e0 eS
  refine ⟨h1, hl, fun i hi => ?_⟩
  clear hl h3 h4 ha
  rcases led_cases (gt s p) with ⟨e, b⟩ | ⟨e, b⟩ | ⟨e, b⟩ | ⟨e, b⟩ <;> rw [e] at h1 h2 e0 eS hi hb0 ⊢
  · obtain rfl : i = 0 := by omega
    rw [e0]; simp [lead, rk]
  · have c1 := h2 0 (by omega)
    simp only [cont, Nat.add_zero] at c1
    match i, hi with
    | 0, _ => rw [e0]; simp only [lead, rk, Nat.add_zero]; simp; omega
    | 1, _ => rw [eS 0 (by omega)]; simp only [rk]; simp; omega
  · have c1 := h2 0 (by omega); have c2 := h2 1 (by omega)
    simp only [cont, Nat.add_zero, show p + 1 + 1 = p + 2 from rfl] at c1 c2
    match i, hi with
    | 0, _ => rw [e0]; simp only [lead, rk, Nat.add_zero]; simp; omega
    | 1, _ => rw [eS 0 (by omega)]; simp only [rk]; simp; omega
    | 2, _ => rw [eS 1 (by omega)]; simp only [rk]; simp; omega
  · have c1 := h2 0 (by omega); have c2 := h2 1 (by omega); have c3 := h2 2 (by omega)
    simp only [cont, Nat.add_zero, show p + 1 + 1 = p + 2 from rfl, show p + 1 + 2 = p + 3 from rfl] at c1 c2 c3
    have a : acc s p 3 = (((gt s p - 240) * 64 + gt s (p + 1) % 64) * 64 + gt s (p + 2) % 64) * 64 + gt s (p + 3) % 64 := by simp only [acc]; rw [e]; rfl
    rw [a] at hb0
    have hb : gt s p ≤ 247 := by omega
    match i, hi with
    | 0, _ => rw [e0]; simp only [lead, rk, Nat.add_zero]; simp; omega
    | 1, _ => rw [eS 0 (by omega)]; simp only [rk]; simp; omega
    | 2, _ => rw [eS 1 (by omega)]; simp only [rk]; simp; omega
    | 3, _ => rw [eS 2 (by omega)]; simp only [rk]; simp; omega
/-- what the document's way finds is what nx finds -/
theorem ok_of_mt (s : ByteArray) (p k : Nat) (hk : k ≤ 3) (h : mt s p k) : ok s p ∧ led (gt s p) = k ∧ acc s p k = rk s p k := by
  obtain ⟨h1, hl, hb⟩ := h
  obtain ⟨r, hr⟩ : ∃ r, r = rk s p k := ⟨_, rfl⟩
  rw [← hr] at hl hb ⊢
  clear hr
  have hsg : sg (r : Int) = true := by
    refine Classical.byContradiction fun hn => ?_
    have : enc (r : Int) = [] := by unfold enc; rw [if_neg hn]
    rw [this] at hl; simp at hl
  have hrb : r ≤ 1114111 := by unfold sg at hsg; simp only [decide_eq_true_eq] at hsg; omega
  have hsh : sh (r : Int) = k := by have := enc_lenS r hsg; omega
  have e0 := enc_get0 r hsg
  have eS := fun i hi => enc_getS r i hsg hi
  have hhd := (head_is r hrb).2
  rw [hsh] at e0 eS hhd
  have b0 := hb 0 (by omega)
  rw [e0, Nat.add_zero] at b0
  rw [b0] at hhd
  have bS : ∀ i, i < k → gt s (p + 1 + i) = 128 + r / 64 ^ (k - 1 - i) % 64 := fun i hi => by
    rw [← eS i hi, hb (i + 1) (by omega), show p + (i + 1) = p + 1 + i from by omega]
  have hacc : acc s p k = r := by
    have h0 : acc s p 0 = r / 64 ^ k := by simp only [acc]; rw [hhd, ← b0]; exact Nat.add_sub_cancel_left _ _
    rcases (show k = 0 ∨ k = 1 ∨ k = 2 ∨ k = 3 by omega) with rfl | rfl | rfl | rfl
    · rw [h0]; simp
    · have a0 := bS 0 (by omega)
      simp only [acc] at h0 ⊢
      rw [h0, a0]; simp; omega
    · have a0 := bS 0 (by omega); have a1 := bS 1 (by omega)
      simp only [acc] at h0 ⊢
      rw [h0, a0, a1]; simp; omega
    · have a0 := bS 0 (by omega); have a1 := bS 1 (by omega); have a2 := bS 2 (by omega)
      simp only [acc] at h0 ⊢
      rw [h0, a0, a1, a2]; simp; omega
  refine ⟨?_, hhd, hacc⟩
  unfold ok
  rw [hhd, hacc]
  refine ⟨h1, fun j hj => ?_, hsg, hsh⟩
  unfold cont
  rw [bS j hj]
  omega
/-- the document's way: the first length that fits -/
theorem nx_of_mt (s : ByteArray) (p k : Nat) (hk : k ≤ 3) (h : mt s p k) : nx s p = (((rk s p k : Nat) : Int), k + 1) := by
  obtain ⟨h1, h2, h3⟩ := ok_of_mt s p k hk h
  rw [nx_yes h1, h2, h3]
theorem nx_none (s : ByteArray) (p : Nat) (h : ∀ k, k ≤ 3 → p + k + 1 ≤ s.size → ¬ mt s p k) : nx s p = (-1, 1) :=
  nx_no fun hok => h (led (gt s p)) (led_le _) hok.1 (mt_of_ok s p hok)
end Utf
end Go.Proofs.YtijmijokgenflaaGreatDoor
