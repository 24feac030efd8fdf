/- The statement DocsJoins, proved for every input that its row reads: part 17 of 54. -/
import Derived.Test.YtdnkhcbglmfjbaaDoorProg
import Derived.Test.YtdnkhcbglmfjbaaDoorMem
import Derived.Outline
import Derived.Laws.BitsLemmas
import Derived.Laws.BitsAllLaws
/- Contracts of bytes.Clone and bytes.Equal over this program, by the bytes that lie there. -/
namespace Go.Proofs.YtdnkhcbglmfjbaaDoor
open Go Go.RowKit

theorem infoU8 : (Tryd.prog.info? 5).map (fun i => (i.zero, i.size, i.bytes)) = some (some (.int .u8 0), 1, 1) := by kernel_rfl

theorem isU8 : U8 Tryd.prog 94 5 := ⟨Tryd.underlying94, infoU8⟩

end Go.Proofs.YtdnkhcbglmfjbaaDoor
/- The contracts of utf's Sign, led, shaped. -/
namespace Go.Proofs.YtdnkhcbglmfjbaaDoor
open Go Go.RowKit

namespace Utf
def sg (r : Int) : Bool := decide ((0 ≤ r ∧ r < 55296) ∨ (57343 < r ∧ r ≤ 1114111))
def led (f : Nat) : Nat := if f < 192 then 0 else if f < 224 then 1 else if f < 240 then 2 else 3
def lead (k : Nat) : Nat := if k = 0 then 0 else if k = 1 then 192 else if k = 2 then 224 else 240
def sh (r : Int) : Nat := if r ≤ 127 then 0 else if r ≤ 2047 then 1 else if r ≤ 65535 then 2 else 3
theorem led_le (f : Nat) : led f ≤ 3 := by unfold led; (repeat' split) <;> omega
theorem led_lead (f : Nat) (hf : f < 256) : lead (led f) ≤ f ∧ f - lead (led f) ≤ 191 := by unfold lead led; (repeat' split) <;> omega
theorem sh_le (r : Int) : sh r ≤ 3 := by unfold sh; (repeat' split) <;> omega
theorem led_iff (f : Nat) : (led f ≤ 0 ↔ f < 192) ∧ (led f ≤ 1 ↔ f < 224) ∧ (led f ≤ 2 ↔ f < 240) := by unfold led; (repeat' split) <;> omega
theorem sh_iff (r : Int) : (1 ≤ sh r ↔ 127 < r) ∧ (2 ≤ sh r ↔ 2047 < r) ∧ (3 ≤ sh r ↔ 65535 < r) := by unfold sh; (repeat' split) <;> omega
end Utf

/-- the table of shapes -/
structure Shapes (w : World) : Prop where
  c0 : w.cell? ⟨0, 0, none⟩ = some (.int .i64 127)
  c1 : w.cell? ⟨0, 1, none⟩ = some (.int .i64 0)
  c2 : w.cell? ⟨0, 2, none⟩ = some (.int .i64 0)
  c3 : w.cell? ⟨0, 3, none⟩ = some (.int .i64 2047)
  c4 : w.cell? ⟨0, 4, none⟩ = some (.int .i64 192)
  c5 : w.cell? ⟨0, 5, none⟩ = some (.int .i64 1)
  c6 : w.cell? ⟨0, 6, none⟩ = some (.int .i64 65535)
  c7 : w.cell? ⟨0, 7, none⟩ = some (.int .i64 224)
  c8 : w.cell? ⟨0, 8, none⟩ = some (.int .i64 2)
  c9 : w.cell? ⟨0, 9, none⟩ = some (.int .i64 1114111)
  c10 : w.cell? ⟨0, 10, none⟩ = some (.int .i64 240)
  c11 : w.cell? ⟨0, 11, none⟩ = some (.int .i64 3)
theorem Shapes.below {w w' : World} (h : Shapes w) (hb : Below w.heap.size w w') : Shapes w' := by
  have k : ∀ (a : Addr) v, w.cell? a = some v → w'.cell? a = some v := fun a v q => by
    rw [hb.cell (p := a) (World.block_lt_of_cell? w _ q)]; exact q
  exact ⟨k _ _ h.c0, k _ _ h.c1, k _ _ h.c2, k _ _ h.c3, k _ _ h.c4, k _ _ h.c5, k _ _ h.c6, k _ _ h.c7, k _ _ h.c8, k _ _ h.c9, k _ _ h.c10, k _ _ h.c11⟩

theorem ret_intU {k : IntKind} {a b : Int} (h : a = b) : Ending.returned (.int k a) = .returned (.int k b) := by rw [h]

set_option maxHeartbeats 1000000 in
theorem sign_is (r : Int) (w : World) : Calls Tryd.prog 77 #[.int .i64 r] w fun e w' => e = .returned (.bool (Utf.sg r)) ∧ w = w' := by
  obtain ⟨b, hb⟩ : ∃ b, b = Utf.sg r := ⟨_, rfl⟩
  rw [← hb]
  have key : (r < 0 ∧ b = false) ∨ ((0 ≤ r ∧ r < 55296) ∧ b = true) ∨ ((55296 ≤ r ∧ r ≤ 57343) ∧ b = false) ∨ ((57343 < r ∧ r ≤ 1114111) ∧ b = true) ∨ (1114111 < r ∧ b = false) := by
    rw [hb]; unfold Utf.sg
    simp only [decide_eq_true_eq, decide_eq_false_iff_not]
    omega
  clear hb
  rcases key with ⟨h1, rfl⟩ | ⟨⟨h1, h2⟩, rfl⟩ | ⟨⟨h1, h2⟩, rfl⟩ | ⟨⟨h1, h2⟩, rfl⟩ | ⟨h1, rfl⟩
  all_goals
    go_enter Tryd.func77, Tryd.ntmps77
    go_wp2
    go_ret
    exact ⟨ret_bool (by first | rfl | (simp; done) | (simp; omega)), rfl⟩

set_option maxHeartbeats 1000000 in
set_option maxRecDepth 100000 in
theorem led_is (f : Nat) (w : World) (h : Shapes w) : Calls Tryd.prog 76 #[.int .i64 f] w fun e w' => e = .returned (.int .i64 (Utf.led f : Nat)) ∧ w = w' := by
  obtain ⟨c0, c1, c2, c3, c4, c5, c6, c7, c8, c9, c10, c11⟩ := h
  clear c0 c2 c3 c5 c6 c8 c9 c11
  have hi := Utf.led_iff f
  have hle := Utf.led_le f
  obtain ⟨m, hm⟩ : ∃ m, m = Utf.led f := ⟨_, rfl⟩
  rw [← hm] at hi hle ⊢
  clear hm
  obtain ⟨i0, i1, i2⟩ := hi
  have I0 := Lib.hid i0; have I1 := Lib.hid i1; have I2 := Lib.hid i2
  clear i0 i1 i2
  go_enter Tryd.func76, Tryd.ntmps76
  go_wp2
  go_loop [3] (fun i => ∃ k : Nat, k ≤ 3 ∧ i = .int .i64 k ∧ m ≤ k) (fun i => (intOf i).toNat)
  case atStart => exact ⟨3, by omega, rfl, hle⟩
  case round =>
    obtain ⟨k, hk, rfl, hb⟩ := hrel
    match k, hk, hb with
    | 0, _, hb =>
      have h1 := I0.out.1 hb
      obtain rfl : m = 0 := by omega
      go_wp2
      go_ret
      exact ⟨rfl, rfl⟩
    | 1, _, hb =>
      have h2 := I1.out.1 hb
      by_cases h1 : f < 192
      · have h1' := I0.out.2 h1
        go_wp2
        go_round
        case rel => exact ⟨0, by omega, rfl, h1'⟩
        case measure => simp [intOf]
      · obtain rfl : m = 1 := by have : ¬ m ≤ 0 := fun h => h1 (I0.out.1 h); omega
        go_wp2
        go_ret
        exact ⟨rfl, rfl⟩
    | 2, _, hb =>
      have h2 := I2.out.1 hb
      by_cases h1 : f < 224
      · have h1' := I1.out.2 h1
        go_wp2
        go_round
        case rel => exact ⟨1, by omega, rfl, h1'⟩
        case measure => simp [intOf]
      · obtain rfl : m = 2 := by have : ¬ m ≤ 1 := fun h => h1 (I1.out.1 h); omega
        go_wp2
        go_ret
        exact ⟨rfl, rfl⟩
    | 3, _, hb =>
      by_cases h1 : f < 240
      · have h1' := I2.out.2 h1
        go_wp2
        go_round
        case rel => exact ⟨2, by omega, rfl, h1'⟩
        case measure => simp [intOf]
      · obtain rfl : m = 3 := by have : ¬ m ≤ 2 := fun h => h1 (I2.out.1 h); omega
        go_wp2
        go_ret
        exact ⟨rfl, rfl⟩

set_option maxHeartbeats 1000000 in
theorem shaped_is (r : Int) (w : World) (h : Shapes w) (hr : r ≤ 1114111) : Calls Tryd.prog 78 #[.int .i64 r] w fun e w' => e = .returned (.int .i64 (Utf.sh r : Nat)) ∧ w = w' := by
  obtain ⟨c0, c1, c2, c3, c4, c5, c6, c7, c8, c9, c10, c11⟩ := h
  clear c1 c2 c4 c5 c7 c8 c10 c11
  have hi := Utf.sh_iff r
  have hle := Utf.sh_le r
  obtain ⟨m, hm⟩ : ∃ m, m = Utf.sh r := ⟨_, rfl⟩
  rw [← hm] at hi hle ⊢
  clear hm
  obtain ⟨i0, i1, i2⟩ := hi
  have I0 := Lib.hid i0; have I1 := Lib.hid i1; have I2 := Lib.hid i2
  clear i0 i1 i2
  go_enter Tryd.func78, Tryd.ntmps78
  go_wp2
  go_loop [3] (fun i => ∃ k : Nat, k ≤ 3 ∧ i = .int .i64 k ∧ k ≤ m) (fun i => 3 - (intOf i).toNat)
  case atStart => exact ⟨0, by omega, rfl, Nat.zero_le _⟩
  case round =>
    obtain ⟨k, hk, rfl, hb⟩ := hrel
    match k, hk, hb with
    | 0, _, hb =>
      by_cases h1 : 127 < r
      · have h1' := I0.out.2 h1
        go_wp2
        go_round
        case rel => exact ⟨1, by omega, rfl, h1'⟩
        case measure => simp [intOf]
      · obtain rfl : m = 0 := by have : ¬ 1 ≤ m := fun h => h1 (I0.out.1 h); omega
        go_wp2
        go_ret
        exact ⟨rfl, rfl⟩
    | 1, _, hb =>
      have h0 := I0.out.1 hb
      by_cases h1 : 2047 < r
      · have h1' := I1.out.2 h1
        go_wp2
        go_round
        case rel => exact ⟨2, by omega, rfl, h1'⟩
        case measure => simp [intOf]
      · obtain rfl : m = 1 := by have : ¬ 2 ≤ m := fun h => h1 (I1.out.1 h); omega
        go_wp2
        go_ret
        exact ⟨rfl, rfl⟩
    | 2, _, hb =>
      have h0 := I1.out.1 hb
      by_cases h1 : 65535 < r
      · have h1' := I2.out.2 h1
        go_wp2
        go_round
        case rel => exact ⟨3, by omega, rfl, h1'⟩
        case measure => simp [intOf]
      · obtain rfl : m = 2 := by have : ¬ 3 ≤ m := fun h => h1 (I2.out.1 h); omega
        go_wp2
        go_ret
        exact ⟨rfl, rfl⟩
    | 3, _, hb =>
      have h0 := I2.out.1 hb
      obtain rfl : m = 3 := by omega
      go_wp2
      go_ret
      exact ⟨rfl, rfl⟩
theorem i64_fits (n : Int) (h0 : 0 ≤ n) (h1 : n < 2 ^ 63) : IntKind.i64.wrap n = n := IntWalk.i64_in _ ⟨by omega, by omega⟩
theorem i64_and_nat (a b : Nat) (ha : a < 9223372036854775808) (hb : b < 9223372036854775808) : bits .and .i64 (a : Int) (b : Int) = ((a &&& b : Nat) : Int) :=
  (bits_nat .i64 63 (by decide) i64_fits a b (by simpa using ha) (by simpa using hb)).1
theorem i64_or_nat (a b : Nat) (ha : a < 9223372036854775808) (hb : b < 9223372036854775808) : bits .or .i64 (a : Int) (b : Int) = ((a ||| b : Nat) : Int) :=
  (bits_nat .i64 63 (by decide) i64_fits a b (by simpa using ha) (by simpa using hb)).2
theorem i64_join (u c : Nat) (hu : u < 1000000000) : bits .or .i64 ((u : Int) * 64) ((c % 64 : Nat) : Int) = ((u * 64 + c % 64 : Nat) : Int) := by
  rw [show ((u : Int) * 64) = ((u * 64 : Nat) : Int) from by simp, i64_or_nat _ _ (by omega) (by omega)]
  have := Nat.two_pow_add_eq_or_of_lt (i := 6) (b := c % 64) (by omega) u
  rw [show u * 64 = 2 ^ 6 * u from by omega, ← this]
theorem mask63 (c : Nat) (hc : c < 256) : bits .and .i64 (c : Int) 63 = ((c % 64 : Nat) : Int) := by
  rw [show (63 : Int) = ((63 : Nat) : Int) from rfl, i64_and_nat _ _ (by omega) (by omega), show (63 : Nat) = 2 ^ 6 - 1 from rfl, Nat.and_two_pow_sub_one_eq_mod]
theorem top192 : ∀ c : Fin 256, (c.val &&& 192 = 128) ↔ (128 ≤ c.val ∧ c.val < 192) := by decide +kernel

namespace Utf
/-- the byte at a place -/
def gt (s : ByteArray) (i : Nat) : Nat := (s.data.toList.getD i 0).toNat
theorem gt_lt (s : ByteArray) (i : Nat) : gt s i < 256 := UInt8.toNat_lt _
theorem gt_at (s : ByteArray) (i : Nat) (h : i < s.size) : s[i].toNat = gt s i := by
  have h' : i < s.data.toList.length := by rw [Array.length_toList]; exact h
  unfold gt
  rw [List.getD, List.getElem?_eq_getElem h', Option.getD_some, Array.getElem_toList]; rfl
def cont (s : ByteArray) (i : Nat) : Prop := 128 ≤ gt s i ∧ gt s i < 192
def acc (s : ByteArray) (p : Nat) : Nat → Nat
  | 0 => gt s p - lead (led (gt s p))
  | j + 1 => acc s p j * 64 + gt s (p + 1 + j) % 64
theorem acc_le (s : ByteArray) (p j : Nat) (hj : j ≤ 3) : acc s p j < 50331648 := by
  have h0 := (led_lead (gt s p) (gt_lt s p)).2
  match j, hj with
  | 0, _ => simp only [acc]; omega
  | 1, _ => simp only [acc]; omega
  | 2, _ => simp only [acc]; omega
  | 3, _ => simp only [acc]; omega
def ok (s : ByteArray) (p : Nat) : Prop := p + led (gt s p) + 1 ≤ s.size ∧ (∀ j, j < led (gt s p) → cont s (p + 1 + j)) ∧ sg (acc s p (led (gt s p))) = true ∧ sh (acc s p (led (gt s p))) = led (gt s p)
instance (s : ByteArray) (p : Nat) : Decidable (ok s p) := by unfold ok cont; infer_instance
def nx (s : ByteArray) (p : Nat) : Int × Nat := if ok s p then ((acc s p (led (gt s p)) : Nat), led (gt s p) + 1) else (-1, 1)
theorem nx_yes {s : ByteArray} {p : Nat} (h : ok s p) : nx s p = (((acc s p (led (gt s p)) : Nat) : Int), led (gt s p) + 1) := if_pos h
theorem nx_no {s : ByteArray} {p : Nat} (h : ¬ ok s p) : nx s p = (-1, 1) := if_neg h
end Utf

theorem shapes_at {w : World} (h : Shapes w) (k : Nat) (hk : k ≤ 3) : w.cell? ⟨0, k * 3 + 1, none⟩ = some (.int .i64 (Utf.lead k : Nat)) ∧ w.cell? ⟨0, k * 3 + 2, none⟩ = some (.int .i64 k) := by
  match k, hk with
  | 0, _ => exact ⟨h.c1, h.c2⟩
  | 1, _ => exact ⟨h.c4, h.c5⟩
  | 2, _ => exact ⟨h.c7, h.c8⟩
  | 3, _ => exact ⟨h.c10, h.c11⟩

theorem next_out (s : ByteArray) (at_ : Int) (w : World) (h : at_ < 0 ∨ (s.size : Int) ≤ at_) : Calls Tryd.prog 72 #[.string s, .int .i64 at_] w fun e w' => e = .returned (.tuple #[.int .i64 (-1), .int .i64 0]) ∧ w = w' := by
  rcases h with h | h
  · go_enter Tryd.func72, Tryd.ntmps72
    go_wp2
    go_ret2
    exact ⟨rfl, rfl⟩
  · by_cases h0 : at_ < 0
    all_goals
      go_enter Tryd.func72, Tryd.ntmps72
      go_wp2
      go_ret2
      exact ⟨rfl, rfl⟩

theorem ret_two {a b c d : Int} (h1 : a = c) (h2 : b = d) : Ending.returned (.tuple #[.int .i64 a, .int .i64 b]) = .returned (.tuple #[.int .i64 c, .int .i64 d]) := by rw [h1, h2]

set_option maxHeartbeats 2000000 in
set_option maxRecDepth 100000 in
theorem next_in (s : ByteArray) (p : Nat) (w : World) (h : p < s.size) (hs : s.size ≤ 140737488351232) (hT : Shapes w) :
    Calls Tryd.prog 72 #[.string s, .int .i64 p] w fun e w' => e = .returned (.tuple #[.int .i64 (Utf.nx s p).1, .int .i64 ((Utf.nx s p).2 : Nat)]) ∧ w = w' := by
  have h' : (p : Int) < s.size := by omega
  have hok : Hid (Utf.ok s p ↔ Utf.ok s p) := Iff.rfl
  obtain ⟨X, hX⟩ : ∃ X, X = (Utf.nx s p).1 := ⟨_, rfl⟩
  obtain ⟨N, hN⟩ : ∃ N, N = (Utf.nx s p).2 := ⟨_, rfl⟩
  rw [← hX, ← hN]
  have hyes : Utf.ok s p → X = (Utf.acc s p (Utf.led (Utf.gt s p)) : Nat) ∧ N = Utf.led (Utf.gt s p) + 1 := fun h => by rw [hX, hN, Utf.nx_yes h]; exact ⟨rfl, rfl⟩
  have hno : ¬ Utf.ok s p → X = -1 ∧ N = 1 := fun h => by rw [hX, hN, Utf.nx_no h]; exact ⟨rfl, rfl⟩
  clear hX hN hok
  unfold Utf.ok at hyes hno
  have hacc0 : Utf.acc s p 0 = Utf.gt s p - Utf.lead (Utf.led (Utf.gt s p)) := rfl
  have hll := Utf.led_lead (Utf.gt s p) (Utf.gt_lt s p)
  have hf := Utf.gt_at s p h
  have hfb := Utf.gt_lt s p
  have hkl := Utf.led_le (Utf.gt s p)
  have hled := led_is (Utf.gt s p) w hT
  obtain ⟨f, hfe⟩ : ∃ f, f = Utf.gt s p := ⟨_, rfl⟩
  rw [← hfe] at hacc0 hf hfb hll hkl hled hyes hno
  obtain ⟨k, hk⟩ : ∃ k, k = Utf.led f := ⟨_, rfl⟩
  rw [← hk] at hacc0 hll hkl hled hyes hno
  obtain ⟨q1, q2⟩ := shapes_at hT k hkl
  obtain ⟨ld, hld⟩ : ∃ ld, ld = Utf.lead k := ⟨_, rfl⟩
  rw [← hld] at hacc0 hll q1
  obtain ⟨l1, l2⟩ := hll
  have hsub : (f : Int) - ld = ((f - ld : Nat) : Int) := by omega
  have HY := Lib.hid hyes; have HNO := Lib.hid hno; have HA := Lib.hid hacc0; have HT := Lib.hid hT; have HS := Lib.hid hsub
  clear hfe hk hld hyes hno hacc0 hT hsub
  by_cases hfit : p + k + 1 ≤ s.size
  · go_enter Tryd.func72, Tryd.ntmps72
    go_wp2_with fail
    refine hled.mono ?_
    rintro e w' ⟨rfl, rfl⟩
    clear hled
    go_wp2
    rw [HS.out, ← HA.out]
    go_loop [9, 47] (fun r i => ∃ j : Nat, j ≤ k ∧ i = .int .i64 j ∧ r = .int .i64 (Utf.acc s p j : Nat) ∧ ∀ i, i < j → Utf.cont s (p + 1 + i)) (fun _ i => k - (intOf i).toNat)
    case atStart => exact ⟨0, Nat.zero_le _, rfl, rfl, fun i hi => by omega⟩
    case round =>
      obtain ⟨j, hj, rfl, rfl, hcont⟩ := hrel
      have HC := Lib.hid hcont
      have hb := Utf.acc_le s p j (by omega)
      have HJ : Hid (Utf.acc s p (j + 1) = Utf.acc s p j * 64 + Utf.gt s (p + 1 + j) % 64) := rfl
      clear hcont
      by_cases hjk : j < k
      · have hcg := Utf.gt_at s (p + 1 + j) (by omega)
        have hcb := Utf.gt_lt s (p + 1 + j)
        have hcn : Hid (Utf.cont s (p + 1 + j) ↔ 128 ≤ Utf.gt s (p + 1 + j) ∧ Utf.gt s (p + 1 + j) < 192) := Iff.rfl
        obtain ⟨u, hu⟩ : ∃ u, u = Utf.acc s p j := ⟨_, rfl⟩
        obtain ⟨c, hc⟩ : ∃ c, c = Utf.gt s (p + 1 + j) := ⟨_, rfl⟩
        rw [← hu] at hb HJ ⊢
        rw [← hc] at hcg hcb hcn HJ
        have hm := mask63 c hcb
        have hjn := i64_join u c (by omega)
        have ht := top192 ⟨c, hcb⟩
        have h192 : bits .and .i64 (c : Int) 192 = ((c &&& 192 : Nat) : Int) := by rw [show (192 : Int) = ((192 : Nat) : Int) from rfl, i64_and_nat _ _ (by omega) (by omega)]
        simp only at ht
        obtain ⟨t, htt⟩ : ∃ t, t = c &&& 192 := ⟨_, rfl⟩
        rw [← htt] at ht h192
        have hix : (p : Int) + 1 + j < s.size := by omega
        clear hu hc htt
        obtain ⟨m6, hm6⟩ : ∃ m6, m6 = c % 64 := ⟨_, rfl⟩
        rw [← hm6] at hm hjn HJ
        have hm6b : m6 < 64 := by omega
        have HT6 := Lib.hid ht
        clear hm6 ht
        by_cases hcc : 128 ≤ c ∧ c < 192
        · have ht2 := HT6.out.2 hcc
          rw [ht2] at h192
          have HCC : Hid (∀ i, i < j + 1 → Utf.cont s (p + 1 + i)) := fun i hi => by
            rcases Nat.lt_or_ge i j with h1 | h1
            · exact HC.out i h1
            · obtain rfl : i = j := by omega
              exact hcn.2 hcc
          clear HT6 ht2 hcn
          go_wp2
          go_round
          case rel => exact ⟨j + 1, by omega, by go_num, by rw [HJ.out]; go_num, HCC.out⟩
          case measure => simp [intOf]; omega
        · have ht2 : ¬ (t : Int) = 128 := fun e => hcc (HT6.out.1 (by omega))
          have hn : Hid (X = -1 ∧ N = 1) := HNO.out fun h => hcc (hcn.1 (h.2.1 j hjk))
          clear HT6 hcn
          go_wp2
          go_ret2
          exact ⟨ret_two (by rw [hn.out.1]) (by rw [hn.out.2]; rfl), rfl⟩
      · obtain rfl : j = k := by omega
        have hsg : Hid (Utf.sg (Utf.acc s p j : Nat) = true → ((Utf.acc s p j : Nat) : Int) ≤ 1114111) := fun h => by
          unfold Utf.sg at h; simp only [decide_eq_true_eq] at h; omega
        have his := sign_is (Utf.acc s p j : Nat) w
        have hsh := fun h => shaped_is (Utf.acc s p j : Nat) w HT.out h
        clear HJ
        generalize Utf.acc s p j = a at hsg his hsh hb HY HNO ⊢
        cases hsv : Utf.sg (a : Int) with
        | false =>
          have hn : Hid (X = -1 ∧ N = 1) := HNO.out fun h => by rw [hsv] at h; exact absurd h.2.2.1 (by decide)
          rw [hsv] at his
          clear hsh hsv HY HNO
          go_wp2_with fail
          refine his.mono ?_
          rintro e w' ⟨rfl, rfl⟩
          go_wp2
          go_ret2
          exact ⟨ret_two (by rw [hn.out.1]) (by rw [hn.out.2]; rfl), rfl⟩
        | true =>
          have hs2 := hsh (hsg.out hsv)
          rw [hsv] at his
          by_cases hk : Utf.sh (a : Int) = j
          · have hn : Hid (X = (a : Int) ∧ N = j + 1) := HY.out ⟨hfit, HC.out, hsv, hk⟩
            rw [hk] at hs2
            clear hsh hsv HY HNO hk
            go_wp2_with fail
            refine his.mono ?_
            rintro e w' ⟨rfl, rfl⟩
            go_wp2_with fail
            refine hs2.mono ?_
            rintro e w' ⟨rfl, rfl⟩
            go_wp2
            go_ret2
            exact ⟨ret_two (by rw [hn.out.1]) (by rw [hn.out.2]; omega), rfl⟩
          · have hn : Hid (X = -1 ∧ N = 1) := HNO.out fun h => hk h.2.2.2
            obtain ⟨m, hm⟩ : ∃ m, m = Utf.sh (a : Int) := ⟨_, rfl⟩
            rw [← hm] at hk hs2
            clear hsh hsv HY HNO hm
            have hk' : ¬ (m : Int) = j := by omega
            go_wp2_with fail
            refine his.mono ?_
            rintro e w' ⟨rfl, rfl⟩
            go_wp2_with fail
            refine hs2.mono ?_
            rintro e w' ⟨rfl, rfl⟩
            go_wp2
            go_ret2
            exact ⟨ret_two (by rw [hn.out.1]) (by rw [hn.out.2]; rfl), rfl⟩
  · have hn := HNO.out (fun h => hfit h.1)
    have HN := Lib.hid hn
    clear hn
    go_enter Tryd.func72, Tryd.ntmps72
    go_wp2_with fail
    refine hled.mono ?_
    rintro e w' ⟨rfl, rfl⟩
    go_wp2
    go_ret2
    exact ⟨ret_two (by rw [HN.out.1]) (by rw [HN.out.2]; rfl), rfl⟩
end Go.Proofs.YtdnkhcbglmfjbaaDoor
