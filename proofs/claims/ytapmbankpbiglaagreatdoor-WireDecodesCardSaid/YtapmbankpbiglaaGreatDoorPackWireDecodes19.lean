/- The statement WireDecodes, proved for every input that its row reads: part 19 of 54. -/
import Derived.Test.YtapmbankpbiglaaGreatDoorPackWireDecodes13
import Derived.Lib.BitFns
import Derived.BigQuiet
import Derived.Deep.QuietTactic
/- A reader that Read made, as far as what it is asked is there: each of its methods. -/
namespace Go.Proofs.YtapmbankpbiglaaGreatDoor
open Go Go.RowKit

theorem tab8 : ∀ n : Fin 256, (Lib.len8tab.data.toList.getD n.val 0).toNat = Lib.bitLen n.val := by decide +kernel
theorem size8 : Lib.len8tab.size = 256 := by decide +kernel
theorem tab8_get (x : Nat) (h : x < Lib.len8tab.size) : (Lib.len8tab[x]'h).toNat = Lib.bitLen x := by
  have h2 : x < 256 := by rw [← size8]; exact h
  rw [← tab8 ⟨x, h2⟩]
  congr 1
  have h3 : x < Lib.len8tab.data.toList.length := by rw [Array.length_toList]; exact h
  show Lib.len8tab.data[x] = _
  simp only [List.getD, List.getElem?_eq_getElem h3, Option.getD_some, Array.getElem_toList]
theorem bitLen_le (x : Nat) (h : x ≤ 255) : Lib.bitLen x ≤ 8 := Lib.bitLen_le8 ⟨x, by omega⟩

set_option maxHeartbeats 4000000 in
set_option maxRecDepth 100000 in
theorem len8_any (x : Nat) (w : World) (h : x ≤ 255) : Calls Tryz.prog 95 #[.int .u8 x] w fun e w' => e = .returned (.int .i64 (Lib.bitLen x : Nat)) ∧ w = w' := by
  have hs : x < Lib.len8tab.size := by rw [size8]; omega
  have hl := bitLen_le x h
  have hg := tab8_get x hs
  have HG := Lib.hid hg; clear hg
  go_enter Tryz.func95, Tryz.ntmps95
  go_wp2
  go_ret
  exact ⟨ret_int (by rw [HG.out, IntWalk.wrap64_in _ ⟨by omega, by omega⟩]), rfl⟩

theorem lz8_any (x : Nat) (w : World) (h : x ≤ 255) : Calls Tryz.prog 77 #[.int .u8 x] w fun e w' => e = .returned (.int .i64 ((8 - Lib.bitLen x : Nat) : Int)) ∧ w = w' := by
  have hl := bitLen_le x h
  have h8 := len8_any x w h
  go_enter Tryz.func77, Tryz.ntmps77
  go_wp2_with (go_at_call 95; refine h8.mono ?_; rintro e w' ⟨rfl, rfl⟩)
  go_ret
  exact ⟨ret_int (by omega), rfl⟩

/-! ### the plain part of reading a number -/
theorem ones_of : ∀ n : Fin 256, ∀ k : Fin 9, (256 - 2 ^ (8 - k.val) ≤ n.val ∧ (k.val < 8 → n.val < 256 - 2 ^ (7 - k.val))) → 8 - Lib.bitLen (255 - n.val) = k.val := by decide +kernel
theorem head_ones (x : Nat) (hx : x < 18446744073709551616) : 8 - Lib.bitLen (255 - Cod.head x (Cod.bh x)) = Cod.bh x := by
  have h1 := Cod.head_lt x hx
  have h8 := Cod.bh_le x
  refine ones_of ⟨_, h1⟩ ⟨Cod.bh x, by omega⟩ ⟨?_, fun h7 => ?_⟩
  · show 256 - 2 ^ (8 - Cod.bh x) ≤ Cod.head x (Cod.bh x)
    unfold Cod.head; exact Nat.le_add_right _ _
  · simp only at h7 ⊢
    have ht := Cod.top_lt x hx _ rfl
    have hp := Cod.pow_parts (Cod.bh x) h8
    have hp3 := hp.2.2 (by omega)
    unfold Cod.head
    generalize x / 256 ^ Cod.bh x = t at ht ⊢
    omega
theorem mask_head : ∀ n : Fin 256, ∀ k : Fin 8, n.val &&& (127 / 2 ^ k.val) = n.val % 2 ^ (7 - k.val) := by decide +kernel
theorem top_of (x : Nat) (hx : x < 18446744073709551616) : Cod.head x (Cod.bh x) &&& (127 / 2 ^ Cod.bh x) = x / 256 ^ Cod.bh x := by
  have h1 := Cod.head_lt x hx
  have h8 := Cod.bh_le x
  have ht := Cod.top_lt x hx _ rfl
  have hp := Cod.pow_parts (Cod.bh x) h8
  by_cases h7 : Cod.bh x ≤ 7
  · have hm := mask_head ⟨_, h1⟩ ⟨Cod.bh x, by omega⟩
    simp only at hm
    rw [hm]
    have ht2 : x / 256 ^ Cod.bh x < 2 ^ (7 - Cod.bh x) := by
      rcases ht with ht | ⟨h9, _⟩
      · exact ht
      · omega
    have hp3 := hp.2.2 h7
    unfold Cod.head
    rw [hp3]
    have hq : 2 ^ (7 - Cod.bh x) * 2 ^ (1 + Cod.bh x) = 256 := by rw [← Nat.pow_add, show 7 - Cod.bh x + (1 + Cod.bh x) = 8 from by omega]
    have hd : 256 - 2 * 2 ^ (7 - Cod.bh x) = 2 ^ (7 - Cod.bh x) * (2 ^ (1 + Cod.bh x) - 2) := by rw [Nat.mul_sub, hq, Nat.mul_comm 2]
    rw [hd, Nat.mul_add_mod]
    exact Nat.mod_eq_of_lt ht2
  · have e : Cod.bh x = 8 := by omega
    have h0 : x / 256 ^ Cod.bh x = 0 := by rw [e]; exact Nat.div_eq_of_lt hx
    rw [h0, e]
    simp
end Go.Proofs.YtapmbankpbiglaaGreatDoor
/- Reading numbers out of any bytes: what comes of it (no number of a program stands here). -/
namespace Go.Proofs.YtapmbankpbiglaaGreatDoor
open Go Go.RowKit
set_option linter.unusedVariables false

namespace Cod
/-- how many ones a byte begins with -/
def ones (b : Nat) : Nat := 8 - Lib.bitLen (255 - b)
theorem ones_le (b : Nat) : ones b ≤ 8 := by unfold ones; omega
/-- what a byte says of the number's first bits -/
def frst (b : Nat) : Nat := b &&& (127 / 2 ^ ones b)
theorem frst_tab : ∀ b : Fin 256, frst b.val < 2 ^ (7 - ones b.val) ∧ (ones b.val < 8 → frst b.val = b.val % (128 / 2 ^ ones b.val)) ∧ (ones b.val = 8 → frst b.val = 0) := by decide +kernel
theorem bit_tab : ∀ b : Fin 256, ∀ i : Fin 8, i.val ≤ ones b.val → ((b.val &&& (128 / 2 ^ i.val)) ≠ 0 ↔ i.val < ones b.val) := by decide +kernel
/-- bytes behind a number's first bits -/
def fold (u : Nat) : List UInt8 → Nat
  | [] => u
  | c :: l => fold (u * 256 + c.toNat) l
theorem fold_snoc (u : Nat) (l : List UInt8) (c : UInt8) : fold u (l ++ [c]) = fold u l * 256 + c.toNat := by
  induction l generalizing u with
  | nil => rfl
  | cons a l ih => exact ih _
theorem fold_lt (l : List UInt8) : ∀ (u m : Nat), u < 2 ^ m → fold u l < 2 ^ (m + 8 * l.length) := by
  induction l with
  | nil => intro u m h; simpa [fold] using h
  | cons c l ih =>
    intro u m h
    have hc := c.toNat_lt
    have h2 : u * 256 + c.toNat < 2 ^ (m + 8) := by
      rw [Nat.pow_add]
      have : u + 1 ≤ 2 ^ m := h
      have e : (2 : Nat) ^ 8 = 256 := rfl
      have h3 : (u + 1) * 256 ≤ 2 ^ m * 256 := Nat.mul_le_mul_right _ this
      rw [e]; omega
    have := ih (u * 256 + c.toNat) (m + 8) h2
    simp only [fold, List.length_cons]
    rw [show m + 8 * (l.length + 1) = m + 8 + 8 * l.length by omega]
    exact this
/-- the first k bytes behind -/
theorem fold_take (u : Nat) (l : List UInt8) (k : Nat) (h : k < l.length) : fold u (l.take (k + 1)) = fold u (l.take k) * 256 + (l.getD k 0).toNat := by
  have e : l.take (k + 1) = l.take k ++ [l.getD k 0] := by
    rw [List.take_succ_eq_append_getElem h, List.getD_eq_getElem?_getD, List.getElem?_eq_getElem h]; rfl
  rw [e, fold_snoc]
theorem fold_small (b : UInt8) (l : List UInt8) (k : Nat) (hk : k ≤ ones b.toNat) : fold (frst b.toNat) (l.take k) < 18446744073709551616 ∧ (k < ones b.toNat → fold (frst b.toNat) (l.take k) * 256 + 255 < 18446744073709551616) := by
  have h1 := (frst_tab ⟨b.toNat, b.toNat_lt⟩).1
  have h8 := ones_le b.toNat
  have h2 := fold_lt (l.take k) (frst b.toNat) (7 - ones b.toNat) h1
  have hl : (l.take k).length ≤ k := by simp; omega
  constructor
  · refine Nat.lt_of_lt_of_le h2 ?_
    rw [show (18446744073709551616 : Nat) = 2 ^ 64 from rfl]
    exact Nat.pow_le_pow_right (by omega) (by omega)
  · intro hlt
    have h3 : fold (frst b.toNat) (l.take k) < 2 ^ 56 := Nat.lt_of_lt_of_le h2 (Nat.pow_le_pow_right (by omega) (by omega))
    omega
/-- a reader's state: the bytes that are left, and its error -/
abbrev S := List UInt8 × Nat
/-- the next number, whatever bytes there are -/
def next : List UInt8 → Nat × S
  | [] => (0, [], 4)
  | b :: t =>
    if t.length < ones b.toNat then (0, [], 4)
    else if bh (fold (frst b.toNat) (t.take (ones b.toNat))) = ones b.toNat then (fold (frst b.toNat) (t.take (ones b.toNat)), t.drop (ones b.toNat), 0)
    else (0, [], 3)
def anyS (s : S) : Nat × S := if s.2 = 0 then next s.1 else (0, s)
theorem next_lt (l : List UInt8) : (next l).1 < 18446744073709551616 := by
  unfold next
  split
  · decide
  · rename_i b t
    split
    · decide
    · split
      · exact (fold_small b t _ (Nat.le_refl _)).1
      · decide
theorem next_len (l : List UInt8) : (next l).2.1.length ≤ l.length := by
  unfold next
  split
  · simp
  · rename_i b t
    split
    · simp
    · split
      · simp; omega
      · simp
theorem anyS_lt (s : S) : (anyS s).1 < 18446744073709551616 := by
  unfold anyS; split
  · exact next_lt _
  · show (0 : Nat) < 18446744073709551616; decide
/-- a reader's state behind an error -/
def failS (c : Nat) (s : S) : S := if s.2 = 0 then ([], c) else s
theorem failS_zero (c : Nat) (l : List UInt8) : failS c (l, 0) = ([], c) := rfl
/-- a number of at most so much -/
def numS (most : Int) (s : S) : Nat × S :=
  if 9223372036854775808 ≤ (anyS s).1 ∨ most < ((anyS s).1 : Int) then (0, failS 5 (anyS s).2) else anyS s
/-- a state: an error leaves nothing -/
def Ok (s : S) : Prop := s.2 ≠ 0 → s.1 = []
theorem next_ok (l : List UInt8) : Ok (next l).2 := by
  unfold next Ok
  split
  · intro _; rfl
  · split
    · intro _; rfl
    · split
      · intro h; exact absurd rfl h
      · intro _; rfl
theorem anyS_ok {s : S} (h : Ok s) : Ok (anyS s).2 := by
  unfold anyS; split
  · exact next_ok _
  · exact h
theorem numS_ok {s : S} (most : Int) (h : Ok s) : Ok (numS most s).2 := by
  unfold numS
  split
  · show Ok (failS 5 (anyS s).2)
    unfold failS
    split
    · intro _; rfl
    · exact anyS_ok h
  · exact anyS_ok h
theorem numS_le {s : S} {most : Int} (h : (numS most s).2.2 = 0) : ((numS most s).1 : Int) ≤ most ∧ (numS most s).1 < 9223372036854775808 := by
  unfold numS at h ⊢
  split at h
  · have h : (failS 5 (anyS s).2).2 = 0 := h
    unfold failS at h
    split at h
    · cases h
    · rename_i h1 h2; exact absurd h h2
  · rename_i h1
    rw [if_neg h1]
    omega
theorem anyS_err {s : S} (h : s.2 ≠ 0) : anyS s = (0, s) := by unfold anyS; rw [if_neg h]
theorem anyS_zero {s : S} (h : (anyS s).2.2 ≠ 0) : (anyS s).1 = 0 := by
  unfold anyS at h ⊢
  split
  · rename_i h0
    rw [if_pos h0] at h
    unfold next at h ⊢
    split
    · rfl
    · rename_i b t heq
      rw [heq] at h
      simp only at h
      split
      · rfl
      · rename_i h1
        rw [if_neg h1] at h
        split
        · rename_i h2
          rw [if_pos h2] at h
          exact absurd rfl h
        · rfl
  · rfl
theorem numS_zero {s : S} {most : Int} (h : (numS most s).2.2 ≠ 0) : (numS most s).1 = 0 := by
  unfold numS at h ⊢
  split
  · rfl
  · rename_i h1
    rw [if_neg h1] at h
    exact anyS_zero h
theorem next_len2 (s : S) : (anyS s).2.1.length ≤ s.1.length := by
  unfold anyS; split
  · exact next_len _
  · exact Nat.le_refl _
theorem numS_len (most : Int) (s : S) : (numS most s).2.1.length ≤ s.1.length := by
  unfold numS
  split
  · show (failS 5 (anyS s).2).1.length ≤ _
    unfold failS
    split
    · simp
    · exact next_len2 s
  · exact next_len2 s
/-- numbers that rise: how many are still to be read, the last one, those that were read -/
def riseS (top : Int) : Nat → Int → List Int → S → Option (List Int) × S
  | 0, _, acc, s => (some acc, s)
  | n + 1, last, acc, s =>
    if (numS (top - 1 - last) s).2.2 = 0 then riseS top n (last + 1 + (numS (top - 1 - last) s).1) (acc ++ [last + 1 + ((numS (top - 1 - last) s).1 : Int)]) (numS (top - 1 - last) s).2
    else (none, (numS (top - 1 - last) s).2)
def riseAll (many top : Int) (s : S) : Option (List Int) × S := riseS top (numS many s).1 (-1) [] (numS many s).2
end Cod
end Go.Proofs.YtapmbankpbiglaaGreatDoor
