/- How the bytes of two numbers stand; the contracts of bytes.Compare and cmp.Compare. -/
import Derived.Test.YtgdhaijaiogiiaaCoderAwake
import Derived.Lib.BytesEntry
namespace Go.Proofs.Ytgdhaijaiogiiaa
open Go Go.RowKit

namespace Cod
open Go.Lib (compareBytes)
theorem cmp_self (l : List UInt8) : compareBytes l l = 0 := by
  induction l with
  | nil => rfl
  | cons a l ih => simp [compareBytes, ih]
theorem cmp_swap (a b : List UInt8) (h : compareBytes a b = -1) : compareBytes b a = 1 := by
  induction a generalizing b with
  | nil => cases b with | nil => simp [compareBytes] at h | cons y b => rfl
  | cons x a ih =>
    cases b with
    | nil => simp [compareBytes] at h
    | cons y b =>
      simp only [compareBytes] at h ⊢
      by_cases h1 : x < y
      · have h2 : ¬ y < x := by have := UInt8.lt_iff_toNat_lt.1 h1; intro h3; have := UInt8.lt_iff_toNat_lt.1 h3; omega
        rw [if_neg h2, if_pos h1]
      · rw [if_neg h1] at h
        by_cases h2 : y < x
        · rw [if_pos h2] at h; omega
        · rw [if_neg h2] at h
          rw [if_neg h2, if_neg h1]
          exact ih _ h
theorem dig_lt (k x y : Nat) (h : x % 256 ^ k < y % 256 ^ k) : compareBytes (dig k x) (dig k y) = -1 := by
  induction k with
  | zero => simp [Nat.mod_one] at h
  | succ k ih =>
    simp only [dig, compareBytes]
    rw [Nat.mod_pow_succ, Nat.mod_pow_succ] at h
    have hp : 0 < 256 ^ k := Nat.pow_pos (by omega)
    have hx := Nat.mod_lt x hp
    have hy := Nat.mod_lt y hp
    have ex : (UInt8.ofNat (x / 256 ^ k)).toNat = x / 256 ^ k % 256 := by rw [UInt8.toNat_ofNat']
    have ey : (UInt8.ofNat (y / 256 ^ k)).toNat = y / 256 ^ k % 256 := by rw [UInt8.toNat_ofNat']
    by_cases h1 : x / 256 ^ k % 256 < y / 256 ^ k % 256
    · rw [if_pos (UInt8.lt_iff_toNat_lt.2 (by omega))]
    · have h2 : x / 256 ^ k % 256 = y / 256 ^ k % 256 := by
        refine Nat.le_antisymm ?_ (by omega)
        refine Nat.le_of_not_lt fun h3 => ?_
        have : 256 ^ k * (y / 256 ^ k % 256) + 256 ^ k ≤ 256 ^ k * (x / 256 ^ k % 256) := by
          rw [← Nat.mul_succ]; exact Nat.mul_le_mul_left _ h3
        omega
      rw [if_neg (fun h3 => by have := UInt8.lt_iff_toNat_lt.1 h3; omega), if_neg (fun h3 => by have := UInt8.lt_iff_toNat_lt.1 h3; omega)]
      rw [h2] at h
      exact ih (by omega)
theorem bh_mono {n m : Nat} (h : n ≤ m) : bh n ≤ bh m := by
  by_cases h8 : bh m < 8
  · exact (bh_iff n (bh m) h8).2 (Nat.lt_of_le_of_lt h ((bh_iff m (bh m) h8).1 (Nat.le_refl _)))
  · have := bh_le n; omega
theorem enc_lt (n m : Nat) (h : n < m) (hm : m < 18446744073709551616) : compareBytes (enc n) (enc m) = -1 := by
  have hn1 := head_lt n (by omega)
  have hm1 := head_lt m hm
  have hmono := bh_mono (Nat.le_of_lt h)
  unfold enc
  simp only [compareBytes]
  have ex : (UInt8.ofNat (head n (bh n))).toNat = head n (bh n) := by rw [UInt8.toNat_ofNat']; exact Nat.mod_eq_of_lt hn1
  have ey : (UInt8.ofNat (head m (bh m))).toNat = head m (bh m) := by rw [UInt8.toNat_ofNat']; exact Nat.mod_eq_of_lt hm1
  by_cases hb : bh n = bh m
  · rw [hb] at ex ⊢
    have hdiv : n / 256 ^ bh m ≤ m / 256 ^ bh m := Nat.div_le_div_right (Nat.le_of_lt h)
    by_cases h1 : n / 256 ^ bh m < m / 256 ^ bh m
    · rw [if_pos (UInt8.lt_iff_toNat_lt.2 (by rw [ex, ey]; unfold head; omega))]
    · have h2 : n / 256 ^ bh m = m / 256 ^ bh m := by omega
      have h3 : head n (bh m) = head m (bh m) := by unfold head; rw [h2]
      rw [h3, if_neg (UInt8.lt_irrefl _), if_neg (UInt8.lt_irrefl _)]
      refine dig_lt _ _ _ ?_
      have e1 := Nat.div_add_mod n (256 ^ bh m)
      have e2 := Nat.div_add_mod m (256 ^ bh m)
      rw [h2] at e1
      omega
  · have hlt : bh n < bh m := by omega
    have h8 := bh_le m
    have p1 := pow_parts (bh n) (by omega)
    have p2 : 2 ^ (8 - bh m) ≤ 2 ^ (7 - bh n) := Nat.pow_le_pow_right (by omega) (by omega)
    have p3 := p1.2.2 (by omega)
    have hm8 := pow_parts (bh m) h8
    have : head n (bh n) < head m (bh m) := by
      have ht0 := top_lt n (by omega) (bh n) rfl
      unfold head
      generalize n / 256 ^ bh n = g at ht0 ⊢
      generalize m / 256 ^ bh m = j
      rcases ht0 with ht | ht
      · omega
      · omega
    rw [if_pos (UInt8.lt_iff_toNat_lt.2 (by omega))]
end Cod

theorem bytesOf_any {P : Program} {w : World} {p : Option Addr} {l : List UInt8} (h : Lies w p l) (n c : Nat) (hn : n = l.length) : (Extern.Bytes.bytesOf (.slice p n c)).run P w = .ok ⟨l.toArray⟩ w := by
  subst hn
  cases p with
  | none =>
    by_cases h0 : l = []
    · subst h0; rfl
    · obtain ⟨b, o, e, _⟩ := h h0; cases e
  | some a =>
    have h1 := Lib.run_loadBytesX (P := P) w (nums l) a .empty (fun j x hj => by
      have hjl : j < l.length := by have := (List.getElem?_eq_some_iff.1 hj).1; simpa [nums] using this
      obtain ⟨b, o, e, hc⟩ := h (by intro e; subst e; simp at hjl)
      obtain rfl := Option.some.inj e
      rw [Addr.add_lit, hc j hjl]
      have : (nums l)[j]? = some ((l.getD j 0).toNat : Int) := by simp [nums, List.getD, List.getElem?_eq_getElem hjl]
      rw [this] at hj
      rw [Option.some.inj hj])
    rw [nums_length] at h1
    show (Extern.Bytes.loadBytes a l.length .empty).run P w = _
    rw [h1]
    have e2 : Lib.bytesOf (nums l) = l := by
      unfold Lib.bytesOf nums
      rw [List.map_map]
      conv => rhs; rw [← List.map_id l]
      apply List.map_congr_left
      intro x _
      simp
    rw [e2]
    congr 1
    apply ByteArray.ext
    simp

theorem run_compare {P : Program} {w : World} {p q : Option Addr} {l r : List UInt8} (h1 : Lies w p l) (h2 : Lies w q r) (n m c d : Nat) (hn : n = l.length) (hm : m = r.length) :
    (Extern.BytealgCompare.compare #[.slice p n c, .slice q m d]).run P w = .ok (.int .i64 (Lib.compareBytes l r)) w := by
  change Sem.run P (do pure (goInt (Extern.BytealgCompare.cmp (← Extern.Bytes.bytesOf (.slice p n c)) (← Extern.Bytes.bytesOf (.slice q m d))))) w = _
  simp only [Sem.run_bind, bytesOf_any h1 n c hn, bytesOf_any h2 m d hm, Sem.run_pure, Result.andThen]
  rw [Lib.cmp_eq]
  rfl

set_option maxHeartbeats 1000000 in
set_option maxRecDepth 100000 in
theorem compare_any (p q : Option Addr) (n m c d : Nat) (l r : List UInt8) (w : World) (h1 : Lies w p l) (h2 : Lies w q r) (hn : n = l.length) (hm : m = r.length) :
    Calls Try.prog 28 #[.slice p n c, .slice q m d] w fun e w' => e = .returned (.int .i64 (Lib.compareBytes l r)) ∧ w = w' := by
  have hrun := run_compare (P := Try.prog) h1 h2 n m c d hn hm
  clear h1 h2 hn hm
  go_enter Try.func28, Try.ntmps28
  go_wp2_with fail
  rw [run_callFunc_extern Try.func39 (by kernel_rfl) (by kernel_rfl) (by kernel_rfl) (e := Extern.BytealgCompare.compare) (by kernel_rfl), hrun]
  simp only [Result.andThen]
  rw [Oper.upon_value]
  go_wp2
  go_ret
  exact ⟨rfl, rfl⟩

def cmpI (x y : Int) : Int := if x < y then -1 else if y < x then 1 else 0
set_option maxHeartbeats 1000000 in
theorem cmpInt_any (x y : Int) (w : World) : Calls Try.prog 29 #[.int .i64 x, .int .i64 y] w fun e w' => e = .returned (.int .i64 (cmpI x y)) ∧ w = w' := by
  unfold cmpI
  by_cases h1 : x < y
  · rw [if_pos h1]
    go_enter Try.func29, Try.ntmps29
    go_wp2
    go_ret
    exact ⟨rfl, rfl⟩
  · rw [if_neg h1]
    by_cases h2 : y < x
    · rw [if_pos h2]
      go_enter Try.func29, Try.ntmps29
      go_wp2
      go_ret
      exact ⟨rfl, rfl⟩
    · rw [if_neg h2]
      go_enter Try.func29, Try.ntmps29
      go_wp2
      go_ret
      exact ⟨rfl, rfl⟩
theorem cmp_enc (n m : Nat) (hn : n < 18446744073709551616) (hm : m < 18446744073709551616) : Lib.compareBytes (Cod.enc n) (Cod.enc m) = cmpI n m := by
  unfold cmpI
  rcases Nat.lt_trichotomy n m with h | h | h
  · rw [if_pos (by omega), Cod.enc_lt n m h hm]
  · subst h; rw [if_neg (by omega), if_neg (by omega), Cod.cmp_self]
  · rw [if_neg (by omega), if_pos (by omega), Cod.cmp_swap _ _ (Cod.enc_lt m n h hn)]
end Go.Proofs.Ytgdhaijaiogiiaa
