/- What was put is found: the plain part. -/
import Derived.Test.YtnmigbbokmibnaaDoorUtfPut
namespace Go.Proofs.YtnmigbbokmibnaaDoor
open Go Go.RowKit
namespace Utf
theorem gt_arr (l : List UInt8) (i : Nat) : gt ⟨l.toArray⟩ i = (l.getD i 0).toNat := rfl
theorem gt_behind (b m : List UInt8) (i : Nat) : gt ⟨(b ++ m).toArray⟩ (b.length + i) = (m.getD i 0).toNat := by
  rw [gt_arr, List.getD, List.getElem?_append_right (by omega), show b.length + i - b.length = i from by omega]; rfl
theorem encK_len (r k : Nat) : (encK r k).length = k + 1 := by simp [encK]
theorem encK_head (r k : Nat) : (encK r k).getD 0 0 = UInt8.ofNat (lead k + r / 64 ^ k) := rfl
theorem encK_tail (r k i : Nat) (h : i < k) : (encK r k).getD (i + 1) 0 = tailB r k i := by
  simp [encK, List.getD, h]
theorem tailB_nat (r k i : Nat) : (tailB r k i).toNat = 128 + r / 64 ^ (k - 1 - i) % 64 := by
  unfold tailB
  rw [UInt8.toNat_ofNat', Nat.mod_eq_of_lt]
  omega
theorem head_is (r : Nat) (hr : r ≤ 1114111) : (UInt8.ofNat (lead (sh r) + r / 64 ^ (sh r))).toNat = lead (sh r) + r / 64 ^ (sh r) ∧ led (lead (sh r) + r / 64 ^ (sh r)) = sh r := by
  have h : sh (r : Int) = 0 ∧ r ≤ 127 ∨ sh (r : Int) = 1 ∧ 127 < r ∧ r ≤ 2047 ∨ sh (r : Int) = 2 ∧ 2047 < r ∧ r ≤ 65535 ∨ sh (r : Int) = 3 ∧ 65535 < r := by
    unfold sh; (repeat' split) <;> omega
  rw [UInt8.toNat_ofNat']
  rcases h with ⟨e, h⟩ | ⟨e, h⟩ | ⟨e, h⟩ | ⟨e, h⟩ <;> rw [e] <;> unfold lead led <;> simp <;> constructor <;> (repeat' split) <;> omega
theorem found (b : List UInt8) (r : Int) (h : sg r = true) : nx ⟨(b ++ enc r).toArray⟩ b.length = (r, sh r + 1) := by
  have hr : 0 ≤ r ∧ r ≤ 1114111 := by unfold sg at h; simp only [decide_eq_true_eq] at h; omega
  obtain ⟨m, rfl⟩ := Int.eq_ofNat_of_zero_le hr.1
  have he : enc (m : Int) = encK m (sh (m : Int)) := by unfold enc; rw [h]; rfl
  rw [he]
  obtain ⟨h1, h2⟩ := head_is m (by omega)
  have hg : gt ⟨(b ++ encK m (sh (m : Int))).toArray⟩ b.length = lead (sh (m : Int)) + m / 64 ^ (sh (m : Int)) := by
    have := gt_behind b (encK m (sh (m : Int))) 0
    rw [Nat.add_zero] at this
    rw [this, encK_head, h1]
  have hi : ∀ i, i < sh (m : Int) → gt ⟨(b ++ encK m (sh (m : Int))).toArray⟩ (b.length + 1 + i) = 128 + m / 64 ^ (sh (m : Int) - 1 - i) % 64 := fun i hi => by
    rw [show b.length + 1 + i = b.length + (i + 1) from by omega, gt_behind, encK_tail _ _ _ hi, tailB_nat]
  have hsz : (⟨(b ++ encK m (sh (m : Int))).toArray⟩ : ByteArray).size = b.length + (sh (m : Int) + 1) := by
    show (b ++ encK m (sh (m : Int))).toArray.size = _
    simp [encK_len]
  have hacc : acc ⟨(b ++ encK m (sh (m : Int))).toArray⟩ b.length (sh (m : Int)) = m := by
    have hle := sh_le (m : Int)
    generalize hS : (⟨(b ++ encK m (sh (m : Int))).toArray⟩ : ByteArray) = S at hg hi ⊢
    generalize sh (m : Int) = k at hg hi hle h2 ⊢
    have h0 : acc S b.length 0 = m / 64 ^ k := by simp only [acc]; rw [hg, h2]; exact Nat.add_sub_cancel_left _ _
    match k, hle with
    | 0, _ => rw [h0]; simp
    | 1, _ =>
      have a0 := hi 0 (by omega)
      simp only [acc] at h0 ⊢
      rw [h0, a0]
      simp
      omega
    | 2, _ =>
      have a0 := hi 0 (by omega); have a1 := hi 1 (by omega)
      simp only [acc] at h0 ⊢
      rw [h0, a0, a1]
      simp
      omega
    | 3, _ =>
      have a0 := hi 0 (by omega); have a1 := hi 1 (by omega); have a2 := hi 2 (by omega)
      simp only [acc] at h0 ⊢
      rw [h0, a0, a1, a2]
      simp
      omega
  have hok : ok ⟨(b ++ encK m (sh (m : Int))).toArray⟩ b.length := by
    unfold ok
    rw [hg, h2, hacc, hsz]
    refine ⟨by omega, fun j hj => ?_, h, rfl⟩
    unfold cont
    rw [hi j hj]
    omega
  rw [nx_yes hok, hg, h2, hacc]
end Utf
end Go.Proofs.YtnmigbbokmibnaaDoor
