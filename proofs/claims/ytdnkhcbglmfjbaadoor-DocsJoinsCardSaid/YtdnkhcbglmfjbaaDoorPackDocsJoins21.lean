/- The statement DocsJoins, proved for every input that its row reads: part 21 of 54. -/
import Derived.Test.YtdnkhcbglmfjbaaDoorPackDocsJoins18
/- What was put is found: the plain part. -/
namespace Go.Proofs.YtdnkhcbglmfjbaaDoor
open Go Go.RowKit
namespace Utf
theorem gt_arr (l : List UInt8) (i : Nat) : gt ⟨l.toArray⟩ i = (l.getD i 0).toNat := rfl
theorem gt_behind (b m : List UInt8) (i : Nat) : gt ⟨(b ++ m).toArray⟩ (b.length + i) = (m.getD i 0).toNat := by
  rw [gt_arr, List.getD, List.getElem?_append_right (by omega), show b.length + i - b.length = i from by omega]; rfl
theorem encK_len (r k : Nat) : (encK r k).length = k + 1 := by simp [encK]
theorem encK_head (r k : Nat) : (encK r k).getD 0 0 = UInt8.ofNat (lead k + r / 64 ^ k) := rfl
theorem encK_tail (r k i : Nat) (h : i < k) : (encK r k).getD (i + 1) 0 = tailB r k i := by
  simp [encK, List.getD, h]
theorem tailB_nat (r k i : Nat) : (tailB r k i).toNat = 128 + r / 64 ^ (k - 1 - i) % 64 := by
  unfold tailB
  rw [UInt8.toNat_ofNat', Nat.mod_eq_of_lt]
  omega
theorem head_is (r : Nat) (hr : r ≤ 1114111) : (UInt8.ofNat (lead (sh r) + r / 64 ^ (sh r))).toNat = lead (sh r) + r / 64 ^ (sh r) ∧ led (lead (sh r) + r / 64 ^ (sh r)) = sh r := by
  have h : sh (r : Int) = 0 ∧ r ≤ 127 ∨ sh (r : Int) = 1 ∧ 127 < r ∧ r ≤ 2047 ∨ sh (r : Int) = 2 ∧ 2047 < r ∧ r ≤ 65535 ∨ sh (r : Int) = 3 ∧ 65535 < r := by
    unfold sh; (repeat' split) <;> omega
  rw [UInt8.toNat_ofNat']
  rcases h with ⟨e, h⟩ | ⟨e, h⟩ | ⟨e, h⟩ | ⟨e, h⟩ <;> rw [e] <;> unfold lead led <;> simp <;> constructor <;> (repeat' split) <;> omega
theorem found (b : List UInt8) (r : Int) (h : sg r = true) : nx ⟨(b ++ enc r).toArray⟩ b.length = (r, sh r + 1) := by
  have hr : 0 ≤ r ∧ r ≤ 1114111 := by unfold sg at h; simp only [decide_eq_true_eq] at h; omega
  obtain ⟨m, rfl⟩ := Int.eq_ofNat_of_zero_le hr.1
  have he : enc (m : Int) = encK m (sh (m : Int)) := by unfold enc; rw [h]; rfl
  rw [he]
  obtain ⟨h1, h2⟩ := head_is m (by omega)
  have hg : gt ⟨(b ++ encK m (sh (m : Int))).toArray⟩ b.length = lead (sh (m : Int)) + m / 64 ^ (sh (m : Int)) := by
    have := gt_behind b (encK m (sh (m : Int))) 0
    rw [Nat.add_zero] at this
    rw [this, encK_head, h1]
  have hi : ∀ i, i < sh (m : Int) → gt ⟨(b ++ encK m (sh (m : Int))).toArray⟩ (b.length + 1 + i) = 128 + m / 64 ^ (sh (m : Int) - 1 - i) % 64 := fun i hi => by
    rw [show b.length + 1 + i = b.length + (i + 1) from by omega, gt_behind, encK_tail _ _ _ hi, tailB_nat]
  have hsz : (⟨(b ++ encK m (sh (m : Int))).toArray⟩ : ByteArray).size = b.length + (sh (m : Int) + 1) := by
    show (b ++ encK m (sh (m : Int))).toArray.size = _
    simp [encK_len]
  have hacc : acc ⟨(b ++ encK m (sh (m : Int))).toArray⟩ b.length (sh (m : Int)) = m := by
    have hle := sh_le (m : Int)
    generalize hS : (⟨(b ++ encK m (sh (m : Int))).toArray⟩ : ByteArray) = S at hg hi ⊢
    generalize sh (m : Int) = k at hg hi hle h2 ⊢
    have h0 : acc S b.length 0 = m / 64 ^ k := by simp only [acc]; rw [hg, h2]; exact Nat.add_sub_cancel_left _ _
    match k, hle with
    | 0, _ => rw [h0]; simp
    | 1, _ =>
      have a0 := hi 0 (by omega)
      simp only [acc] at h0 ⊢
      rw [h0, a0]
      simp
      omega
    | 2, _ =>
      have a0 := hi 0 (by omega); have a1 := hi 1 (by omega)
      simp only [acc] at h0 ⊢
      rw [h0, a0, a1]
      simp
      omega
    | 3, _ =>
      have a0 := hi 0 (by omega); have a1 := hi 1 (by omega); have a2 := hi 2 (by omega)
      simp only [acc] at h0 ⊢
      rw [h0, a0, a1, a2]
      simp
      omega
  have hok : ok ⟨(b ++ encK m (sh (m : Int))).toArray⟩ b.length := by
    unfold ok
    rw [hg, h2, hacc, hsz]
    refine ⟨by omega, fun j hj => ?_, h, rfl⟩
    unfold cont
    rw [hi j hj]
    omega
  rw [nx_yes hok, hg, h2, hacc]
end Utf
namespace Utf
/-- the number that the document tries with k bytes behind the first -/
def rk (s : ByteArray) (p : Nat) : Nat → Nat
  | 0 => gt s p
  | 1 => gt s p % 32 * 64 + gt s (p + 1) % 64
  | 2 => gt s p % 16 * 4096 + gt s (p + 1) % 64 * 64 + gt s (p + 2) % 64
  | _ => gt s p % 8 * 262144 + gt s (p + 1) % 64 * 4096 + gt s (p + 2) % 64 * 64 + gt s (p + 3) % 64
/-- its bytes are those that stand there -/
def mt (s : ByteArray) (p k : Nat) : Prop := p + k + 1 ≤ s.size ∧ (enc (rk s p k : Nat)).length = k + 1 ∧ ∀ i, i ≤ k → ((enc (rk s p k : Nat)).getD i 0).toNat = gt s (p + i)
theorem sh_cases (r : Nat) : sh (r : Int) = 0 ∧ r ≤ 127 ∨ sh (r : Int) = 1 ∧ 127 < r ∧ r ≤ 2047 ∨ sh (r : Int) = 2 ∧ 2047 < r ∧ r ≤ 65535 ∨ sh (r : Int) = 3 ∧ 65535 < r := by
  unfold sh; (repeat' split) <;> omega
theorem led_cases (f : Nat) : led f = 0 ∧ f < 192 ∨ led f = 1 ∧ 192 ≤ f ∧ f < 224 ∨ led f = 2 ∧ 224 ≤ f ∧ f < 240 ∨ led f = 3 ∧ 240 ≤ f := by
  unfold led; (repeat' split) <;> omega
theorem enc_get0 (m : Nat) (h : sg (m : Int) = true) : ((enc (m : Int)).getD 0 0).toNat = lead (sh (m : Int)) + m / 64 ^ sh (m : Int) := by
  have hr : m ≤ 1114111 := by unfold sg at h; simp only [decide_eq_true_eq] at h; omega
  have he : enc (m : Int) = encK m (sh (m : Int)) := by unfold enc; rw [h]; rfl
  rw [he, encK_head, (head_is m hr).1]
theorem enc_getS (m i : Nat) (h : sg (m : Int) = true) (hi : i < sh (m : Int)) : ((enc (m : Int)).getD (i + 1) 0).toNat = 128 + m / 64 ^ (sh (m : Int) - 1 - i) % 64 := by
  have he : enc (m : Int) = encK m (sh (m : Int)) := by unfold enc; rw [h]; rfl
  rw [he, encK_tail _ _ _ hi, tailB_nat]
theorem enc_lenS (m : Nat) (h : sg (m : Int) = true) : (enc (m : Int)).length = sh (m : Int) + 1 := by
  have he : enc (m : Int) = encK m (sh (m : Int)) := by unfold enc; rw [h]; rfl
  rw [he, encK_len]
theorem acc_rk (s : ByteArray) (p : Nat) (h : ok s p) : acc s p (led (gt s p)) = rk s p (led (gt s p)) := by
  have hg := gt_lt s p
  have h4 := h.2.2.1
  unfold sg at h4
  simp only [decide_eq_true_eq] at h4
  rcases led_cases (gt s p) with ⟨e, b⟩ | ⟨e, b⟩ | ⟨e, b⟩ | ⟨e, b⟩
  · rw [e]
    show gt s p - lead (led (gt s p)) = gt s p
    rw [e]; simp [lead]
  · have a : acc s p 1 = (gt s p - 192) * 64 + gt s (p + 1) % 64 := by simp only [acc]; rw [e]; rfl
    rw [e, a]
    simp only [rk]
    omega
  · have a : acc s p 2 = ((gt s p - 224) * 64 + gt s (p + 1) % 64) * 64 + gt s (p + 2) % 64 := by simp only [acc]; rw [e]; rfl
    rw [e, a]
    simp only [rk]
    omega
  · have a : acc s p 3 = (((gt s p - 240) * 64 + gt s (p + 1) % 64) * 64 + gt s (p + 2) % 64) * 64 + gt s (p + 3) % 64 := by simp only [acc]; rw [e]; rfl
    rw [e, a] at h4
    rw [e, a]
    simp only [rk]
    omega
/-- where a sign begins, the document's way finds it with just so many bytes -/
theorem mt_of_ok (s : ByteArray) (p : Nat) (h : ok s p) : mt s p (led (gt s p)) := by
  have ha := acc_rk s p h
  have hg := gt_lt s p
  have hb0 : acc s p (led (gt s p)) ≤ 1114111 := by
    have h5 := h.2.2.1
    unfold sg at h5
    simp only [decide_eq_true_eq] at h5
    omega
  obtain ⟨h1, h2, h3, h4⟩ := h
  rw [ha] at h3 h4
  have hl := enc_lenS _ h3
  have e0 := enc_get0 _ h3
  have eS := fun i hi => enc_getS _ i h3 hi
  rw [h4] at hl e0 eS
  refine ⟨h1, hl, fun i hi => ?_⟩
  clear hl h3 h4 ha
  rcases led_cases (gt s p) with ⟨e, b⟩ | ⟨e, b⟩ | ⟨e, b⟩ | ⟨e, b⟩ <;> rw [e] at h1 h2 e0 eS hi hb0 ⊢
  · obtain rfl : i = 0 := by omega
    rw [e0]; simp [lead, rk]
  · have c1 := h2 0 (by omega)
    simp only [cont, Nat.add_zero] at c1
    match i, hi with
    | 0, _ => rw [e0]; simp only [lead, rk, Nat.add_zero]; simp; omega
    | 1, _ => rw [eS 0 (by omega)]; simp only [rk]; simp; omega
  · have c1 := h2 0 (by omega); have c2 := h2 1 (by omega)
    simp only [cont, Nat.add_zero, show p + 1 + 1 = p + 2 from rfl] at c1 c2
    match i, hi with
    | 0, _ => rw [e0]; simp only [lead, rk, Nat.add_zero]; simp; omega
    | 1, _ => rw [eS 0 (by omega)]; simp only [rk]; simp; omega
    | 2, _ => rw [eS 1 (by omega)]; simp only [rk]; simp; omega
  · have c1 := h2 0 (by omega); have c2 := h2 1 (by omega); have c3 := h2 2 (by omega)
    simp only [cont, Nat.add_zero, show p + 1 + 1 = p + 2 from rfl, show p + 1 + 2 = p + 3 from rfl] at c1 c2 c3
    have a : acc s p 3 = (((gt s p - 240) * 64 + gt s (p + 1) % 64) * 64 + gt s (p + 2) % 64) * 64 + gt s (p + 3) % 64 := by simp only [acc]; rw [e]; rfl
    rw [a] at hb0
    have hb : gt s p ≤ 247 := by omega
    match i, hi with
    | 0, _ => rw [e0]; simp only [lead, rk, Nat.add_zero]; simp; omega
    | 1, _ => rw [eS 0 (by omega)]; simp only [rk]; simp; omega
    | 2, _ => rw [eS 1 (by omega)]; simp only [rk]; simp; omega
    | 3, _ => rw [eS 2 (by omega)]; simp only [rk]; simp; omega
/-- what the document's way finds is what nx finds -/
theorem ok_of_mt (s : ByteArray) (p k : Nat) (hk : k ≤ 3) (h : mt s p k) : ok s p ∧ led (gt s p) = k ∧ acc s p k = rk s p k := by
  obtain ⟨h1, hl, hb⟩ := h
  obtain ⟨r, hr⟩ : ∃ r, r = rk s p k := ⟨_, rfl⟩
  rw [← hr] at hl hb ⊢
  clear hr
  have hsg : sg (r : Int) = true := by
    refine Classical.byContradiction fun hn => ?_
    have : enc (r : Int) = [] := by unfold enc; rw [if_neg hn]
    rw [this] at hl; simp at hl
  have hrb : r ≤ 1114111 := by unfold sg at hsg; simp only [decide_eq_true_eq] at hsg; omega
  have hsh : sh (r : Int) = k := by have := enc_lenS r hsg; omega
  have e0 := enc_get0 r hsg
  have eS := fun i hi => enc_getS r i hsg hi
  have hhd := (head_is r hrb).2
  rw [hsh] at e0 eS hhd
  have b0 := hb 0 (by omega)
  rw [e0, Nat.add_zero] at b0
  rw [b0] at hhd
  have bS : ∀ i, i < k → gt s (p + 1 + i) = 128 + r / 64 ^ (k - 1 - i) % 64 := fun i hi => by
    rw [← eS i hi, hb (i + 1) (by omega), show p + (i + 1) = p + 1 + i from by omega]
  have hacc : acc s p k = r := by
    have h0 : acc s p 0 = r / 64 ^ k := by simp only [acc]; rw [hhd, ← b0]; exact Nat.add_sub_cancel_left _ _
    rcases (show k = 0 ∨ k = 1 ∨ k = 2 ∨ k = 3 by omega) with rfl | rfl | rfl | rfl
    · rw [h0]; simp
    · have a0 := bS 0 (by omega)
      simp only [acc] at h0 ⊢
      rw [h0, a0]; simp; omega
    · have a0 := bS 0 (by omega); have a1 := bS 1 (by omega)
      simp only [acc] at h0 ⊢
      rw [h0, a0, a1]; simp; omega
    · have a0 := bS 0 (by omega); have a1 := bS 1 (by omega); have a2 := bS 2 (by omega)
      simp only [acc] at h0 ⊢
      rw [h0, a0, a1, a2]; simp; omega
  refine ⟨?_, hhd, hacc⟩
  unfold ok
  rw [hhd, hacc]
  refine ⟨h1, fun j hj => ?_, hsg, hsh⟩
  unfold cont
  rw [bS j hj]
  omega
/-- the document's way: the first length that fits -/
theorem nx_of_mt (s : ByteArray) (p k : Nat) (hk : k ≤ 3) (h : mt s p k) : nx s p = (((rk s p k : Nat) : Int), k + 1) := by
  obtain ⟨h1, h2, h3⟩ := ok_of_mt s p k hk h
  rw [nx_yes h1, h2, h3]
theorem nx_none (s : ByteArray) (p : Nat) (h : ∀ k, k ≤ 3 → p + k + 1 ≤ s.size → ¬ mt s p k) : nx s p = (-1, 1) :=
  nx_no fun hok => h (led (gt s p)) (led_le _) hok.1 (mt_of_ok s p hok)
end Utf
end Go.Proofs.YtdnkhcbglmfjbaaDoor
