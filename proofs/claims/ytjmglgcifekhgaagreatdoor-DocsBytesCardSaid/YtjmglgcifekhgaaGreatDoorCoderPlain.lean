/- The plain mathematics of numbers as bytes (layer 1). No program stands here. -/
namespace Go.Proofs.YtjmglgcifekhgaaGreatDoor.Cod
/-- how many bytes stand behind the first -/
def bh (x : Nat) : Nat :=
  if x < 128 then 0 else if x < 16384 then 1 else if x < 2097152 then 2 else if x < 268435456 then 3 else if x < 34359738368 then 4
  else if x < 4398046511104 then 5 else if x < 562949953421312 then 6 else if x < 72057594037927936 then 7 else 8
theorem bh_le (x : Nat) : bh x ≤ 8 := by unfold bh; (repeat' split) <;> omega
theorem bh_iff (x k : Nat) (hk : k < 8) : bh x ≤ k ↔ x < 2 ^ (7 + 7 * k) := by
  unfold bh
  match k, hk with
  | 0, _ => simp only [Nat.reduceMul, Nat.reduceAdd, Nat.reducePow]; (repeat' split) <;> omega
  | 1, _ => simp only [Nat.reduceMul, Nat.reduceAdd, Nat.reducePow]; (repeat' split) <;> omega
  | 2, _ => simp only [Nat.reduceMul, Nat.reduceAdd, Nat.reducePow]; (repeat' split) <;> omega
  | 3, _ => simp only [Nat.reduceMul, Nat.reduceAdd, Nat.reducePow]; (repeat' split) <;> omega
  | 4, _ => simp only [Nat.reduceMul, Nat.reduceAdd, Nat.reducePow]; (repeat' split) <;> omega
  | 5, _ => simp only [Nat.reduceMul, Nat.reduceAdd, Nat.reducePow]; (repeat' split) <;> omega
  | 6, _ => simp only [Nat.reduceMul, Nat.reduceAdd, Nat.reducePow]; (repeat' split) <;> omega
  | 7, _ => simp only [Nat.reduceMul, Nat.reduceAdd, Nat.reducePow]; (repeat' split) <;> omega
theorem bh_div (x k : Nat) (hk : k < 8) : x / 2 ^ (7 + 7 * k) = 0 ↔ bh x ≤ k := by
  rw [bh_iff x k hk]
  constructor
  · intro h
    rcases Nat.lt_or_ge x (2 ^ (7 + 7 * k)) with h1 | h1
    · exact h1
    · have := Nat.div_pos h1 (Nat.two_pow_pos _); omega
  · exact fun h => Nat.div_eq_of_lt h

/-- the last k bytes of a number, the highest first -/
def dig : Nat → Nat → List UInt8
  | 0, _ => []
  | k + 1, x => UInt8.ofNat (x / 256 ^ k) :: dig k x
theorem dig_length (k x : Nat) : (dig k x).length = k := by induction k with | zero => rfl | succ k ih => simp [dig, ih]
theorem dig_get (k x i : Nat) (hi : i < k) : (dig k x).getD i 0 = UInt8.ofNat (x / 256 ^ (k - 1 - i)) := by
  induction k generalizing i with
  | zero => omega
  | succ k ih =>
    match i with
    | 0 => simp [dig]
    | i + 1 =>
      have := ih i (by omega)
      simp only [dig, List.getD_cons_succ]
      rw [this, show k + 1 - 1 - (i + 1) = k - 1 - i from by omega]

def head (x k : Nat) : Nat := 256 - 2 ^ (8 - k) + x / 256 ^ k
def enc (x : Nat) : List UInt8 := UInt8.ofNat (head x (bh x)) :: dig (bh x) x
theorem enc_length (x : Nat) : (enc x).length = bh x + 1 := by simp [enc, dig_length]
theorem pow256 (k : Nat) : 256 ^ k = 2 ^ (8 * k) := by rw [show (256 : Nat) = 2 ^ 8 from rfl, ← Nat.pow_mul]
theorem enc_get (x i : Nat) (hi : i < bh x) : (enc x).getD (i + 1) 0 = UInt8.ofNat (x / 2 ^ (8 * (bh x - 1 - i))) := by
  unfold enc; rw [List.getD_cons_succ, dig_get _ _ _ hi, pow256]
/-- the first byte's own part is small -/
theorem top_lt (x : Nat) (hx : x < 18446744073709551616) (k : Nat) (hk : k = bh x) : x / 256 ^ k < 2 ^ (7 - k) ∨ (k = 8 ∧ x / 256 ^ k = 0) := by
  have h8 := bh_le x
  by_cases h : k = 8
  · right; subst h
    exact ⟨rfl, Nat.div_eq_of_lt (by rw [pow256]; exact hx)⟩
  · left
    have h1 := (bh_iff x k (by omega)).1 (by omega)
    rw [pow256]
    refine Nat.div_lt_of_lt_mul ?_
    rw [← Nat.pow_add, show 8 * k + (7 - k) = 7 + 7 * k from by omega]
    exact h1
theorem pow_parts (k : Nat) (hk : k ≤ 8) : 1 ≤ 2 ^ (8 - k) ∧ 2 ^ (8 - k) ≤ 256 ∧ (k ≤ 7 → 2 ^ (8 - k) = 2 * 2 ^ (7 - k)) := by
  refine ⟨Nat.one_le_two_pow, ?_, fun h => ?_⟩
  · exact Nat.pow_le_pow_right (n := 2) (by omega) (show 8 - k ≤ 8 by omega)
  · rw [show 8 - k = (7 - k) + 1 from by omega, Nat.pow_succ, Nat.mul_comm]
theorem head_lt (x : Nat) (hx : x < 18446744073709551616) : head x (bh x) < 256 := by
  have h8 := bh_le x
  obtain ⟨p1, p2, p3⟩ := pow_parts (bh x) h8
  unfold head
  rcases top_lt x hx _ rfl with h | ⟨h, e⟩
  · rcases Nat.lt_or_ge (bh x) 8 with h7 | h7
    · have := p3 (by omega); omega
    · have e7 : bh x = 8 := by omega
      rw [e7] at h ⊢; simp at h ⊢; omega
  · rw [e]; omega
/-- put together by bits -/
theorem head_or (x : Nat) (hx : x < 18446744073709551616) : (255 * 2 ^ (8 - bh x) % 256) ||| (x / 2 ^ (8 * bh x) % 256) = head x (bh x) := by
  have h8 := bh_le x
  have hl := head_lt x hx
  have ht := top_lt x hx _ rfl
  unfold head at hl ⊢
  rw [← pow256]
  generalize hb : bh x = k at *
  have hd : x / 256 ^ k < 256 := by omega
  rw [Nat.mod_eq_of_lt hd]
  generalize x / 256 ^ k = t at *
  match k, h8 with
  | 0, _ => simp
  | 1, _ => simp at ht ⊢; have : 128 ||| t = 128 + t := by have := Nat.two_pow_add_eq_or_of_lt (i := 7) (b := t) (by omega) 1; simpa using this.symm
            exact this
  | 2, _ => simp at ht ⊢; have := Nat.two_pow_add_eq_or_of_lt (i := 6) (b := t) (by omega) 3; simpa using this.symm
  | 3, _ => simp at ht ⊢; have := Nat.two_pow_add_eq_or_of_lt (i := 5) (b := t) (by omega) 7; simpa using this.symm
  | 4, _ => simp at ht ⊢; have := Nat.two_pow_add_eq_or_of_lt (i := 4) (b := t) (by omega) 15; simpa using this.symm
  | 5, _ => simp at ht ⊢; have := Nat.two_pow_add_eq_or_of_lt (i := 3) (b := t) (by omega) 31; simpa using this.symm
  | 6, _ => simp at ht ⊢; have := Nat.two_pow_add_eq_or_of_lt (i := 2) (b := t) (by omega) 63; simpa using this.symm
  | 7, _ => simp at ht ⊢; have := Nat.two_pow_add_eq_or_of_lt (i := 1) (b := t) (by omega) 127; simpa using this.symm
  | 8, _ => simp at ht ⊢; rw [ht]; simp

/-! numbers that rise -/

def riseFrom : Int → List Int → Nat
  | _, [] => 0
  | last, x :: r => if last < x then riseFrom x r + 1 else 0
def riseN (l : List Int) : Nat := riseFrom (-1) l
def lastOf (l : List Int) (k : Nat) : Int := if k = 0 then -1 else l.getD (k - 1) 0
theorem riseFrom_le (last : Int) (l : List Int) : riseFrom last l ≤ l.length := by
  induction l generalizing last with
  | nil => simp [riseFrom]
  | cons x r ih => simp only [riseFrom, List.length_cons]; have := ih x; split <;> omega
theorem riseN_le (l : List Int) : riseN l ≤ l.length := riseFrom_le _ _
theorem rise_step (l : List Int) (k : Nat) (h : k ≤ riseN l) : riseN l = k + riseFrom (lastOf l k) (l.drop k) := by
  induction k with
  | zero => simp [riseN, lastOf]
  | succ k ih =>
    have h1 := ih (by omega)
    have hk : k < l.length := by have := riseN_le l; omega
    rw [List.drop_eq_getElem_cons hk, riseFrom] at h1
    have hl : lastOf l (k + 1) = l[k] := by simp [lastOf, List.getD, List.getElem?_eq_getElem hk]
    rw [hl]
    split at h1 <;> omega
/-- below the count each number is above the one ahead -/
theorem rise_lt (l : List Int) (k : Nat) (h : k < riseN l) : lastOf l k < l.getD k 0 := by
  have h1 := rise_step l k (by omega)
  have hk : k < l.length := by have := riseN_le l; omega
  rw [List.drop_eq_getElem_cons hk, riseFrom] at h1
  have e : l.getD k 0 = l[k] := by simp [List.getD, List.getElem?_eq_getElem hk]
  rw [e]
  split at h1
  · assumption
  · omega
/-- at the count the next one, if there is one, is not -/
theorem rise_end (l : List Int) (h : riseN l < l.length) : ¬ lastOf l (riseN l) < l.getD (riseN l) 0 := by
  have h1 := rise_step l (riseN l) (Nat.le_refl _)
  rw [List.drop_eq_getElem_cons h, riseFrom] at h1
  have e : l.getD (riseN l) 0 = l[riseN l] := by simp [List.getD, List.getElem?_eq_getElem h]
  rw [e]
  split at h1
  · omega
  · assumption
theorem last_ge (l : List Int) (k : Nat) (h : k ≤ riseN l) : -1 ≤ lastOf l k := by
  induction k with
  | zero => simp [lastOf]
  | succ k ih =>
    have h1 := ih (by omega)
    have h2 := rise_lt l k (by omega)
    have hl : lastOf l (k + 1) = l.getD k 0 := by simp [lastOf]
    omega
theorem at_count (l : List Int) (k : Nat) (h : k ≤ riseN l) (h2 : k = l.length ∨ ¬ lastOf l k < l.getD k 0) : riseN l = k := by
  rcases h2 with h2 | h2
  · have := riseN_le l; omega
  · rcases Nat.lt_or_ge k (riseN l) with h3 | h3
    · exact absurd (rise_lt l k h3) h2
    · omega
theorem step_up (l : List Int) (k : Nat) (h : k ≤ riseN l) (hk : k < l.length) (h2 : lastOf l k < l.getD k 0) : k + 1 ≤ riseN l := by
  rcases Nat.lt_or_ge k (riseN l) with h3 | h3
  · exact h3
  · have e : k = riseN l := by omega
    subst e
    exact absurd h2 (rise_end l hk)

/-- the bytes of numbers that rise, each as how much it is above the least that it may be -/
def gap (l : List Int) (k : Nat) : Nat := (l.getD k 0 - (lastOf l k + 1)).toNat
def gaps (l : List Int) : Nat → List UInt8
  | 0 => []
  | k + 1 => gaps l k ++ enc (gap l k)
def rising (l : List Int) : List UInt8 := enc (riseN l) ++ gaps l (riseN l)
theorem gaps_length (l : List Int) (k : Nat) : (gaps l k).length ≤ 9 * k := by
  induction k with
  | zero => simp [gaps]
  | succ k ih => simp only [gaps, List.length_append, enc_length]; have := bh_le (gap l k); omega
end Go.Proofs.YtjmglgcifekhgaaGreatDoor.Cod
