/- The statement WireDecodes, proved for every input that its row reads: part 11 of 54. -/

/- The plain mathematics of numbers as bytes (layer 1). No program stands here. -/
namespace Go.Proofs.YtapmbankpbiglaaGreatDoor.Cod
/-- how many bytes stand behind the first -/
def bh (x : Nat) : Nat :=
  if x < 128 then 0 else if x < 16384 then 1 else if x < 2097152 then 2 else if x < 268435456 then 3 else if x < 34359738368 then 4
  else if x < 4398046511104 then 5 else if x < 562949953421312 then 6 else if x < 72057594037927936 then 7 else 8
theorem bh_le (x : Nat) : bh x ≤ 8 := by unfold bh; (repeat' split) <;> omega
theorem bh_iff (x k : Nat) (hk : k < 8) : bh x ≤ k ↔ x < 2 ^ (7 + 7 * k) := by
  unfold bh
  match k, hk with
  | 0, _ => simp only [Nat.reduceMul, Nat.reduceAdd, Nat.reducePow]; (repeat' split) <;> omega
  | 1, _ => simp only [Nat.reduceMul, Nat.reduceAdd, Nat.reducePow]; (repeat' split) <;> omega
  | 2, _ => simp only [Nat.reduceMul, Nat.reduceAdd, Nat.reducePow]; (repeat' split) <;> omega
  | 3, _ => simp only [Nat.reduceMul, Nat.reduceAdd, Nat.reducePow]; (repeat' split) <;> omega
  | 4, _ => simp only [Nat.reduceMul, Nat.reduceAdd, Nat.reducePow]; (repeat' split) <;> omega
  | 5, _ => simp only [Nat.reduceMul, Nat.reduceAdd, Nat.reducePow]; (repeat' split) <;> omega
  | 6, _ => simp only [Nat.reduceMul, Nat.reduceAdd, Nat.reducePow]; (repeat' split) <;> omega
  | 7, _ => simp only [Nat.reduceMul, Nat.reduceAdd, Nat.reducePow]; (repeat' split) <;> omega
theorem bh_div (x k : Nat) (hk : k < 8) : x / 2 ^ (7 + 7 * k) = 0 ↔ bh x ≤ k := by
  rw [bh_iff x k hk]
  constructor
  · intro h
    rcases Nat.lt_or_ge x (2 ^ (7 + 7 * k)) with h1 | h1
    · exact h1
    · have := Nat.div_pos h1 (Nat.two_pow_pos _); omega
  · exact fun h => Nat.div_eq_of_lt h

/-- the last k bytes of a number, the highest first -/
def dig : Nat → Nat → List UInt8
  | 0, _ => []
  | k + 1, x => UInt8.ofNat (x / 256 ^ k) :: dig k x
theorem dig_length (k x : Nat) : (dig k x).length = k := by induction k with | zero => rfl | succ k ih => simp [dig, ih]
theorem dig_get (k x i : Nat) (hi : i < k) : (dig k x).getD i 0 = UInt8.ofNat (x / 256 ^ (k - 1 - i)) := by
  induction k generalizing i with
  | zero => omega
  | succ k ih =>
    match i with
    | 0 => simp [dig]
    | i + 1 =>
      have := ih i (by omega)
      simp only [dig, List.getD_cons_succ]
      rw [this, show k + 1 - 1 - (i + 1) = k - 1 - i from by omega]

def head (x k : Nat) : Nat := 256 - 2 ^ (8 - k) + x / 256 ^ k
def enc (x : Nat) : List UInt8 := UInt8.ofNat (head x (bh x)) :: dig (bh x) x
theorem enc_length (x : Nat) : (enc x).length = bh x + 1 := by simp [enc, dig_length]
theorem pow256 (k : Nat) : 256 ^ k = 2 ^ (8 * k) := by rw [show (256 : Nat) = 2 ^ 8 from rfl, ← Nat.pow_mul]
theorem enc_get (x i : Nat) (hi : i < bh x) : (enc x).getD (i + 1) 0 = UInt8.ofNat (x / 2 ^ (8 * (bh x - 1 - i))) := by
  unfold enc; rw [List.getD_cons_succ, dig_get _ _ _ hi, pow256]
/-- the first byte's own part is small -/
theorem top_lt (x : Nat) (hx : x < 18446744073709551616) (k : Nat) (hk : k = bh x) : x / 256 ^ k < 2 ^ (7 - k) ∨ (k = 8 ∧ x / 256 ^ k = 0) := by
  have h8 := bh_le x
  by_cases h : k = 8
  · right; subst h
    exact ⟨rfl, Nat.div_eq_of_lt (by rw [pow256]; exact hx)⟩
  · left
    have h1 := (bh_iff x k (by omega)).1 (by omega)
    rw [pow256]
    refine Nat.div_lt_of_lt_mul ?_
    rw [← Nat.pow_add, show 8 * k + (7 - k) = 7 + 7 * k from by omega]
    exact h1
theorem pow_parts (k : Nat) (hk : k ≤ 8) : 1 ≤ 2 ^ (8 - k) ∧ 2 ^ (8 - k) ≤ 256 ∧ (k ≤ 7 → 2 ^ (8 - k) = 2 * 2 ^ (7 - k)) := by
  refine ⟨Nat.one_le_two_pow, ?_, fun h => ?_⟩
  · exact Nat.pow_le_pow_right (n := 2) (by omega) (show 8 - k ≤ 8 by omega)
  · rw [show 8 - k = (7 - k) + 1 from by omega, Nat.pow_succ, Nat.mul_comm]
theorem head_lt (x : Nat) (hx : x < 18446744073709551616) : head x (bh x) < 256 := by
  have h8 := bh_le x
  obtain ⟨p1, p2, p3⟩ := pow_parts (bh x) h8
  unfold head
  rcases top_lt x hx _ rfl with h | ⟨h, e⟩
  · rcases Nat.lt_or_ge (bh x) 8 with h7 | h7
    · have := p3 (by omega); omega
    · have e7 : bh x = 8 := by omega
      rw [e7] at h ⊢; simp at h ⊢; omega
  · rw [e]; omega
/-- put together by bits -/
theorem head_or (x : Nat) (hx : x < 18446744073709551616) : (255 * 2 ^ (8 - bh x) % 256) ||| (x / 2 ^ (8 * bh x) % 256) = head x (bh x) := by
  have h8 := bh_le x
  have hl := head_lt x hx
  have ht := top_lt x hx _ rfl
  unfold head at hl ⊢
  rw [← pow256]
  generalize hb : bh x = k at *
  have hd : x / 256 ^ k < 256 := by omega
  rw [Nat.mod_eq_of_lt hd]
  generalize x / 256 ^ k = t at *
  match k, h8 with
  | 0, _ => simp
  | 1, _ => simp at ht ⊢; have : 128 ||| t = 128 + t := by have := Nat.two_pow_add_eq_or_of_lt (i := 7) (b := t) (by omega) 1; simpa using this.symm
            exact this
  | 2, _ => simp at ht ⊢; have := Nat.two_pow_add_eq_or_of_lt (i := 6) (b := t) (by omega) 3; simpa using this.symm
  | 3, _ => simp at ht ⊢; have := Nat.two_pow_add_eq_or_of_lt (i := 5) (b := t) (by omega) 7; simpa using this.symm
  | 4, _ => simp at ht ⊢; have := Nat.two_pow_add_eq_or_of_lt (i := 4) (b := t) (by omega) 15; simpa using this.symm
  | 5, _ => simp at ht ⊢; have := Nat.two_pow_add_eq_or_of_lt (i := 3) (b := t) (by omega) 31; simpa using this.symm
  | 6, _ => simp at ht ⊢; have := Nat.two_pow_add_eq_or_of_lt (i := 2) (b := t) (by omega) 63; simpa using this.symm
  | 7, _ => simp at ht ⊢; have := Nat.two_pow_add_eq_or_of_lt (i := 1) (b := t) (by omega) 127; simpa using this.symm
  | 8, _ => simp at ht ⊢; rw [ht]; simp

/-! numbers that rise -/

def riseFrom : Int → List Int → Nat
  | _, [] => 0
  | last, x :: r => if last < x then riseFrom x r + 1 else 0
def riseN (l : List Int) : Nat := riseFrom (-1) l
def lastOf (l : List Int) (k : Nat) : Int := if k = 0 then -1 else l.getD (k - 1) 0
theorem riseFrom_le (last : Int) (l : List Int) : riseFrom last l ≤ l.length := by
  induction l generalizing last with
  | nil => simp [riseFrom]
  | cons x r ih => simp only [riseFrom, List.length_cons]; have := ih x; split <;> omega
theorem riseN_le (l : List Int) : riseN l ≤ l.length := riseFrom_le _ _
theorem rise_step (l : List Int) (k : Nat) (h : k ≤ riseN l) : riseN l = k + riseFrom (lastOf l k) (l.drop k) := by
  induction k with
  | zero => simp [riseN, lastOf]
  | succ k ih =>
    have h1 := ih (by omega)
    have hk : k < l.length := by have := riseN_le l; omega
    rw [List.drop_eq_getElem_cons hk, riseFrom] at h1
    have hl : lastOf l (k + 1) = l[k] := by simp [lastOf, List.getD, List.getElem?_eq_getElem hk]
    rw [hl]
    split at h1 <;> omega
/-- below the count each number is above the one ahead -/
theorem rise_lt (l : List Int) (k : Nat) (h : k < riseN l) : lastOf l k < l.getD k 0 := by
  have h1 := rise_step l k (by omega)
  have hk : k < l.length := by have := riseN_le l; omega
  rw [List.drop_eq_getElem_cons hk, riseFrom] at h1
  have e : l.getD k 0 = l[k] := by simp [List.getD, List.getElem?_eq_getElem hk]
  rw [e]
  split at h1
  · assumption
  · omega
/-- at the count the next one, if there is one, is not -/
theorem rise_end (l : List Int) (h : riseN l < l.length) : ¬ lastOf l (riseN l) < l.getD (riseN l) 0 := by
  have h1 := rise_step l (riseN l) (Nat.le_refl _)
  rw [List.drop_eq_getElem_cons h, riseFrom] at h1
  have e : l.getD (riseN l) 0 = l[riseN l] := by simp [List.getD, List.getElem?_eq_getElem h]
  rw [e]
  split at h1
  · omega
  · assumption
theorem last_ge (l : List Int) (k : Nat) (h : k ≤ riseN l) : -1 ≤ lastOf l k := by
  induction k with
  | zero => simp [lastOf]
  | succ k ih =>
    have h1 := ih (by omega)
    have h2 := rise_lt l k (by omega)
    have hl : lastOf l (k + 1) = l.getD k 0 := by simp [lastOf]
    omega
theorem at_count (l : List Int) (k : Nat) (h : k ≤ riseN l) (h2 : k = l.length ∨ ¬ lastOf l k < l.getD k 0) : riseN l = k := by
  rcases h2 with h2 | h2
  · have := riseN_le l; omega
  · rcases Nat.lt_or_ge k (riseN l) with h3 | h3
    · exact absurd (rise_lt l k h3) h2
    · omega
theorem step_up (l : List Int) (k : Nat) (h : k ≤ riseN l) (hk : k < l.length) (h2 : lastOf l k < l.getD k 0) : k + 1 ≤ riseN l := by
  rcases Nat.lt_or_ge k (riseN l) with h3 | h3
  · exact h3
  · have e : k = riseN l := by omega
    subst e
    exact absurd h2 (rise_end l hk)

/-- the bytes of numbers that rise, each as how much it is above the least that it may be -/
def gap (l : List Int) (k : Nat) : Nat := (l.getD k 0 - (lastOf l k + 1)).toNat
def gaps (l : List Int) : Nat → List UInt8
  | 0 => []
  | k + 1 => gaps l k ++ enc (gap l k)
def rising (l : List Int) : List UInt8 := enc (riseN l) ++ gaps l (riseN l)
theorem gaps_length (l : List Int) (k : Nat) : (gaps l k).length ≤ 9 * k := by
  induction k with
  | zero => simp [gaps]
  | succ k ih => simp only [gaps, List.length_append, enc_length]; have := bh_le (gap l k); omega
end Go.Proofs.YtapmbankpbiglaaGreatDoor.Cod
/- The plain mathematics of the sum (layer 2): the sum by single steps, by a table of eight, that it is linear, and that what differs in one byte, or in two neighbours by a turn of eight bits, has another sum. No program stands here. -/
namespace Go.Proofs.YtapmbankpbiglaaGreatDoor.Frm
def poly : Nat := 0xedb88320
def step (s : Nat) : Nat := if s % 2 = 1 then (s / 2) ^^^ poly else s / 2
def steps : Nat → Nat → Nat
  | 0, s => s
  | n + 1, s => steps n (step s)
def left (i : Nat) : Nat := [0x77073096, 0xEE0E612C, 0x076DC419, 0x0EDB8832, 0x1DB71064, 0x3B6E20C8, 0x76DC4190, 0xEDB88320].getD i 0
/- the code's own loop over the bits of 'out' -/
def tab (out : Nat) : Nat → Nat → Nat
  | 0, s => s
  | n + 1, s => let r := tab out n s; if out / 2 ^ n % 2 = 1 then r ^^^ left n else r
def byteStep (s b : Nat) : Nat := steps 8 (s ^^^ b)
def run (s : Nat) (l : List UInt8) : Nat := l.foldl (fun s b => byteStep s b.toNat) s
def crc (l : List UInt8) : Nat := run 0xffffffff l ^^^ 0xffffffff

theorem xor_div (a b k : Nat) : (a ^^^ b) / 2 ^ k = a / 2 ^ k ^^^ b / 2 ^ k := by
  rw [← Nat.shiftRight_eq_div_pow, ← Nat.shiftRight_eq_div_pow, ← Nat.shiftRight_eq_div_pow, Nat.shiftRight_xor_distrib]
theorem xor_div2 (a b : Nat) : (a ^^^ b) / 2 = a / 2 ^^^ b / 2 := by simpa using xor_div a b 1
theorem xor_mod2 (a b : Nat) : (a ^^^ b) % 2 = (a % 2 + b % 2) % 2 := by
  have h := Nat.testBit_xor a b 0
  simp only [Nat.testBit_zero] at h
  have ha := Nat.mod_two_eq_zero_or_one a
  have hb := Nat.mod_two_eq_zero_or_one b
  have hc := Nat.mod_two_eq_zero_or_one (a ^^^ b)
  rcases ha with ha | ha <;> rcases hb with hb | hb <;> rcases hc with hc | hc <;> simp_all
theorem step_xor (a b : Nat) : step (a ^^^ b) = step a ^^^ step b := by
  unfold step
  rw [xor_div2, xor_mod2]
  rcases Nat.mod_two_eq_zero_or_one a with ha | ha <;> rcases Nat.mod_two_eq_zero_or_one b with hb | hb <;> simp [ha, hb]
  · ac_rfl
  · ac_rfl
  · have : a / 2 ^^^ poly ^^^ (b / 2 ^^^ poly) = a / 2 ^^^ b / 2 ^^^ (poly ^^^ poly) := by ac_rfl
    rw [this, Nat.xor_self, Nat.xor_zero]
theorem steps_xor (n a b : Nat) : steps n (a ^^^ b) = steps n a ^^^ steps n b := by
  induction n generalizing a b with
  | zero => rfl
  | succ n ih => simp only [steps]; rw [step_xor, ih]
theorem steps_add (m n s : Nat) : steps (m + n) s = steps n (steps m s) := by
  induction m generalizing s with
  | zero => simp [steps]
  | succ m ih => rw [show m + 1 + n = (m + n) + 1 from by omega]; simp only [steps]; exact ih _
theorem step_zero : step 0 = 0 := by simp [step]
theorem steps_zero (n : Nat) : steps n 0 = 0 := by induction n with | zero => rfl | succ n ih => simp [steps, step_zero, ih]
theorem step_lt {s : Nat} (h : s < 4294967296) : step s < 4294967296 := by
  unfold step
  split
  · exact Nat.xor_lt_two_pow (n := 32) (by omega) (by decide)
  · omega
theorem steps_lt (n : Nat) {s : Nat} (h : s < 4294967296) : steps n s < 4294967296 := by
  induction n generalizing s with
  | zero => exact h
  | succ n ih => exact ih (step_lt h)
theorem step_ne {s : Nat} (h : s < 4294967296) (h0 : s ≠ 0) : step s ≠ 0 := by
  unfold step
  split
  · intro e
    have h1 : s / 2 = poly := by
      have := congrArg (· ^^^ poly) e
      simpa [Nat.xor_assoc] using this
    unfold poly at h1; omega
  · omega
theorem steps_ne (n : Nat) {s : Nat} (h : s < 4294967296) (h0 : s ≠ 0) : steps n s ≠ 0 := by
  induction n generalizing s with
  | zero => exact h0
  | succ n ih => exact ih (step_lt h) (step_ne h h0)
theorem step_double (m : Nat) : step (2 * m) = m := by unfold step; rw [if_neg (by omega)]; omega
theorem steps_pow (n m : Nat) : steps n (2 ^ n * m) = m := by
  induction n generalizing m with
  | zero => simp [steps]
  | succ n ih => simp only [steps]; rw [Nat.pow_succ, Nat.mul_comm (2 ^ n) 2, Nat.mul_assoc, step_double, ih]
theorem tab_low : ∀ y, y < 256 → steps 8 y = tab y 8 0 := by decide +kernel
theorem tab_xor (out n s : Nat) : tab out n s = s ^^^ tab out n 0 := by
  induction n with
  | zero => simp [tab]
  | succ n ih => simp only [tab]; rw [ih]; split <;> simp [Nat.xor_assoc]
theorem split8 (x : Nat) : x = 2 ^ 8 * (x / 256) ^^^ (x % 256) := by
  apply Nat.eq_of_testBit_eq
  intro i
  rw [Nat.testBit_xor, show (256 : Nat) = 2 ^ 8 from rfl, Nat.testBit_mod_two_pow, Nat.mul_comm, Nat.testBit_mul_two_pow, Nat.testBit_div_two_pow]
  by_cases h : i < 8
  · have : ¬ 8 ≤ i := by omega
    simp [h, this]
  · have : 8 ≤ i := by omega
    simp [h, this]
/-- what the code does with one byte is what eight single steps do -/
theorem byte_eq (s b : Nat) (hb : b < 256) : tab ((s &&& 255) ^^^ b) 8 (s / 256) = byteStep s b := by
  unfold byteStep
  have h1 : (s &&& 255) ^^^ b = (s ^^^ b) % 256 := by
    apply Nat.eq_of_testBit_eq
    intro i
    have hbi : b.testBit i = (decide (i < 8) && b.testBit i) := by
      have : b % 2 ^ 8 = b := Nat.mod_eq_of_lt hb
      rw [← this, Nat.testBit_mod_two_pow]; by_cases h : i < 8 <;> simp [h]
    rw [show (256 : Nat) = 2 ^ 8 from rfl, show (255 : Nat) = 2 ^ 8 - 1 from rfl, Nat.testBit_mod_two_pow, Nat.testBit_xor, Nat.testBit_and, Nat.testBit_two_pow_sub_one, Nat.testBit_xor, hbi]
    by_cases h : i < 8 <;> simp [h]
  have h2 : s / 256 = (s ^^^ b) / 256 := by
    have := xor_div s b 8
    simp only [show (2 : Nat) ^ 8 = 256 from rfl] at this
    rw [this, Nat.div_eq_of_lt hb, Nat.xor_zero]
  rw [h1, h2]
  generalize s ^^^ b = x
  conv => rhs; rw [split8 x, steps_xor, steps_pow, tab_low _ (Nat.mod_lt _ (by omega))]
  exact tab_xor _ _ _
theorem byteStep_xor (s d b : Nat) : byteStep (s ^^^ d) b = byteStep s b ^^^ steps 8 d := by
  unfold byteStep; rw [show s ^^^ d ^^^ b = (s ^^^ b) ^^^ d from by ac_rfl, steps_xor]
theorem run_xor (l : List UInt8) (s d : Nat) : run (s ^^^ d) l = run s l ^^^ steps (8 * l.length) d := by
  unfold run
  induction l generalizing s d with
  | nil => simp [steps]
  | cons b l ih => simp only [List.foldl_cons, List.length_cons]; rw [byteStep_xor, ih, ← steps_add]; congr 2; omega
theorem byteStep_lt {s b : Nat} (h : s < 4294967296) (hb : b < 256) : byteStep s b < 4294967296 :=
  steps_lt 8 (Nat.xor_lt_two_pow (n := 32) h (by omega))
theorem run_lt (l : List UInt8) {s : Nat} (h : s < 4294967296) : run s l < 4294967296 := by
  unfold run
  induction l generalizing s with
  | nil => exact h
  | cons b l ih => exact ih (byteStep_lt h b.toNat_lt)
theorem crc_lt (l : List UInt8) : crc l < 4294967296 := Nat.xor_lt_two_pow (n := 32) (run_lt l (by omega)) (by omega)
theorem run_append (s : Nat) (a b : List UInt8) : run s (a ++ b) = run (run s a) b := by simp [run, List.foldl_append]
theorem run_snoc (s : Nat) (a : List UInt8) (b : UInt8) : run s (a ++ [b]) = byteStep (run s a) b.toNat := by simp [run]
theorem xor_cancel {a b : Nat} (h : a = a ^^^ b) : b = 0 := by
  have := congrArg (a ^^^ ·) h
  simp only [Nat.xor_self, ← Nat.xor_assoc, Nat.zero_xor] at this
  exact this.symm
/-- two lists alike but for two neighbours -/
theorem crc_two (a c : List UInt8) (x y d e : UInt8) (h : (d.toNat ^^^ 256 * e.toNat) ≠ 0) :
    crc (a ++ [x ^^^ d, y ^^^ e] ++ c) ≠ crc (a ++ [x, y] ++ c) := by
  have hs : ∀ s, run s [x ^^^ d, y ^^^ e] = run s [x, y] ^^^ steps 16 (d.toNat ^^^ 256 * e.toNat) := by
    intro s
    simp only [run, List.foldl_cons, List.foldl_nil, byteStep, UInt8.toNat_xor]
    have e1 : steps 8 (s ^^^ (x.toNat ^^^ d.toNat)) = steps 8 (s ^^^ x.toNat) ^^^ steps 8 d.toNat := by
      rw [← steps_xor, Nat.xor_assoc]
    have e2 : steps 16 (d.toNat ^^^ 256 * e.toNat) = steps 8 (steps 8 d.toNat ^^^ e.toNat) := by
      rw [steps_xor 16, show (256 : Nat) * e.toNat = 2 ^ 8 * e.toNat from rfl, steps_add 8 8 (2 ^ 8 * _), steps_pow, steps_add 8 8 d.toNat, ← steps_xor]
    rw [e1, e2]
    generalize steps 8 (s ^^^ x.toNat) = A
    generalize steps 8 d.toNat = D
    rw [← steps_xor]
    generalize y.toNat = Y
    generalize e.toNat = E
    exact congrArg (steps 8) (by ac_rfl)
  intro he
  unfold crc at he
  have he : run 0xffffffff (a ++ [x ^^^ d, y ^^^ e] ++ c) = run 0xffffffff (a ++ [x, y] ++ c) := by
    have := congrArg (· ^^^ 0xffffffff) he
    simpa [Nat.xor_assoc] using this
  rw [run_append, run_append, run_append _ (a ++ [x, y]), run_append, hs, run_xor] at he
  have hlt : (d.toNat ^^^ 256 * e.toNat) < 4294967296 := Nat.xor_lt_two_pow (n := 32) (by have := d.toNat_lt; omega) (by have := e.toNat_lt; omega)
  exact steps_ne _ (steps_lt 16 hlt) (steps_ne 16 hlt h) (xor_cancel he.symm)
theorem crc_one (a c : List UInt8) (x d : UInt8) (h : d ≠ 0) : crc (a ++ [x ^^^ d] ++ c) ≠ crc (a ++ [x] ++ c) := by
  have h0 : d.toNat ≠ 0 := fun e => h (UInt8.toNat_inj.1 (by simpa using e))
  have hs : ∀ s, run s [x ^^^ d] = run s [x] ^^^ steps 8 d.toNat := by
    intro s
    simp only [run, List.foldl_cons, List.foldl_nil, byteStep, UInt8.toNat_xor]
    rw [← steps_xor, Nat.xor_assoc]
  intro he
  unfold crc at he
  have he : run 0xffffffff (a ++ [x ^^^ d] ++ c) = run 0xffffffff (a ++ [x] ++ c) := by
    have := congrArg (· ^^^ 0xffffffff) he
    simpa [Nat.xor_assoc] using this
  rw [run_append, run_append, run_append _ (a ++ [x]), run_append, hs, run_xor] at he
  have hlt : d.toNat < 4294967296 := by have := d.toNat_lt; omega
  exact steps_ne _ (steps_lt 8 hlt) (steps_ne 8 hlt h0) (xor_cancel he.symm)
theorem crc_example : crc [49, 50, 51, 52, 53, 54, 55, 56, 57] = 0xcbf43926 := by decide +kernel
end Go.Proofs.YtapmbankpbiglaaGreatDoor.Frm
