/- Dictionaries, plain: where a word stands, and those that begin so. No number of a program stands here. -/
import Derived.Test.YteaghcgekaoimaaDictPlain
import Derived.Test.YteaghcgekaoimaaTabSPlain
namespace Go.Proofs.Yteaghcgekaoimaa
open Go
set_option linter.unusedVariables false

theorem leB_lt {x a : ByteArray} (h : leB x a = false) : ltB a x = true := by
  unfold leB at h
  simp only [Bool.or_eq_false_iff] at h
  cases h1 : ltB a x with
  | true => rfl
  | false =>
    have := lin_B.tot x a h.1 h1
    subst this
    have h2 := h.2
    simp at h2
theorem proper_next {l : List ByteArray} (hp : Proper l) {i : Nat} (hi : i + 1 < l.length) : ltB (l.getD i noW) (l.getD (i + 1) noW) = true := by
  have := hp (i + 1) hi
  simp only [okAt, goes, Bool.and_eq_true, Bool.not_eq_true', aheadOf_succ] at this
  exact leB_lt this.1
theorem proper_lt {l : List ByteArray} (hp : Proper l) {i : Nat} : ∀ (d : Nat), i + d + 1 < l.length → ltB (l.getD i noW) (l.getD (i + d + 1) noW) = true
  | 0, h => proper_next hp h
  | d + 1, h => lin_B.tr _ _ _ (proper_lt hp d (by omega)) (proper_next hp (i := i + d + 1) h)
theorem proper_rise {l : List ByteArray} (hp : Proper l) {i j : Nat} (h : i < j) (hj : j < l.length) : ltB (l.getD i noW) (l.getD j noW) = true := by
  obtain ⟨d, rfl⟩ : ∃ d, j = i + d + 1 := ⟨j - i - 1, by omega⟩
  exact proper_lt hp d hj
/-- what holds of the first ones alone -/
theorem cutN (q : Nat → Bool) : ∀ (n : Nat) (_ : ∀ i j, i < j → j < n → q j = true → q i = true), ∃ A, A ≤ n ∧ (∀ t, t < A → q t = true) ∧ ∀ t, A ≤ t → t < n → q t = false
  | 0, _ => ⟨0, Nat.le_refl _, fun t h => by omega, fun t _ h => by omega⟩
  | n + 1, h => by
    obtain ⟨A, h1, h2, h3⟩ := cutN q n fun i j hi hj => h i j hi (by omega)
    cases hq : q n with
    | true =>
      refine ⟨n + 1, Nat.le_refl _, fun t ht => ?_, fun t h1 h2 => by omega⟩
      rcases Nat.lt_or_ge t n with hl | hg
      · exact h t n hl (by omega) hq
      · obtain rfl : t = n := by omega
        exact hq
    | false =>
      refine ⟨A, by omega, h2, fun t ha ht => ?_⟩
      rcases Nat.lt_or_ge t n with hl | hg
      · exact h3 t ha hl
      · obtain rfl : t = n := by omega
        exact hq
/-- how many words are below one -/
structure Cut (l : List ByteArray) (x : ByteArray) (A : Nat) : Prop where
  le : A ≤ l.length
  yes : ∀ t, t < A → ltB (l.getD t noW) x = true
  no : ∀ t, A ≤ t → t < l.length → ltB (l.getD t noW) x = false
theorem cut_of {l : List ByteArray} (hp : Proper l) (x : ByteArray) : ∃ A, Cut l x A := by
  obtain ⟨A, h1, h2, h3⟩ := cutN (fun t => ltB (l.getD t noW) x) l.length fun i j hi hj hq => lin_B.tr _ _ _ (proper_rise hp hi hj) hq
  exact ⟨A, h1, h2, h3⟩
/-- is a word there? -/
theorem Cut.there {l : List ByteArray} {x : ByteArray} {A : Nat} (h : Cut l x A) (hp : Proper l) {t : Nat} (ht : t < l.length) (e : l.getD t noW = x) : t = A := by
  have h1 : A ≤ t := by
    rcases Nat.lt_or_ge t A with hl | hg
    · have := h.yes t hl
      rw [e, lin_B.irr] at this; cases this
    · exact hg
  rcases Nat.lt_or_ge A t with hl | hg
  · have h2 := proper_rise hp hl ht
    rw [e, h.no A (Nat.le_refl _) (by omega)] at h2; cases h2
  · omega

/-- does a text begin so? -/
def starts (y p : ByteArray) : Bool := decide (p.size ≤ y.size) && ((y.extract 0 p.size).toList == p.toList)
theorem starts_iff (y p : ByteArray) : starts y p = true ↔ p.data.toList <+: y.data.toList := by
  have e1 : (y.extract 0 p.size).toList = y.data.toList.take p.size := by
    rw [Lib.toList_data, ByteArray.data_extract, Array.toList_extract]
    simp [List.extract]
  have e2 : p.data.toList.length = p.size := Array.length_toList
  have e3 : y.data.toList.length = y.size := Array.length_toList
  simp only [starts, Bool.and_eq_true, decide_eq_true_eq, beq_iff_eq]
  rw [e1, Lib.toList_data, List.prefix_iff_eq_take, e2]
  constructor
  · rintro ⟨_, h⟩; exact h.symm
  · intro h
    refine ⟨?_, h.symm⟩
    have := congrArg List.length h
    rw [e2, List.length_take, e3] at this
    omega
theorem bl_pre : ∀ (p y : List UInt8), p <+: y → Op.bytesLess y p = false
  | [], y, _ => by cases y <;> simp [Op.bytesLess]
  | c :: p, [], h => by simp at h
  | c :: p, d :: y, h => by
    obtain ⟨rfl, h2⟩ := List.cons_prefix_cons.1 h
    simp [Op.bytesLess, bl_pre p y h2]
theorem bl_past : ∀ (p y z : List UInt8), Op.bytesLess y p = false → ¬ p <+: y → Op.bytesLess y z = true → ¬ p <+: z
  | [], y, z, _, h, _, _ => h List.nil_prefix
  | c :: p, [], z, h, _, _, _ => by simp [Op.bytesLess] at h
  | c :: p, d :: y, [], _, _, _, h => by simp at h
  | c :: p, d :: y, e :: z, h1, h2, h3, h => by
    obtain ⟨rfl, h4⟩ := List.cons_prefix_cons.1 h
    simp only [Op.bytesLess, Bool.or_eq_false_iff, Bool.and_eq_false_iff, Bool.or_eq_true, Bool.and_eq_true, decide_eq_true_eq, decide_eq_false_iff_not, beq_iff_eq, beq_eq_false_iff_ne] at h1 h3
    rcases h3 with h3 | ⟨rfl, h3⟩
    · exact h1.1 h3
    · have h5 : Op.bytesLess y p = false := by
        rcases h1.2 with h | h
        · exact absurd rfl h
        · exact h
      exact bl_past p y z h5 (fun h6 => h2 (List.cons_prefix_cons.2 ⟨rfl, h6⟩)) h3 h4
theorem starts_below {y p : ByteArray} (h : ltB y p = true) : starts y p = false := by
  cases hs : starts y p with
  | false => rfl
  | true =>
    have := bl_pre _ _ ((starts_iff y p).1 hs)
    unfold ltB at h
    rw [Lib.toList_data, Lib.toList_data, this] at h; cases h
theorem starts_past {y z p : ByteArray} (h1 : ltB y p = false) (h2 : starts y p = false) (h3 : ltB y z = true) : starts z p = false := by
  cases hs : starts z p with
  | false => rfl
  | true =>
    unfold ltB at h1 h3
    rw [Lib.toList_data, Lib.toList_data] at h1 h3
    exact absurd ((starts_iff z p).1 hs) (bl_past _ _ _ h1 (fun h => by rw [(starts_iff y p).2 h] at h2; cases h2) h3)
/-- how many begin so -/
structure Starts (l : List ByteArray) (x : ByteArray) (A M : Nat) : Prop where
  le : A + M ≤ l.length
  yes : ∀ t, t < M → starts (l.getD (A + t) noW) x = true
  no : ∀ t, M ≤ t → A + t < l.length → starts (l.getD (A + t) noW) x = false
theorem starts_of {l : List ByteArray} (hp : Proper l) {x : ByteArray} {A : Nat} (h : Cut l x A) : ∃ M, Starts l x A M := by
  obtain ⟨M, h1, h2, h3⟩ := cutN (fun t => starts (l.getD (A + t) noW) x) (l.length - A) fun i j hi hj hq => by
    cases hs : starts (l.getD (A + i) noW) x with
    | true => rfl
    | false =>
      have := starts_past (h.no (A + i) (by omega) (by omega)) hs (proper_rise hp (i := A + i) (j := A + j) (by omega) (by omega))
      have hq' : starts (l.getD (A + j) noW) x = true := hq
      rw [this] at hq'; cases hq'
  have := h.le
  exact ⟨M, by omega, h2, fun t ht hl => h3 t ht (by omega)⟩
/-- how many of the first j begin so -/
theorem Starts.upto {l : List ByteArray} {x : ByteArray} {A M j : Nat} (h : Starts l x A M) (hc : Cut l x A) (hj : j < l.length) : min (j + 1 - A) M = min (j - A) M + (if starts (l.getD j noW) x then 1 else 0) := by
  have hle := h.le
  rcases Nat.lt_or_ge j A with hl | hg
  · rw [starts_below (hc.yes j hl)]; simp; omega
  · obtain ⟨t, rfl⟩ : ∃ t, j = A + t := ⟨j - A, by omega⟩
    rcases Nat.lt_or_ge t M with hl | hg
    · rw [h.yes t hl]; simp; omega
    · rw [h.no t hg hj]; simp; omega
theorem Cut.upto {l : List ByteArray} {x : ByteArray} {A j : Nat} (h : Cut l x A) (hj : j < l.length) : min (j + 1) A = min j A + (if ltB (l.getD j noW) x then 1 else 0) := by
  rcases Nat.lt_or_ge j A with hl | hg
  · rw [h.yes j hl]; simp; omega
  · rw [h.no j hg hj]; simp; omega
end Go.Proofs.Yteaghcgekaoimaa
