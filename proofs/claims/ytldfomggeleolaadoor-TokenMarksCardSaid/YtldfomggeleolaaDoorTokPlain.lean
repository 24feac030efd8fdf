/- Words of a text: plain. -/
import Derived.Test.YtldfomggeleolaaDoorFoldTexts
namespace Go.Proofs.YtldfomggeleolaaDoor
open Go Go.RowKit
set_option linter.unusedVariables false

namespace Tok
open Utf
/-- does a sign of words begin at p? -/
def wd (s : ByteArray) (p : Nat) : Bool := word (nx s p).1
def skF (s : ByteArray) (b : Bool) : Nat → Nat → Nat
  | 0, p => p
  | f + 1, p => if p < s.size ∧ wd s p = b then skF s b f (p + (nx s p).2) else p
theorem skF_end (s : ByteArray) (b : Bool) (f p : Nat) (h : s.size ≤ p) : skF s b f p = p := by
  cases f with
  | zero => rfl
  | succ f => rw [skF, if_neg (by omega)]
theorem skF_fuel (s : ByteArray) (b : Bool) : ∀ f g p, s.size ≤ p + f → s.size ≤ p + g → skF s b f p = skF s b g p := by
  intro f
  induction f with
  | zero => intro g p h1 h2; rw [skF_end s b 0 p (by omega), skF_end s b g p (by omega)]
  | succ f ih =>
    intro g p h1 h2
    by_cases hp : p < s.size
    · cases g with
      | zero => omega
      | succ g =>
        rw [skF, skF]
        have := nx_step s p hp
        split
        · exact ih g _ (by omega) (by omega)
        · rfl
    · rw [skF_end s b _ p (by omega), skF_end s b g p (by omega)]
/-- behind all from p on that is of words (b), or is not -/
def sk (s : ByteArray) (b : Bool) (p : Nat) : Nat := skF s b s.size p
theorem sk_go {s : ByteArray} {b : Bool} {p : Nat} (h : p < s.size) (hb : wd s p = b) : sk s b p = sk s b (p + (nx s p).2) := by
  unfold sk
  obtain ⟨n, hn⟩ : ∃ n, s.size = n + 1 := ⟨s.size - 1, by omega⟩
  have := nx_step s p h
  rw [skF_fuel s b s.size (n + 1) p (by omega) (by omega), skF, if_pos ⟨h, hb⟩]
  exact skF_fuel s b _ _ _ (by omega) (by omega)
theorem sk_no {s : ByteArray} {b : Bool} {p : Nat} (hb : wd s p ≠ b) : sk s b p = p := by
  unfold sk
  cases s.size with
  | zero => rfl
  | succ n => rw [skF, if_neg (fun h => hb h.2)]
theorem sk_end {s : ByteArray} {b : Bool} {p : Nat} (h : s.size ≤ p) : sk s b p = p := skF_end s b _ p h
theorem sk_in (s : ByteArray) (b : Bool) : ∀ m p, s.size ≤ p + m → p ≤ s.size → p ≤ sk s b p ∧ sk s b p ≤ s.size ∧ (sk s b p < s.size → wd s (sk s b p) = !b) ∧ sk s b (sk s b p) = sk s b p := by
  intro m
  induction m with
  | zero => intro p h1 h2; rw [sk_end (by omega), sk_end (by omega)]; exact ⟨Nat.le_refl _, h2, fun h => by omega, rfl⟩
  | succ m ih =>
    intro p h1 h2
    by_cases hp : p < s.size
    · by_cases hb : wd s p = b
      · have := nx_step s p hp
        rw [sk_go hp hb]
        obtain ⟨i1, i2, i3, i4⟩ := ih (p + (nx s p).2) (by omega) (by omega)
        exact ⟨by omega, i2, i3, i4⟩
      · rw [sk_no hb, sk_no hb]
        exact ⟨Nat.le_refl _, h2, fun _ => by revert hb; cases wd s p <;> cases b <;> simp, rfl⟩
    · rw [sk_end (by omega), sk_end (by omega)]; exact ⟨Nat.le_refl _, h2, fun h => by omega, rfl⟩
theorem sk_le {s : ByteArray} {b : Bool} {p : Nat} (h : p ≤ s.size) : p ≤ sk s b p ∧ sk s b p ≤ s.size := ⟨(sk_in s b s.size p (by omega) h).1, (sk_in s b s.size p (by omega) h).2.1⟩
theorem sk_stop {s : ByteArray} {b : Bool} {p : Nat} (h : p ≤ s.size) (hl : sk s b p < s.size) : wd s (sk s b p) = !b := (sk_in s b s.size p (by omega) h).2.2.1 hl
theorem sk_sk {s : ByteArray} {b : Bool} {p : Nat} (h : p ≤ s.size) : sk s b (sk s b p) = sk s b p := (sk_in s b s.size p (by omega) h).2.2.2
theorem sk_gt {s : ByteArray} {b : Bool} {p : Nat} (h : p < s.size) (hb : wd s p = b) : p < sk s b p := by
  have h1 := nx_step s p h
  rw [sk_go h hb]
  have := (sk_le (s := s) (b := b) (p := p + (nx s p).2) (by omega)).1
  omega

/-- where words stand, from p on -/
def spF (s : ByteArray) : Nat → Nat → List (Nat × Nat)
  | 0, _ => []
  | f + 1, p => if sk s false p < sk s true (sk s false p) then (sk s false p, sk s true (sk s false p)) :: spF s f (sk s true (sk s false p)) else []
def spans (s : ByteArray) : List (Nat × Nat) := spF s s.size 0
/-- words, and what stands between, from p on -/
def pcF (s : ByteArray) : Nat → Nat → List (Nat × Nat × Bool)
  | 0, _ => []
  | f + 1, p => if p < s.size then (p, sk s (wd s p) p, wd s p) :: pcF s f (sk s (wd s p) p) else []
def pcs (s : ByteArray) : List (Nat × Nat × Bool) := pcF s s.size 0
theorem pc_end (s : ByteArray) (f p : Nat) (h : s.size ≤ p) : pcF s f p = [] := by
  cases f with
  | zero => rfl
  | succ f => rw [pcF, if_neg (by omega)]
theorem pc_step (s : ByteArray) (f p : Nat) (h : p < s.size) (hf : s.size ≤ p + f) : pcF s f p = (p, sk s (wd s p) p, wd s p) :: pcF s (f - 1) (sk s (wd s p) p) := by
  cases f with
  | zero => omega
  | succ f => rw [pcF, if_pos h]; rfl
theorem pc_fuel (s : ByteArray) : ∀ f g p, s.size ≤ p + f → s.size ≤ p + g → pcF s f p = pcF s g p := by
  intro f
  induction f with
  | zero => intro g p h1 h2; rw [pc_end s 0 p (by omega), pc_end s g p (by omega)]
  | succ f ih =>
    intro g p h1 h2
    by_cases hp : p < s.size
    · rw [pc_step s _ p hp h1, pc_step s g p hp h2, Nat.add_sub_cancel]
      have := sk_gt hp rfl
      rw [ih (g - 1) _ (by omega) (by omega)]
    · rw [pc_end s _ p (by omega), pc_end s g p (by omega)]
/-- there is a word behind p just if one begins behind what is of none -/
theorem sp_lt {s : ByteArray} {p : Nat} (h : p ≤ s.size) : sk s false p < sk s true (sk s false p) ↔ sk s false p < s.size := by
  have h1 := sk_le (b := false) h
  constructor
  · intro h2
    have := (sk_le (b := true) h1.2).2
    omega
  · intro h2
    exact sk_gt h2 (sk_stop h h2)
theorem sp_step (s : ByteArray) (f p : Nat) (hp : p ≤ s.size) (h : sk s false p < s.size) (hf : s.size ≤ p + f) : spF s f p = (sk s false p, sk s true (sk s false p)) :: spF s (f - 1) (sk s true (sk s false p)) := by
  cases f with
  | zero => have := sk_le (b := false) hp; omega
  | succ f => rw [spF, if_pos ((sp_lt hp).2 h)]; rfl
theorem sp_end (s : ByteArray) (f p : Nat) (hp : p ≤ s.size) (h : ¬ sk s false p < s.size) : spF s f p = [] := by
  cases f with
  | zero => rfl
  | succ f => rw [spF, if_neg (fun x => h ((sp_lt hp).1 x))]
theorem sp_skip (s : ByteArray) (f p : Nat) (hp : p ≤ s.size) : spF s f (sk s false p) = spF s f p := by
  cases f with
  | zero => rfl
  | succ f => rw [spF, spF, sk_sk hp]
/-- words are the pieces that are words -/
def two (x : Nat × Nat × Bool) : Nat × Nat := (x.1, x.2.1)
theorem sp_pc (s : ByteArray) : ∀ m f g p, s.size ≤ p + m → p ≤ s.size → s.size ≤ p + f → s.size ≤ p + g → spF s f p = ((pcF s g p).filter (·.2.2)).map two := by
  intro m
  induction m with
  | zero =>
    intro f g p h1 h2 h3 h4
    rw [pc_end s g p (by omega), sp_end s f p h2 (by rw [sk_end (by omega)]; omega)]; rfl
  | succ m ih =>
    intro f g p h1 h2 h3 h4
    by_cases hp : p < s.size
    · rw [pc_step s g p hp h4]
      cases hb : wd s p with
      | true =>
        have h5 : sk s false p = p := sk_no (by rw [hb]; decide)
        have h6 := sk_gt hp hb
        have h7 := sk_le (b := true) h2
        rw [sp_step s f p h2 (by rw [h5]; exact hp) h3, h5, List.filter_cons_of_pos (by rfl), List.map_cons, ih (f - 1) (g - 1) _ (by omega) h7.2 (by omega) (by omega)]
        rfl
      | false =>
        have h6 := sk_gt hp hb
        have h7 := sk_le (b := false) h2
        rw [List.filter_cons_of_neg (by simp), ← ih f (g - 1) _ (by omega) h7.2 (by omega) (by omega), sp_skip s f p h2]
    · rw [pc_end s g p (by omega), sp_end s f p h2 (by rw [sk_end (by omega)]; omega)]; rfl
theorem spans_pcs (s : ByteArray) : spans s = ((pcs s).filter (·.2.2)).map two := sp_pc s s.size s.size s.size 0 (by omega) (Nat.zero_le _) (by omega) (by omega)
/-- each stands within the text -/
theorem pc_in (s : ByteArray) : ∀ f p, s.size ≤ p + f → p ≤ s.size → (pcF s f p).length + p ≤ s.size ∧ ∀ x ∈ pcF s f p, p ≤ x.1 ∧ x.1 < x.2.1 ∧ x.2.1 ≤ s.size := by
  intro f
  induction f with
  | zero => intro p _ h; exact ⟨by simpa [pcF] using h, fun x hx => by simp [pcF] at hx⟩
  | succ f ih =>
    intro p h1 h2
    by_cases hp : p < s.size
    · have h3 := sk_gt hp rfl
      have h4 := sk_le (b := wd s p) h2
      obtain ⟨i1, i2⟩ := ih (sk s (wd s p) p) (by omega) h4.2
      rw [pc_step s _ p hp h1, Nat.add_sub_cancel]
      refine ⟨by rw [List.length_cons]; omega, fun x hx => ?_⟩
      rcases List.mem_cons.1 hx with rfl | hx
      · exact ⟨Nat.le_refl _, h3, h4.2⟩
      · have := i2 x hx; omega
    · rw [pc_end s _ p (by omega)]
      exact ⟨by simpa using h2, fun x hx => by simp at hx⟩
theorem sp_in (s : ByteArray) : (spans s).length ≤ s.size ∧ ∀ x ∈ spans s, x.1 < x.2 ∧ x.2 ≤ s.size := by
  obtain ⟨h1, h2⟩ := pc_in s s.size 0 (by omega) (Nat.zero_le _)
  rw [spans_pcs]
  refine ⟨?_, fun x hx => ?_⟩
  · rw [List.length_map]
    have := List.length_filter_le (fun x : Nat × Nat × Bool => x.2.2) (pcs s)
    unfold pcs at this ⊢
    omega
  · obtain ⟨y, hy, rfl⟩ := List.mem_map.1 hx
    have := h2 y (List.mem_filter.1 hy).1
    exact ⟨this.2.1, this.2.2⟩
/-- with numbers -/
def num {α : Type} : Nat → List α → List (Nat × α)
  | _, [] => []
  | k, x :: l => (k, x) :: num (k + 1) l
theorem num_len {α : Type} : ∀ (k : Nat) (l : List α), (num k l).length = l.length
  | _, [] => rfl
  | k, _ :: l => by simp [num, num_len (k + 1) l]
theorem num_get {α : Type} : ∀ (k i : Nat) (l : List α) (h : i < l.length), (num k l)[i]? = some (k + i, l[i])
  | k, 0, x :: l, _ => rfl
  | k, i + 1, x :: l, h => by
    rw [num, List.getElem?_cons_succ, num_get (k + 1) i l (by simpa using h)]
    simp; omega
theorem num_snd {α : Type} : ∀ (k : Nat) (l : List α), (num k l).map (·.2) = l
  | _, [] => rfl
  | k, x :: l => by simp [num, num_snd (k + 1) l]
end Tok
end Go.Proofs.YtldfomggeleolaaDoor
