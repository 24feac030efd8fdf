/- What holds of all words: plain. -/
import Derived.Test.YtldfomggeleolaaDoorTokParts
import Derived.Test.YtldfomggeleolaaDoorTokWords
namespace Go.Proofs.YtldfomggeleolaaDoor
open Go Go.RowKit
set_option linter.unusedVariables false

namespace Tok
open Utf
theorem word_lower (r : Int) : word (Fol.lower r) = word r := by unfold word; rw [Fol.letter_lower, Fol.digit_lower]
theorem word_pos {r : Int} (h : word r = true) : ¬ r < 0 := fun h2 => by rw [word_neg r h2] at h; cases h
theorem gt_part (s : ByteArray) (a e i : Nat) (h : a + i < e) (he : e ≤ s.size) : gt (s.extract a e) i = gt s (a + i) := by
  have hs : (s.extract a e).size = e - a := by rw [ByteArray.size_extract]; omega
  rw [← gt_at (s.extract a e) i (by omega), ← gt_at s (a + i) (by omega), ByteArray.getElem_extract]
/-- a word by itself: the same signs, all of words -/
theorem word_signs (s : ByteArray) (a e : Nat) (he : e ≤ s.size) : ∀ m p f, s.size ≤ p + m → a ≤ p → p ≤ e → sk s true p = e → (p < e → wd s p = true) → e ≤ p + f →
    vd (s.extract a e) f (p - a) = true ∧ ∀ r ∈ signs (s.extract a e) f (p - a), word r = true := by
  have hz : (s.extract a e).size = e - a := by rw [ByteArray.size_extract]; omega
  intro m
  induction m with
  | zero =>
    intro p f h1 h2 h3 h4 h5 h6
    have h7 : (s.extract a e).size ≤ p - a := by omega
    refine ⟨vd_end _ _ _ h7, fun r hr => ?_⟩
    cases f with
    | zero => simp [signs] at hr
    | succ f => rw [signs, if_neg (by omega)] at hr; simp at hr
  | succ m ih =>
    intro p f h1 h2 h3 h4 h5 h6
    by_cases hp : p < e
    · have hw := h5 hp
      have hpos := word_pos (show word (nx s p).1 = true from hw)
      have hok := ok_of s p hpos
      have hst := nx_step s p (by omega)
      have h7 : sk s true (p + (nx s p).2) = e := by rw [← sk_go (by omega) hw]; exact h4
      have h8 : p + (nx s p).2 ≤ e := by rw [← h7]; exact (sk_le (by omega)).1
      have hn : (nx s p).2 = led (gt s p) + 1 := by rw [nx_yes hok]
      have hx : nx (s.extract a e) (p - a) = nx s p := by
        have hg : ∀ i, p + i < e → gt (s.extract a e) (p - a + i) = gt s (p + i) := fun i hi => by rw [gt_part s a e _ (by omega) he]; congr 1; omega
        have g0 := hg 0 (by omega)
        rw [Nat.add_zero, Nat.add_zero] at g0
        refine nx_same g0 (fun i hi => ?_) ?_
        · rw [g0] at hi
          have := hg (1 + i) (by omega)
          rw [show p - a + 1 + i = p - a + (1 + i) from by omega, show p + 1 + i = p + (1 + i) from by omega]; exact this
        · rw [g0, hz]; constructor <;> intro <;> omega
      have h9 : p + (nx s p).2 < e → wd s (p + (nx s p).2) = true := fun h10 => by
        by_cases h11 : wd s (p + (nx s p).2) = true
        · exact h11
        · rw [sk_no h11] at h7; omega
      obtain ⟨i1, i2⟩ := ih (p + (nx s p).2) (f - 1) (by omega) (by omega) h8 h7 h9 (by omega)
      have e1 : p - a + (nx (s.extract a e) (p - a)).2 = p + (nx s p).2 - a := by rw [hx]; omega
      refine ⟨?_, ?_⟩
      · rw [vd_step _ _ _ (by omega) (by omega) (by rw [hx]; exact hpos), e1]; exact i1
      · cases f with
        | zero => omega
        | succ f =>
          rw [signs, if_pos (by omega), e1]
          intro r hr
          rcases List.mem_cons.1 hr with rfl | hr
          · rw [hx]; exact hw
          · exact i2 r hr
    · have h7 : (s.extract a e).size ≤ p - a := by omega
      refine ⟨vd_end _ _ _ h7, fun r hr => ?_⟩
      cases f with
      | zero => simp [signs] at hr
      | succ f => rw [signs, if_neg (by omega)] at hr; simp at hr
theorem made_sk (X : ByteArray) : ∀ (ys : List Int) (b : List UInt8), X = ⟨(b ++ ys.flatMap enc).toArray⟩ → (∀ r ∈ ys, sg r = true ∧ word r = true) → sk X true b.length = X.size := by
  intro ys
  induction ys with
  | nil =>
    intro b hX _
    have hz : X.size = b.length := by rw [hX]; show (b ++ ([] : List Int).flatMap enc).toArray.size = _; simp
    rw [sk_end (by omega), hz]
  | cons y ys ih =>
    intro b hX hs
    obtain ⟨hy, hyw⟩ := hs y (by simp)
    rw [List.flatMap_cons] at hX
    obtain ⟨f1, f2⟩ := found3 b (ys.flatMap enc) y hy
    have hle : (enc y).length = sh y + 1 := by unfold enc; rw [hy]; exact encK_len _ _
    have hz : X.size = b.length + (enc y).length + (ys.flatMap enc).length := by
      rw [hX]; show (b ++ (enc y ++ ys.flatMap enc)).toArray.size = _
      simp; omega
    rw [← hX] at f1
    have h1 := ih (b ++ enc y) (by rw [hX, List.append_assoc]) (fun r hr => hs r (by simp [hr]))
    rw [sk_go (by omega) (by unfold Tok.wd; rw [f1]; exact hyw), f1]
    rw [List.length_append, hle] at h1
    exact h1
/-- a word's term is a word, and stays as it is with small letters -/
theorem term_word (s : ByteArray) (x : Nat × Nat) (h : x ∈ spans s) : single (term s x) = true ∧ (⟨(Utf.ft (term s x) (term s x).size 0).toArray⟩ : ByteArray) = term s x := by
  rw [spans_pcs] at h
  obtain ⟨y, hy, rfl⟩ := List.mem_map.1 h
  obtain ⟨hy1, hy2⟩ := List.mem_filter.1 hy
  have key : ∀ f p, s.size ≤ p + f → p ≤ s.size → ∀ y ∈ pcF s f p, y.2.2 = true → y.1 < y.2.1 ∧ y.2.1 ≤ s.size ∧ sk s true y.1 = y.2.1 ∧ wd s y.1 = true := by
    intro f
    induction f with
    | zero => intro p _ _ y hy; simp [pcF] at hy
    | succ f ih =>
      intro p h1 h2 y hy hw
      by_cases hp : p < s.size
      · rw [pc_step s _ p hp h1, Nat.add_sub_cancel] at hy
        have h3 := sk_gt hp rfl
        have h4 := sk_le (b := wd s p) h2
        rcases List.mem_cons.1 hy with rfl | hy
        · have hw' : wd s p = true := hw
          refine ⟨h3, h4.2, ?_, hw'⟩
          show sk s true p = sk s (wd s p) p
          rw [hw']
        · exact ih _ (by omega) h4.2 y hy hw
      · rw [pc_end s _ p (by omega)] at hy; simp at hy
  obtain ⟨k1, k2, k3, k4⟩ := key s.size 0 (by omega) (Nat.zero_le _) y hy1 (by simpa using hy2)
  obtain ⟨a, e, b⟩ := y
  simp only at k1 k2 k3 k4
  have hz : (s.extract a e).size = e - a := by rw [ByteArray.size_extract]; omega
  obtain ⟨v1, v2⟩ := word_signs s a e k2 s.size a (s.extract a e).size (by omega) (Nat.le_refl _) (by omega) k3 (fun _ => k4) (by omega)
  rw [Nat.sub_self] at v1 v2
  obtain ⟨w1, w2⟩ := signs_valid (s.extract a e) (s.extract a e).size 0 (by omega) v1
  have hag := Utf.again (s.extract a e) v1 _ rfl
  refine ⟨?_, hag.2.2⟩
  have hT : term s (two (a, e, b)) = ⟨([] ++ ((signs (s.extract a e) (s.extract a e).size 0).map Fol.lower).flatMap enc).toArray⟩ := by
    unfold term two
    rw [List.nil_append, ← w2]
  have hall : ∀ r ∈ (signs (s.extract a e) (s.extract a e).size 0).map Fol.lower, sg r = true ∧ word r = true := by
    intro r hr
    obtain ⟨q, hq, rfl⟩ := List.mem_map.1 hr
    refine ⟨?_, by rw [word_lower]; exact v2 q hq⟩
    have h4 := w1 q hq
    unfold sg at h4 ⊢
    simp only [decide_eq_true_eq] at h4 ⊢
    exact Fol.sign_lower q h4
  have hsk := made_sk _ _ [] hT hall
  have hsome := term_some s (two (a, e, b)) k1 k2
  have hw0 : wd (term s (two (a, e, b))) 0 = true := by
    by_cases h0 : wd (term s (two (a, e, b))) 0 = true
    · exact h0
    · rw [List.length_nil, sk_no h0] at hsk; omega
  exact decide_eq_true ⟨by omega, hw0, hsk⟩
end Tok
end Go.Proofs.YtldfomggeleolaaDoor
