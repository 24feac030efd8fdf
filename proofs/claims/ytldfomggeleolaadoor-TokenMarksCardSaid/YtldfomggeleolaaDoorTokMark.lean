/- A text with marks: plain. -/
import Derived.Test.YtldfomggeleolaaDoorTokRef3
namespace Go.Proofs.YtldfomggeleolaaDoor
open Go Go.RowKit
set_option linter.unusedVariables false

namespace Tok
open Utf
def by_ (s : ByteArray) (a e : Nat) : List UInt8 := (s.extract a e).data.toList
theorem by_join (s : ByteArray) (a p e : Nat) (h1 : a ≤ p) (h2 : p ≤ e) : by_ s a p ++ by_ s p e = by_ s a e := by
  unfold by_
  rw [← text_join s a p e h1 h2, ByteArray.data_append, Array.toList_append]
theorem by_nil (s : ByteArray) (p : Nat) : by_ s p p = [] := by
  unfold by_
  have : (s.extract p p).size = 0 := by rw [ByteArray.size_extract]; omega
  exact List.eq_nil_of_length_eq_zero (by rw [Array.length_toList]; exact this)
theorem by_len (s : ByteArray) (a e : Nat) (h : e ≤ s.size) : (by_ s a e).length = e - a := by
  unfold by_
  rw [Array.length_toList]
  have : (s.extract a e).size = e - a := by rw [ByteArray.size_extract]; omega
  exact this
theorem by_all (s : ByteArray) : by_ s 0 s.size = s.data.toList := by
  unfold by_
  have : s.extract 0 s.size = s := by
    apply ByteArray.ext
    rw [ByteArray.data_extract]
    exact Array.extract_size
  rw [this]
section
variable (s : ByteArray) (H : Nat × Nat → Bool) (B E : List UInt8)
/-- what was told up to where, and what has been written -/
def stepM (st : Nat × List UInt8) (x : Nat × Nat) : Nat × List UInt8 := if H x then (x.2, st.2 ++ (by_ s st.1 x.1 ++ B ++ by_ s x.1 x.2 ++ E)) else st
def marked : List UInt8 := ((spans s).foldl (stepM s H B E) (0, [])).2 ++ by_ s ((spans s).foldl (stepM s H B E) (0, [])).1 s.size
def stepR (out : List UInt8) (y : Nat × Nat × Bool) : List UInt8 := if y.2.2 && H (y.1, y.2.1) then out ++ B ++ by_ s y.1 y.2.1 ++ E else out ++ by_ s y.1 y.2.1
theorem mark_pc : ∀ f p (st : Nat × List UInt8), s.size ≤ p + f → p ≤ s.size → st.1 ≤ p →
    ((ws (pcF s f p)).foldl (stepM s H B E) st).2 ++ by_ s ((ws (pcF s f p)).foldl (stepM s H B E) st).1 s.size = (pcF s f p).foldl (stepR s H B E) (st.2 ++ by_ s st.1 p) := by
  intro f
  induction f with
  | zero =>
    intro p st h1 h2 h3
    obtain rfl : p = s.size := by omega
    rfl
  | succ f ih =>
    intro p st h1 h2 h3
    by_cases hp : p < s.size
    · have hg := sk_gt hp rfl
      have hl := (sk_le (b := wd s p) h2).2
      rw [pc_step s _ p hp h1, Nat.add_sub_cancel, List.foldl_cons]
      obtain ⟨q, hq⟩ : ∃ q, q = sk s (wd s p) p := ⟨_, rfl⟩
      rw [← hq] at hg hl ⊢
      cases hw : wd s p with
      | false =>
        rw [ws_no, ih q st (by omega) hl (by omega)]
        congr 1
        unfold stepR
        rw [if_neg (by simp), List.append_assoc, by_join s st.1 p q h3 (by omega)]
      | true =>
        rw [ws_yes, List.foldl_cons]
        by_cases hh : H (p, q) = true
        · have e1 : stepM s H B E st (p, q) = (q, st.2 ++ (by_ s st.1 p ++ B ++ by_ s p q ++ E)) := if_pos hh
          rw [e1, ih q _ (by omega) hl (Nat.le_refl _)]
          congr 1
          unfold stepR
          rw [if_pos (by simp [hh]), by_nil]
          simp
        · have e1 : stepM s H B E st (p, q) = st := if_neg hh
          rw [e1, ih q st (by omega) hl (by omega)]
          congr 1
          unfold stepR
          rw [if_neg (by simp [hh]), List.append_assoc, by_join s st.1 p q h3 (by omega)]
    · obtain rfl : p = s.size := by omega
      rw [pc_end s _ _ (Nat.le_refl _)]
      rfl
theorem marked_ref : marked s H B E = (pcs s).foldl (stepR s H B E) [] := by
  have h := mark_pc s H B E s.size 0 (0, []) (by omega) (Nat.zero_le _) (Nat.le_refl _)
  rw [by_nil] at h
  unfold marked pcs
  rw [spans_pcs]
  exact h
end
theorem bare_pc (s : ByteArray) (H : Nat × Nat → Bool) : ∀ f p, s.size ≤ p + f → p ≤ s.size → (pcF s f p).foldl (stepR s H [] []) (by_ s 0 p) = by_ s 0 s.size := by
  intro f
  induction f with
  | zero =>
    intro p h1 h2
    obtain rfl : p = s.size := by omega
    rfl
  | succ f ih =>
    intro p h1 h2
    by_cases hp : p < s.size
    · have hg := sk_gt hp rfl
      have hl := (sk_le (b := wd s p) h2).2
      rw [pc_step s _ p hp h1, Nat.add_sub_cancel, List.foldl_cons]
      have e : stepR s H [] [] (by_ s 0 p) (p, sk s (wd s p) p, wd s p) = by_ s 0 (sk s (wd s p) p) := by
        unfold stepR
        split
        · rw [List.append_nil, List.append_nil]; exact by_join s 0 p _ (Nat.zero_le _) (Nat.le_of_lt hg)
        · exact by_join s 0 p _ (Nat.zero_le _) (Nat.le_of_lt hg)
      rw [e, ih _ (by omega) hl]
    · obtain rfl : p = s.size := by omega
      rw [pc_end s _ _ (Nat.le_refl _)]
      rfl
/-- without marks it is the text -/
theorem marked_bare (s : ByteArray) (H : Nat × Nat → Bool) : (⟨(marked s H [] []).toArray⟩ : ByteArray) = s := by
  have h := bare_pc s H s.size 0 (by omega) (Nat.zero_le _)
  rw [by_nil, by_all] at h
  rw [marked_ref]
  unfold pcs
  rw [h]
/-- what has been told ends ahead of the next word -/
theorem told_le (s : ByteArray) (H : Nat × Nat → Bool) (B E : List UInt8) : ∀ f p (st : Nat × List UInt8) (l r : List (Nat × Nat)) (x : Nat × Nat), s.size ≤ p + f → p ≤ s.size → st.1 ≤ p → spF s f p = l ++ x :: r → (l.foldl (stepM s H B E) st).1 ≤ x.1 := by
  intro f
  induction f with
  | zero => intro p st l r x _ _ _ h; simp [spF] at h
  | succ f ih =>
    intro p st l r x h1 h2 h3 h
    have l1 := sk_le (s := s) (b := false) h2
    by_cases hlt : sk s false p < s.size
    · have l2 := sk_le (s := s) (b := true) l1.2
      have l3 := (sp_lt h2).2 hlt
      rw [sp_step s _ p h2 hlt h1, Nat.add_sub_cancel] at h
      cases l with
      | nil =>
        rw [List.nil_append] at h
        injection h with h4 _
        subst h4
        show st.1 ≤ sk s false p
        omega
      | cons y l =>
        rw [List.cons_append] at h
        injection h with h4 h5
        subst h4
        rw [List.foldl_cons]
        refine ih _ _ l r x (by omega) l2.2 ?_ h5
        unfold stepM
        split
        · exact Nat.le_refl _
        · omega
    · rw [sp_end s _ p h2 hlt] at h
      simp at h
theorem told_next (s : ByteArray) (H : Nat × Nat → Bool) (B E : List UInt8) (l : List (Nat × Nat)) (x : Nat × Nat) (h : (l ++ [x]) <+: spans s) : (l.foldl (stepM s H B E) (0, [])).1 ≤ x.1 := by
  obtain ⟨r, hr⟩ := h
  exact told_le s H B E s.size 0 (0, []) l r x (by omega) (Nat.zero_le _) (Nat.le_refl _) (by rw [List.append_assoc] at hr; exact hr.symm)
/-- how long it gets -/
theorem step_len (s : ByteArray) (H : Nat × Nat → Bool) (B E : List UInt8) (hB : B.length ≤ 20) (hE : E.length ≤ 20) : ∀ (l : List (Nat × Nat)) (st : Nat × List UInt8), (∀ x ∈ l, x.1 < x.2 ∧ x.2 ≤ s.size) → st.1 ≤ s.size →
    (l.foldl (stepM s H B E) st).1 ≤ s.size ∧ (l.foldl (stepM s H B E) st).2.length ≤ st.2.length + l.length * (2 * s.size + 40) := by
  intro l
  induction l with
  | nil => intro st _ h; exact ⟨h, by simp⟩
  | cons x l ih =>
    intro st h h2
    have hx := h x (by simp)
    rw [List.foldl_cons]
    have key : (stepM s H B E st x).1 ≤ s.size ∧ (stepM s H B E st x).2.length ≤ st.2.length + (2 * s.size + 40) := by
      unfold stepM
      split
      · refine ⟨hx.2, ?_⟩
        simp only [List.length_append]
        rw [by_len s _ _ (by omega), by_len s _ _ hx.2]
        omega
      · exact ⟨h2, by omega⟩
    obtain ⟨i1, i2⟩ := ih _ (fun y hy => h y (by simp [hy])) key.1
    refine ⟨i1, ?_⟩
    rw [List.length_cons, Nat.add_mul]
    omega
end Tok
end Go.Proofs.YtldfomggeleolaaDoor
