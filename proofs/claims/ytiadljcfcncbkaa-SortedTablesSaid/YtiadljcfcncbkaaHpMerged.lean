/- sorted's Merge, plain: lists in order become one in order, those that stand alike as they stood. -/
import Derived.Test.YtiadljcfcncbkaaHpOrder
import Derived.Test.YtiadljcfcncbkaaHpRun
import Derived.Test.YtiadljcfcncbkaaSrtSort
namespace Go.Proofs.Ytiadljcfcncbkaa
open Hp
set_option linter.unusedVariables false

theorem key10_range (a : Int) : 0 ≤ key10 a ∧ key10 a < 10 := by
  have h1 : a.tmod 10 < 10 := Int.tmod_lt_of_pos a (by omega)
  have h2 : -10 < a.tmod 10 := by
    have := Int.tmod_lt_of_pos (-a) (show (0 : Int) < 10 by omega)
    rw [Int.neg_tmod] at this
    omega
  have h3 : (a.tmod 10 + 10).tmod 10 = (a.tmod 10 + 10) % 10 := Int.tmod_eq_emod_of_nonneg (by omega)
  unfold key10
  rw [h3]
  omega
theorem mem_sortTo (l : List Int) (x : Int) : ∀ k, x ∈ sortTo l k ↔ x ∈ l ∧ key10 x < (k : Int)
  | 0 => by
    have := (key10_range x).1
    simp [sortTo]; intro _; omega
  | k + 1 => by
    rw [sortTo, List.mem_append, mem_sortTo l x k]
    unfold ofKey
    rw [List.mem_filter, decide_eq_true_eq]
    constructor
    · rintro (⟨h1, h2⟩ | ⟨h1, h2⟩)
      · exact ⟨h1, by omega⟩
      · exact ⟨h1, by omega⟩
    · rintro ⟨h1, h2⟩
      by_cases e : key10 x = (k : Int)
      · exact .inr ⟨h1, e⟩
      · exact .inl ⟨h1, by omega⟩
theorem mem_sortK (l : List Int) (x : Int) : x ∈ sortK l ↔ x ∈ l := by
  unfold sortK
  rw [mem_sortTo]
  exact ⟨fun h => h.1, fun h => ⟨h, (key10_range x).2⟩⟩
theorem sortTo_sorted (l : List Int) : ∀ k, (sortTo l k).Pairwise fun a b => key10 a ≤ key10 b
  | 0 => List.Pairwise.nil
  | k + 1 => by
    rw [sortTo, List.pairwise_append]
    refine ⟨sortTo_sorted l k, ?_, fun a ha b hb => ?_⟩
    · refine List.Pairwise.imp_of_mem (R := fun _ _ => True) (fun {a b} ha hb _ => ?_) (List.pairwise_of_forall fun _ _ => trivial)
      unfold ofKey at ha hb
      have h1 := (List.mem_filter.1 ha).2; have h2 := (List.mem_filter.1 hb).2
      simp only [decide_eq_true_eq] at h1 h2
      omega
    · have h1 := ((mem_sortTo l a k).1 ha).2
      unfold ofKey at hb
      have h2 := (List.mem_filter.1 hb).2
      simp only [decide_eq_true_eq] at h2
      omega
theorem sortTo_perm (l : List Int) (k : Nat) : (sortTo l k).Perm (l.filter fun x => decide (key10 x < (k : Int))) := by
  induction k with
  | zero =>
    have : l.filter (fun x => decide (key10 x < ((0 : Nat) : Int))) = [] := List.filter_eq_nil_iff.2 fun x _ => by have := (key10_range x).1; simp; omega
    rw [this]; exact List.Perm.refl _
  | succ k ih =>
    rw [sortTo]
    refine (List.Perm.append_right _ ih).trans ?_
    unfold ofKey
    clear ih
    induction l with
    | nil => exact List.Perm.refl _
    | cons a l ih =>
      simp only [List.filter_cons]
      by_cases h1 : key10 a < (k : Int)
      · rw [if_pos (by simpa using h1), if_neg (by simp; omega), if_pos (by simp; omega)]
        exact List.Perm.cons _ ih
      · by_cases h2 : key10 a = (k : Int)
        · rw [if_neg (by simpa using h1), if_pos (by simpa using h2), if_pos (by simp; omega)]
          exact List.perm_middle.trans (List.Perm.cons _ ih)
        · rw [if_neg (by simpa using h1), if_neg (by simpa using h2), if_neg (by simp; omega)]
          exact ih
theorem sortK_perm (l : List Int) : (sortK l).Perm l := by
  have h := sortTo_perm l 10
  rwa [List.filter_eq_self.2 (fun x _ => by have := (key10_range x).2; simp; omega)] at h
theorem sortK_len (l : List Int) : (sortK l).length = l.length := (sortK_perm l).length_eq
/-- one of the least key that stands ahead of its like is the first -/
theorem sortTo_first (A B : List Int) (x : Int) (hA : ∀ y ∈ A, key10 x < key10 y) (hB : ∀ y ∈ B, key10 x ≤ key10 y) : ∀ k : Nat, sortTo (A ++ x :: B) k = if (k : Int) ≤ key10 x then [] else x :: sortTo (A ++ B) k
  | 0 => by rw [if_pos (by have := (key10_range x).1; omega)]; rfl
  | k + 1 => by
    rw [sortTo, sortTo_first A B x hA hB k]
    have e0 : ∀ k : Nat, (k : Int) ≤ key10 x → sortTo (A ++ B) k = [] := fun k h => by
      refine List.eq_nil_iff_forall_not_mem.2 fun y hy => ?_
      obtain ⟨h1, h2⟩ := (mem_sortTo _ y k).1 hy
      rcases List.mem_append.1 h1 with h1 | h1
      · have := hA y h1; omega
      · have := hB y h1; omega
    by_cases h1 : (k : Int) < key10 x
    · rw [if_pos (by omega), if_pos (by omega)]
      refine List.eq_nil_iff_forall_not_mem.2 fun y hy => ?_
      unfold ofKey at hy
      obtain ⟨h2, h3⟩ := List.mem_filter.1 hy
      simp only [decide_eq_true_eq] at h3
      rcases List.mem_append.1 h2 with h2 | h2
      · have := hA y h2; omega
      · rcases List.mem_cons.1 h2 with rfl | h2
        · omega
        · have := hB y h2; omega
    · rw [if_neg (show ¬ ((k + 1 : Nat) : Int) ≤ key10 x by omega)]
      by_cases h2 : (k : Int) = key10 x
      · rw [if_pos (by omega), sortTo, e0 k (by omega)]
        unfold ofKey
        have hAn : A.filter (fun y => decide (key10 y = (k : Int))) = [] := List.filter_eq_nil_iff.2 fun y hy => by have := hA y hy; simp; omega
        rw [List.filter_append, List.filter_append, List.filter_cons, if_pos (by simp; omega), hAn]
        rfl
      · rw [if_neg (by omega), sortTo]
        unfold ofKey
        rw [List.filter_append, List.filter_append, List.filter_cons, if_neg (by simp; omega)]
        rfl
theorem sortK_first (A B : List Int) (x : Int) (hA : ∀ y ∈ A, key10 x < key10 y) (hB : ∀ y ∈ B, key10 x ≤ key10 y) : sortK (A ++ x :: B) = x :: sortK (A ++ B) := by
  unfold sortK
  rw [sortTo_first A B x hA hB, if_neg (by have := (key10_range x).2; omega)]
theorem drop_head (l : List Int) (a : Nat) (h : a < l.length) : l.drop a = l.getD a 0 :: l.drop (a + 1) := by
  rw [List.drop_eq_getElem_cons h]; simp [List.getD, List.getElem?_eq_getElem h]
/-- what is left of lists -/
def restL : List (List Int) → List Nat → List Int
  | l :: LL, a :: at_ => l.drop a ++ restL LL at_
  | _, _ => []
theorem rest_zero : ∀ LL : List (List Int), restL LL (List.replicate LL.length 0) = LL.flatten
  | [] => rfl
  | l :: LL => by
    rw [List.length_cons, List.replicate_succ, restL, rest_zero LL, List.drop_zero]; rfl
theorem rest_none : ∀ (LL : List (List Int)) (at_ : List Nat), (∀ I, I < LL.length → (LL.getD I []).length ≤ at_.getD I 0) → restL LL at_ = []
  | [], _, _ => by unfold restL; rfl
  | l :: LL, [], h => by unfold restL; rfl
  | l :: LL, a :: at_, h => by
    rw [restL, rest_none LL at_ (fun I hI => by simpa using h (I + 1) (by simpa using hI)), List.drop_eq_nil_of_le (by simpa using h 0 (by simp))]; rfl
theorem rest_split : ∀ (LL : List (List Int)) (at_ : List Nat) (I : Nat), at_.length = LL.length → I < LL.length → at_.getD I 0 < (LL.getD I []).length →
    ∃ A B, restL LL at_ = A ++ (LL.getD I []).getD (at_.getD I 0) 0 :: B ∧ restL LL (at_.set I (at_.getD I 0 + 1)) = A ++ B ∧ (∀ y ∈ A, ∃ J, J < I ∧ y ∈ (LL.getD J []).drop (at_.getD J 0)) ∧ (∀ y ∈ B, ∃ J, I ≤ J ∧ J < LL.length ∧ y ∈ (LL.getD J []).drop (at_.getD J 0))
  | [], _, I, _, h, _ => by simp at h
  | l :: LL, [], I, h, _, _ => by simp at h
  | l :: LL, a :: at_, 0, h, h1, h2 => by
    simp only [List.getD_cons_zero] at h2 ⊢
    have hd : l.drop a = l.getD a 0 :: l.drop (a + 1) := by rw [List.drop_eq_getElem_cons h2]; simp [List.getD, List.getElem?_eq_getElem h2]
    refine ⟨[], l.drop (a + 1) ++ restL LL at_, by rw [restL, hd]; rfl, by rw [List.set_cons_zero, restL]; rfl, by simp, fun y hy => ?_⟩
    rcases List.mem_append.1 hy with hy | hy
    · exact ⟨0, Nat.le_refl _, h1, by simp only [List.getD_cons_zero]; rw [hd]; exact List.mem_cons_of_mem _ hy⟩
    · have hm : ∀ (LL : List (List Int)) (at_ : List Nat), y ∈ restL LL at_ → ∃ J, J < LL.length ∧ y ∈ (LL.getD J []).drop (at_.getD J 0) := by
        intro LL
        induction LL with
        | nil => intro at_ h; unfold restL at h; simp at h
        | cons l LL ih =>
          intro at_ h
          cases at_ with
          | nil => unfold restL at h; simp at h
          | cons a at_ =>
            rw [restL] at h
            rcases List.mem_append.1 h with h | h
            · exact ⟨0, by simp, by simpa using h⟩
            · obtain ⟨J, j1, j2⟩ := ih _ h
              exact ⟨J + 1, by simpa using j1, by simpa using j2⟩
      obtain ⟨J, j1, j2⟩ := hm _ _ hy
      exact ⟨J + 1, by omega, by simpa using j1, by simpa using j2⟩
  | l :: LL, a :: at_, I + 1, h, h1, h2 => by
    simp only [List.getD_cons_succ] at h2 ⊢
    obtain ⟨A, B, e1, e2, e3, e4⟩ := rest_split LL at_ I (by simpa using h) (by simpa using h1) h2
    refine ⟨l.drop a ++ A, B, by rw [restL, e1, List.append_assoc], by rw [List.set_cons_succ, restL, e2, List.append_assoc], fun y hy => ?_, fun y hy => ?_⟩
    · rcases List.mem_append.1 hy with hy | hy
      · exact ⟨0, by omega, by simpa using hy⟩
      · obtain ⟨J, j1, j2⟩ := e3 y hy
        exact ⟨J + 1, by omega, by simpa using j2⟩
    · obtain ⟨J, j1, j2, j3⟩ := e4 y hy
      exact ⟨J + 1, by omega, by simpa using j2, by simpa using j3⟩
theorem lessKey_wo : WO (Hp.steady lessKey) := steady_wo _ (fun a b h => by simp [lessKey] at h ⊢; omega) (fun a b c h h' => by simp [lessKey] at h h' ⊢; omega)
theorem mlt_wo (LL : List (List Int)) (at_ : List Nat) : WO (mlt lessKey LL at_) := steady_wo _ (fun a b h => lessKey_wo.asymm _ _ h) (fun a b c h h' => lessKey_wo.trans _ _ _ h h')
theorem heap_congr {lt lt' : E → E → Bool} {l : List E} (h : IsHeap lt l) (he : ∀ a ∈ l, ∀ b ∈ l, lt a b = lt' a b) : IsHeap lt' l := fun i h0 hi => by
  rw [← he _ (by rw [getD_eq hi]; exact List.getElem_mem hi) _ (by rw [getD_eq (show (i - 1) / 2 < l.length by omega)]; exact List.getElem_mem _)]
  exact h i h0 hi
/-- what holds behind each round of a merge by keys -/
structure KInv (LL : List (List Int)) (s : MS) : Prop extends RInv LL s where
  heap : IsHeap (mlt lessKey LL s.at_) s.l
  all : ∀ I, I < LL.length → s.at_.getD I 0 < (LL.getD I []).length → ∃ e ∈ s.l, e.1 = (I : Int)
  out_ : s.out ++ sortK (restL LL s.at_) = sortK LL.flatten
theorem kpush (LL : List (List Int)) (s : MS) (I : Nat) (h : IsHeap (mlt lessKey LL s.at_) s.l) : IsHeap (mlt lessKey LL (s.push lessKey LL I).at_) (s.push lessKey LL I).l ∧ (s.push lessKey LL I).l.Perm (s.l ++ [((I : Int), (s.turn : Int))]) :=
  ⟨rise_heap (mlt_wo LL s.at_) _ _ h, rise_perm _ _ (by simp)⟩
theorem start_k (LL : List (List Int)) : ∀ k, k ≤ LL.length → IsHeap (mlt lessKey LL (MS.start lessKey LL k).at_) (MS.start lessKey LL k).l ∧ ∀ I, I < k → 0 < (LL.getD I []).length → ∃ e ∈ (MS.start lessKey LL k).l, e.1 = (I : Int)
  | 0, _ => ⟨heap_nil _, fun I h => by omega⟩
  | k + 1, h => by
    obtain ⟨h1, h2⟩ := start_k LL k (by omega)
    unfold MS.start
    split
    · rename_i h0
      obtain ⟨p1, p2⟩ := kpush LL (MS.start lessKey LL k) k h1
      refine ⟨p1, fun I hI hl => ?_⟩
      by_cases e : I = k
      · subst e; exact ⟨_, p2.mem_iff.2 (List.mem_append_right _ (List.mem_singleton.2 rfl)), rfl⟩
      · obtain ⟨e, he, e1⟩ := h2 I (by omega) hl
        exact ⟨e, p2.mem_iff.2 (List.mem_append_left _ he), e1⟩
    · rename_i h0
      refine ⟨h1, fun I hI hl => ?_⟩
      by_cases e : I = k
      · subst e; exact absurd hl h0
      · exact h2 I (by omega) hl
theorem start_K (LL : List (List Int)) : KInv LL (MS.start lessKey LL LL.length) := by
  have i := start_inv lessKey LL LL.length (Nat.le_refl _)
  obtain ⟨h1, h2⟩ := start_k LL LL.length (Nat.le_refl _)
  refine ⟨i.run LL (start_out lessKey LL _), h1, fun I hI hl => h2 I hI (by omega), ?_⟩
  rw [start_out, i.at_, rest_zero]; rfl
theorem step_K (LL : List (List Int)) (hs : ∀ I, I < LL.length → (LL.getD I []).Pairwise fun a b => key10 a ≤ key10 b) {s : MS} (i : KInv LL s) (h : 0 < s.l.length) : KInv LL (s.step lessKey LL) := by
  have hr := (step_inv lessKey LL i.toRInv h).1
  obtain ⟨t1, t2, t3, t4⟩ := told_inv lessKey LL i.toRInv h
  obtain ⟨w1, w2, w3⟩ := who_dom LL i.toRInv h
  have hperm := left_perm (mlt lessKey LL s.at_) s.l h
  have hdiff : ∀ J : Nat, J ≠ s.who → (s.told lessKey LL).at_.getD J 0 = s.at_.getD J 0 := fun J hJ => by
    show (s.at_.set s.who _).getD J 0 = _
    simp only [List.getD, List.getElem?_set_ne (Ne.symm hJ)]
  -- the heap that is left, by the heads as they stand now
  have hh : IsHeap (mlt lessKey LL (s.told lessKey LL).at_) (s.told lessKey LL).l := by
    refine heap_congr (left_heap (mlt_wo LL s.at_) s.l i.heap) ?_
    have hd : ∀ e ∈ (s.told lessKey LL).l, hdOf LL s.at_ e.1 = hdOf LL (s.told lessKey LL).at_ e.1 := fun e he => by
      obtain ⟨J, j1, j2, j3⟩ := t1.dom e he
      unfold hdOf
      rw [j1, Int.toNat_natCast, hdiff J (fun e2 => t2 e he (by rw [j1, e2]))]
    intro a ha b hb
    unfold mlt Hp.steady
    simp only [hd a ha, hd b hb]
  have hall : ∀ I, I < LL.length → I ≠ s.who → (s.told lessKey LL).at_.getD I 0 < (LL.getD I []).length → ∃ e ∈ (s.told lessKey LL).l, e.1 = (I : Int) := fun I hI hne hlt => by
    rw [hdiff I hne] at hlt
    obtain ⟨e, he, e1⟩ := i.all I hI hlt
    rcases List.mem_cons.1 (hperm.mem_iff.2 he) with rfl | he
    · rw [w1] at e1; exact absurd (by omega) hne
    · exact ⟨e, he, e1⟩
  -- what comes is the first of what is left
  have hout : (s.told lessKey LL).out ++ sortK (restL LL (s.told lessKey LL).at_) = sortK LL.flatten := by
    obtain ⟨A, B, e1, e2, e3, e4⟩ := rest_split LL s.at_ s.who i.len w2 w3
    show (s.out ++ [hdOf LL s.at_ (s.who : Int)]) ++ sortK (restL LL (s.at_.set s.who (s.at_.getD s.who 0 + 1))) = _
    have hx : hdOf LL s.at_ (s.who : Int) = (LL.getD s.who []).getD (s.at_.getD s.who 0) 0 := by unfold hdOf; rw [Int.toNat_natCast]
    have hcmp : ∀ J, J < LL.length → ∀ y ∈ (LL.getD J []).drop (s.at_.getD J 0), key10 ((LL.getD s.who []).getD (s.at_.getD s.who 0) 0) ≤ key10 y ∧ (J < s.who → key10 ((LL.getD s.who []).getD (s.at_.getD s.who 0) 0) < key10 y) := by
      intro J hJ y hy
      have hlt : s.at_.getD J 0 < (LL.getD J []).length := by
        rcases Nat.lt_or_ge (s.at_.getD J 0) (LL.getD J []).length with h | h
        · exact h
        · rw [List.drop_eq_nil_of_le h] at hy; simp at hy
      obtain ⟨e, he, e1⟩ := i.all J hJ hlt
      obtain ⟨m, hm, hme⟩ := List.getElem_of_mem he
      have hf := heap_first (mlt_wo LL s.at_) i.heap m hm
      rw [getD_eq hm, hme] at hf
      have hin : Hp.steady lessKey (hdOf LL s.at_ e.1, e.1) (hdOf LL s.at_ (s.l.getD 0 d).1, (s.l.getD 0 d).1) = false := by
        unfold mlt at hf
        rw [Hp.steady, Bool.or_eq_false_iff] at hf
        exact hf.1
      rw [w1, e1, hx, show hdOf LL s.at_ (J : Int) = (LL.getD J []).getD (s.at_.getD J 0) 0 by unfold hdOf; rw [Int.toNat_natCast]] at hin
      have hd : (LL.getD J []).drop (s.at_.getD J 0) = (LL.getD J []).getD (s.at_.getD J 0) 0 :: (LL.getD J []).drop (s.at_.getD J 0 + 1) :=
        drop_head _ _ hlt
      have hsd := (hs J hJ).sublist (List.drop_sublist (s.at_.getD J 0) _)
      rw [hd, List.pairwise_cons] at hsd
      have hy2 : key10 ((LL.getD J []).getD (s.at_.getD J 0) 0) ≤ key10 y := by
        rw [hd] at hy
        rcases List.mem_cons.1 hy with rfl | hy
        · exact Int.le_refl _
        · exact hsd.1 y hy
      simp only [Hp.steady, lessKey, Bool.or_eq_false_iff, Bool.and_eq_false_iff, Bool.not_eq_false', decide_eq_false_iff_not, decide_eq_true_eq] at hin
      refine ⟨by omega, fun hlt2 => ?_⟩
      rcases hin.2 with h | h
      · omega
      · omega
    rw [e2, hx, List.append_assoc, List.singleton_append, ← sortK_first A B _ (fun y hy => by obtain ⟨J, j1, j2⟩ := e3 y hy; exact (hcmp J (by omega) y j2).2 j1) (fun y hy => by obtain ⟨J, _, j1, j2⟩ := e4 y hy; exact (hcmp J j1 y j2).1), ← e1]
    exact i.out_
  unfold MS.step at hr ⊢
  split at hr
  · rename_i hc
    rw [if_pos hc] at *
    obtain ⟨p1, p2⟩ := kpush LL (s.told lessKey LL) s.who hh
    refine ⟨hr, p1, fun I hI hlt => ?_, hout⟩
    by_cases e : I = s.who
    · subst e; exact ⟨_, p2.mem_iff.2 (List.mem_append_right _ (List.mem_singleton.2 rfl)), rfl⟩
    · obtain ⟨e, he, e1⟩ := hall I hI e hlt
      exact ⟨e, p2.mem_iff.2 (List.mem_append_left _ he), e1⟩
  · rename_i hc
    rw [if_neg hc]
    refine ⟨hr, hh, fun I hI hlt => ?_, hout⟩
    by_cases e : I = s.who
    · subst e; exact absurd hlt hc
    · exact hall I hI e hlt
theorem run_K (LL : List (List Int)) (hs : ∀ I, I < LL.length → (LL.getD I []).Pairwise fun a b => key10 a ≤ key10 b) : ∀ j, (∀ i, i < j → (MS.run lessKey LL i).l ≠ []) → KInv LL (MS.run lessKey LL j)
  | 0, _ => start_K LL
  | j + 1, h => step_K LL hs (run_K LL hs j (fun i hi => h i (by omega))) (List.length_pos_iff.2 (h j (by omega)))
/-- lists in order as one -/
theorem run_sorted (LL : List (List Int)) (hs : ∀ I, I < LL.length → (LL.getD I []).Pairwise fun a b => key10 a ≤ key10 b) (j : Nat) (h : ∀ i, i < j → (MS.run lessKey LL i).l ≠ []) (he : (MS.run lessKey LL j).l = []) : (MS.run lessKey LL j).out = sortK LL.flatten := by
  have i := run_K LL hs j h
  rw [← i.out_, rest_none LL _ (fun I hI => ?_)]
  · show _ = _ ++ []; rw [List.append_nil]
  · refine Nat.le_of_not_lt fun hlt => ?_
    obtain ⟨e, h1, _⟩ := i.all I hI hlt
    rw [he] at h1; simp at h1
end Go.Proofs.Ytiadljcfcncbkaa
