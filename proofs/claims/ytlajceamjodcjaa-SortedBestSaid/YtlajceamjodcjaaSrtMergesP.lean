/- SortedMerges: what lies while the lists are laid in order; what comes of them. -/
import Derived.Test.YtlajceamjodcjaaSrtMerge0
import Derived.Test.YtlajceamjodcjaaSrtAt
import Derived.Test.YtlajceamjodcjaaHpMerged
import Derived.Test.YtlajceamjodcjaaSrtAwake
namespace Go.Proofs.Ytlajceamjodcjaa
open Go Go.RowKit Hp
set_option linter.unusedVariables false

def sumM (T : List (List Int)) : Nat := (T.map (·.length)).sum
/-- the first lists, cut off where there are many -/
def tkM (L : List (List Int)) : Nat → List (List Int)
  | 0 => []
  | k + 1 => tkM L k ++ [(L.getD k []).take (200 - sumM (tkM L k))]
theorem tkM_len (L : List (List Int)) : ∀ k, (tkM L k).length = k
  | 0 => rfl
  | k + 1 => by rw [tkM, List.length_append, tkM_len L k]; rfl
theorem sumM_snoc (T : List (List Int)) (l : List Int) : sumM (T ++ [l]) = sumM T + l.length := by simp [sumM]
theorem tkM_sum (L : List (List Int)) : ∀ k, sumM (tkM L k) ≤ 200
  | 0 => by simp [tkM, sumM]
  | k + 1 => by
    rw [tkM, sumM_snoc, List.length_take]
    have := tkM_sum L k
    omega
theorem sum_sorted (T : List (List Int)) : sumM (T.map sortK) = sumM T := by
  unfold sumM
  rw [List.map_map]
  congr 1
  exact List.map_congr_left fun l _ => sortK_len l
theorem flat_len (T : List (List Int)) : T.flatten.length = sumM T := List.length_flatten
/-- lists that were laid, T, in a row at v3; all of them, A, at v4 -/
structure SMS (w : World) (B : Nat) (T : List (List Int)) (A : List Int) (xs : List Value) (v3 v4 : Value) : Prop where
  own3 : w.ownsRow B 24 1 v3 T.length xs
  nil3 : T = [] → v3 = .slice none 0 0
  own4 : w.ownsRow B 3 1 v4 A.length (ints A)
  each : ∀ I, I < T.length → ∃ q c, xs[I]? = some (.slice q (T.getD I []).length c) ∧ LiesI w q (T.getD I []) ∧ ∀ b o, q = some ⟨b, o, none⟩ → some b ≠ v3.ownBlock ∧ some b ≠ v4.ownBlock ∧ b < w.heap.size
theorem SMS.below {w w' : World} {B : Nat} {T : List (List Int)} {A : List Int} {xs : List Value} {v3 v4 : Value} (h : SMS w B T A xs v3 v4) (hb : Below w.heap.size w w') : SMS w' B T A xs v3 v4 :=
  ⟨own_laterV h.own3 hb, h.nil3, own_laterV h.own4 hb, fun I hI => by
    obtain ⟨q, c, h1, h2, h3⟩ := h.each I hI
    exact ⟨q, c, h1, h2.below hb, fun b o e => ⟨(h3 b o e).1, (h3 b o e).2.1, Nat.lt_of_lt_of_le (h3 b o e).2.2 hb.size⟩⟩⟩
theorem own_block {w : World} {B : Nat} {e : TypeId} {v : Value} {n : Nat} {xs : List Value} (h : w.ownsRow B e 1 v n xs) : v.ownBlock = none ∨ ∃ g cs, v.ownBlock = some g ∧ B ≤ g ∧ g < w.heap.size ∧ w.heap[g]? = some (Obj.cells cs e (0, 0)) := by
  rcases h.2 with ⟨rfl, _⟩ | ⟨g, cap, cur, rfl, hB, hg, _⟩
  · exact .inl rfl
  · exact .inr ⟨g, cur, rfl, hB, (Array.getElem?_eq_some_iff.1 hg).1, hg⟩
/-- rows of different things are different rows -/
theorem SMS.apart {w : World} {B : Nat} {T : List (List Int)} {A : List Int} {xs : List Value} {v3 v4 : Value} (h : SMS w B T A xs v3 v4) : (v4.ownBlock = none ∨ v4.ownBlock ≠ v3.ownBlock) ∧ (v3.ownBlock = none ∨ v3.ownBlock ≠ v4.ownBlock) := by
  rcases own_block h.own4 with h4 | ⟨g, cs, h4, _, _, hg⟩
  · refine ⟨.inl h4, ?_⟩
    rcases own_block h.own3 with h3 | ⟨g, cs, h3, _, _, hg⟩
    · exact .inl h3
    · exact .inr (by rw [h3, h4]; simp)
  · have hne := own_ne h.own3 hg (by decide)
    refine ⟨.inr (by rw [h4]; exact hne), .inr (by rw [h4]; exact fun e => hne e.symm)⟩
theorem at_ne {v v' : Value} {n b : Nat} (h : AtRow v v' n) (hb : b < n) (hne : some b ≠ v.ownBlock) : some b ≠ v'.ownBlock := by
  rcases h with h | ⟨k, hk, h⟩
  · rw [h]; exact hne
  · rw [h]; intro e; injection e with e; omega
theorem SMS.fresh {w w1 : World} {B : Nat} {T : List (List Int)} {A : List Int} {xs : List Value} {v3 v4 : Value} (h : SMS w B T A xs v3 v4) {q : Option Addr} {n m c : Nat} {ys : List Value} (ho : w1.ownsRow w.heap.size 3 1 (.slice q n c) m ys) : ∀ b o, q = some ⟨b, o, none⟩ → some b ≠ v3.ownBlock ∧ some b ≠ v4.ownBlock ∧ b < w1.heap.size := by
  rintro b o rfl
  rcases own_block ho with e | ⟨g, cs, e, hB, hlt, _⟩
  · simp [Value.ownBlock] at e
  · have hg : b = g := by simpa [Value.ownBlock] using e
    subst hg
    refine ⟨?_, ?_, hlt⟩
    · rcases own_block h.own3 with e3 | ⟨g3, _, e3, _, h3, _⟩
      · rw [e3]; simp
      · rw [e3]; intro e; injection e with e; omega
    · rcases own_block h.own4 with e3 | ⟨g3, _, e3, _, h3, _⟩
      · rw [e3]; simp
      · rw [e3]; intro e; injection e with e; omega
theorem infoII : (Try.prog.info? 24).map (fun i => (i.zero, i.size, i.bytes)) = some (some (.slice none 0 0), 1, 24) := by kernel_rfl
/-- one list more is laid -/
theorem SMS.push3 {w w' : World} {B : Nat} {T : List (List Int)} {A L : List Int} {xs : List Value} {v3 v3' v4 : Value} {q : Option Addr} {c : Nat} (h : SMS w B T A xs v3 v4) (hl : LiesI w q L) (hq : ∀ b o, q = some ⟨b, o, none⟩ → some b ≠ v3.ownBlock ∧ some b ≠ v4.ownBlock ∧ b < w.heap.size)
    (hown : w'.ownsRow B 24 1 v3' (T.length + 1) (xs ++ [.slice q L.length c])) (hg : w.grownBy w' v3.ownBlock) (ha : AtRow v3 v3' w.heap.size) : SMS w' B (T ++ [L]) A (xs ++ [.slice q L.length c]) v3' v4 := by
  have hx : xs.length = T.length := by have := h.own3.1; simpa using this
  refine ⟨by rw [List.length_append]; exact hown, fun e => by simp at e, h.own4.kept hg h.apart.1, fun I hI => ?_⟩
  rw [List.length_append, List.length_singleton] at hI
  by_cases e : I < T.length
  · obtain ⟨q', c', h1, h2, h3⟩ := h.each I e
    have eT : (T ++ [L]).getD I [] = T.getD I [] := by simp [List.getD, List.getElem?_append_left e]
    rw [eT]
    exact ⟨q', c', by rw [List.getElem?_append_left (by omega)]; exact h1, h2.grown hg (fun b o e => (h3 b o e).1), fun b o e => ⟨at_ne ha (h3 b o e).2.2 (h3 b o e).1, (h3 b o e).2.1, Nat.lt_of_lt_of_le (h3 b o e).2.2 hg.size⟩⟩
  · obtain rfl : I = T.length := by omega
    have eT : (T ++ [L]).getD T.length [] = L := by simp [List.getD]
    rw [eT]
    exact ⟨q, c, by rw [← hx]; simp, hl.grown hg (fun b o e => (hq b o e).1), fun b o e => ⟨at_ne ha (hq b o e).2.2 (hq b o e).1, (hq b o e).2.1, Nat.lt_of_lt_of_le (hq b o e).2.2 hg.size⟩⟩
/-- and put behind all -/
theorem SMS.push4 {w w' : World} {B : Nat} {T : List (List Int)} {A L : List Int} {xs : List Value} {v3 v4 v4' : Value} (h : SMS w B T A xs v3 v4) (hown : w'.ownsRow B 3 1 v4' (A ++ L).length (ints (A ++ L))) (hg : w.grownBy w' v4.ownBlock) (ha : AtRow v4 v4' w.heap.size) : SMS w' B T (A ++ L) xs v3 v4' :=
  ⟨h.own3.kept hg h.apart.2, h.nil3, hown, fun I hI => by
    obtain ⟨q, c, h1, h2, h3⟩ := h.each I hI
    exact ⟨q, c, h1, h2.grown hg (fun b o e => (h3 b o e).2.1), fun b o e => ⟨(h3 b o e).1, at_ne ha (h3 b o e).2.2 (h3 b o e).2.1, Nat.lt_of_lt_of_le (h3 b o e).2.2 hg.size⟩⟩⟩
/-- Merge of lists in order -/
theorem SMS.merge {w : World} {B : Nat} {T : List (List Int)} {A : List Int} {xs : List Value} {v3 v4 : Value} (h : SMS w B T A xs v3 v4) (hs : ∀ I, I < T.length → (T.getD I []).Pairwise fun a b => key10 a ≤ key10 b) (hn : T.length ≤ 20) (hsum : sumM T ≤ 200) :
    Calls Try.prog 41 #[.func (.func 27) #[] #[], v3] w fun e w' => ∃ p c, e = .returned (.slice p (sortK T.flatten).length c) ∧ LiesI w' p (sortK T.flatten) ∧ Below w.heap.size w w' := by
  by_cases h0 : T = []
  · rw [h.nil3 h0]
    subst h0
    refine (merge_empty _ _ w).mono ?_
    rintro e w' ⟨⟨p, c, rfl⟩, hb⟩
    exact ⟨p, c, rfl, LiesI.nil _ _, hb⟩
  · obtain ⟨g, cap, rfl, _, _⟩ := ownV_some h.own3 (List.length_pos_iff.2 h0)
    have hx : xs.length = T.length := by have := h.own3.1; simpa using this
    have hl : LLies w g 0 T := by
      intro I hI
      obtain ⟨q, c, h1, h2, h3⟩ := h.each I hI
      refine ⟨q, c, ?_, fun k hk => ?_⟩
      · rw [Nat.zero_add, h.own3.cellAt I (by omega), h1]
      · obtain ⟨b, o, rfl, _, hc⟩ := h2.at (by omega)
        exact ⟨b, o, rfl, hc k hk⟩
    refine (merge_is g 0 cap T 27 #[] lessKey (fun _ => True) (fun _ => True) less_tell w (fun _ _ _ _ => trivial) trivial hl (by omega) (Nat.le_trans hsum (by omega)) (fun _ _ _ _ => trivial)).mono ?_
    rintro e w' ⟨v, rfl, ⟨j, j1, j2, hown⟩, hb⟩
    rw [run_sorted T hs j j1 j2] at hown
    obtain ⟨_, p, cap', rfl, _, hlies, _⟩ := own_liesI (l := sortK T.flatten) hown
    exact ⟨p, cap', rfl, hlies, hb⟩
theorem sorted_rows (T : List (List Int)) : ∀ I, I < (T.map sortK).length → ((T.map sortK).getD I []).Pairwise fun a b => key10 a ≤ key10 b := by
  intro I hI
  rw [List.length_map] at hI
  have e : (T.map sortK).getD I [] = sortK (T.getD I []) := by simp [List.getD, hI]
  rw [e]
  exact sortTo_sorted _ _
end Go.Proofs.Ytlajceamjodcjaa
