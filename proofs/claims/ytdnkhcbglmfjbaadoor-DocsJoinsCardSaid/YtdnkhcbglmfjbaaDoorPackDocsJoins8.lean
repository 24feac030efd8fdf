/- The statement DocsJoins, proved for every input that its row reads: part 8 of 54. -/
import Derived.Test.YtdnkhcbglmfjbaaDoorPackDocsJoins7
/- Which vectors may be; a vector within bounds. -/
namespace Go.Proofs.YtdnkhcbglmfjbaaDoor
open Go Go.RowKit
set_option linter.unusedVariables false

def clampF (f : Nat → Int) : Nat → Int := fun i => min (max (f i) 0) 1073741824
def goodB (f : Nat → Int) : Bool := veq f (clampF f)
theorem good_iff (f : Nat → Int) : goodB f = true ↔ ∀ i, i < 64 → 0 ≤ f i ∧ f i ≤ 1073741824 := by
  unfold goodB clampF
  rw [veq_iff]
  exact ⟨fun h i hi => by have := h i hi; omega, fun h i hi => by have := h i hi; omega⟩
theorem good_no {f : Nat → Int} (i : Nat) (hi : i < 64) (h : f i < 0 ∨ 1073741824 < f i) : goodB f = false := by
  cases e : goodB f with
  | false => rfl
  | true => exact absurd ((good_iff f).1 e i hi) (by omega)
set_option maxHeartbeats 1000000 in
set_option maxRecDepth 100000 in
theorem refGood_is (f : Nat → Int) (w : World) : Calls Tryd.prog 10 #[.agg (vf f)] w (RetBool w (goodB f)) := by
  go_enter Tryd.func10, Tryd.ntmps10
  go_wp2_with (refine wpList_vbox vecI rfl _ rfl f rfl ?_)
  intro ga w2 la ra hb1
  have B2 := Lib.hid hb1; have RA2 := Lib.hid ra
  clear hb1 ra
  go_wp2_with (refine wpList_vload vecI rfl _ rfl ga rfl _ f RA2.out ?_)
  go_wp2
  go_loop [6] (fun i => ∃ k : Nat, k ≤ 64 ∧ i = .int .i64 k ∧ ∀ i, i < k → 0 ≤ f i ∧ f i ≤ 1073741824) (fun i => 64 - (intOf i).toNat)
  case atStart => exact ⟨0, by omega, rfl, fun i h => by omega⟩
  case round =>
    obtain ⟨k, hk, rfl, hle⟩ := hrel
    have LE := Lib.hid hle
    clear hle
    by_cases hlt : k < 64
    · have hi := vecI.index f .i64 k k rfl hlt
      have hkI : (k : Int) < 64 := by omega
      rcases (show f k < 0 ∨ (0 ≤ f k ∧ 1073741824 < f k) ∨ (0 ≤ f k ∧ f k ≤ 1073741824) by omega) with h1 | ⟨h1, h2⟩ | ⟨h1, h2⟩
      case' inl =>
        have NO := Lib.hid (good_no k hlt (.inl h1))
        generalize f k = y at hi h1
      case' inr.inl =>
        have NO := Lib.hid (good_no k hlt (.inr h2))
        generalize f k = y at hi h1 h2
      case' inr.inr =>
        have hS : Hid (∀ i, i < k + 1 → 0 ≤ f i ∧ f i ≤ 1073741824) := by
          intro i h
          by_cases e : i = k
          · subst e; omega
          · exact LE.out i (by omega)
        generalize f k = y at hi h1 h2
        go_wp2
        go_round
        case rel => exact ⟨k + 1, by omega, by go_num, hS.out⟩
        case measure => simp [intOf]; omega
      all_goals
        go_wp2
        go_ret
        exact ⟨by rw [NO.out]; rfl, B2.out⟩
    · obtain rfl : k = 64 := by omega
      have YES := Lib.hid ((good_iff f).2 LE.out)
      go_wp2
      go_ret
      exact ⟨by rw [YES.out]; rfl, B2.out⟩
open Go

abbrev Dt := Int × Int
def vl (d : Dt) : Bool := vldB d.1 d.2
def ltD (a b : Dt) : Bool := lessD a.1 a.2 b.1 b.2
theorem ltD_iff (a b : Dt) : ltD a b = true ↔ a.1 < b.1 ∨ a.1 = b.1 ∧ a.2 < b.2 := by simp [ltD, lessD]
theorem vl_iff (d : Dt) : vl d = true ↔ 0 ≤ d.1 ∧ d.1 < 64 ∧ 1 ≤ d.2 ∧ d.2 ≤ 1073741824 := vld_iff d.1 d.2
theorem ltD_irrefl (a : Dt) : ltD a a = false := by rw [← Bool.not_eq_true, ltD_iff]; omega
theorem ltD_trans {a b c : Dt} (h : ltD a b = true) (k : ltD b c = true) : ltD a c = true := by rw [ltD_iff] at *; omega
theorem ltD_or (a b : Dt) (h : ltD a b = false) (k : ltD b a = false) : a = b := by
  have h' : ¬ (a.1 < b.1 ∨ a.1 = b.1 ∧ a.2 < b.2) := fun e => by rw [(ltD_iff a b).2 e] at h; cases h
  have k' : ¬ (b.1 < a.1 ∨ b.1 = a.1 ∧ b.2 < a.2) := fun e => by rw [(ltD_iff b a).2 e] at k; cases k
  exact Prod.ext (by omega) (by omega)
/-- in order, each once -/
def Rises (l : List Dt) : Prop := l.Pairwise fun a b => ltD a b = true
theorem rises_eq : ∀ {l l' : List Dt}, Rises l → Rises l' → (∀ d, d ∈ l ↔ d ∈ l') → l = l'
  | [], [], _, _, _ => rfl
  | [], b :: l', _, _, h => by have := (h b).2 (by simp); cases this
  | a :: l, [], _, _, h => by have := (h a).1 (by simp); cases this
  | a :: l, b :: l', h1, h2, h => by
    obtain ⟨p1, p2⟩ := List.pairwise_cons.1 h1
    obtain ⟨q1, q2⟩ := List.pairwise_cons.1 h2
    have hab : a = b := by
      rcases List.mem_cons.1 ((h a).1 (by simp)) with e | e
      · exact e
      · rcases List.mem_cons.1 ((h b).2 (by simp)) with e2 | e2
        · exact e2.symm
        · have := ltD_trans (q1 a e) (p1 b e2)
          rw [ltD_irrefl] at this; cases this
    subst hab
    congr 1
    refine rises_eq p2 q2 fun d => ?_
    constructor
    · intro hd
      rcases List.mem_cons.1 ((h d).1 (by simp [hd])) with e | e
      · have := p1 d hd; rw [e, ltD_irrefl] at this; cases this
      · exact e
    · intro hd
      rcases List.mem_cons.1 ((h d).2 (by simp [hd])) with e | e
      · have := q1 d hd; rw [e, ltD_irrefl] at this; cases this
      · exact e

/-- a context in its one form: the vector G and the dots o behind it, of the vector F and the dots l -/
structure IsTidy (F : Nat → Int) (l : List Dt) (G : Nat → Int) (o : List Dt) : Prop where
  base : ∀ i, i < 64 → clampF F i ≤ G i
  reach : ∀ i, i < 64 → ∀ k : Int, clampF F i < k → k ≤ G i → ((i : Int), k) ∈ l ∧ vl ((i : Int), k) = true
  closed : ∀ d ∈ l, vl d = true → d.2 ≠ G d.1.toNat + 1
  rises : Rises o
  mem : ∀ d, d ∈ o ↔ (d ∈ l ∧ vl d = true ∧ G d.1.toNat < d.2)
theorem clampF_in (F : Nat → Int) (i : Nat) : 0 ≤ clampF F i ∧ clampF F i ≤ 1073741824 := by unfold clampF; omega
theorem IsTidy.le {F F' : Nat → Int} {l l' : List Dt} {G G' : Nat → Int} {o o' : List Dt} (h : IsTidy F l G o) (h' : IsTidy F' l' G' o') (hF : ∀ i, i < 64 → clampF F i = clampF F' i) (hl : ∀ d, vl d = true → (d ∈ l ↔ d ∈ l')) (i : Nat) (hi : i < 64) : G' i ≤ G i := by
  by_cases hle : G' i ≤ G i
  · exact hle
  · exfalso
    have hb := h.base i hi
    rw [hF i hi] at hb
    obtain ⟨h1, h2⟩ := h'.reach i hi (G i + 1) (by omega) (by omega)
    have := h.closed _ ((hl _ h2).2 h1) h2
    simp at this
theorem IsTidy.unique {F F' : Nat → Int} {l l' : List Dt} {G G' : Nat → Int} {o o' : List Dt} (h : IsTidy F l G o) (h' : IsTidy F' l' G' o') (hF : ∀ i, i < 64 → clampF F i = clampF F' i) (hl : ∀ d, vl d = true → (d ∈ l ↔ d ∈ l')) : (∀ i, i < 64 → G i = G' i) ∧ o = o' := by
  have e : ∀ i, i < 64 → G i = G' i := fun i hi => by
    have h1 := h.le h' hF hl i hi
    have h2 := h'.le h (fun i hi => (hF i hi).symm) (fun d hd => (hl d hd).symm) i hi
    omega
  refine ⟨e, rises_eq h.rises h'.rises fun d => ?_⟩
  rw [h.mem, h'.mem]
  constructor
  · rintro ⟨h1, h2, h3⟩
    have hv := (vl_iff d).1 h2
    exact ⟨(hl d h2).1 h1, h2, by rw [← e _ (by omega)]; exact h3⟩
  · rintro ⟨h1, h2, h3⟩
    have hv := (vl_iff d).1 h2
    exact ⟨(hl d h2).2 h1, h2, by rw [e _ (by omega)]; exact h3⟩
/-- does a context have a dot? -/
def knowsB (F : Nat → Int) (l : List Dt) (d : Dt) : Bool := hasB F d.1 d.2 || (vl d && l.contains d)
theorem has_iff (F : Nat → Int) (d : Dt) : hasB F d.1 d.2 = true ↔ vl d = true ∧ d.2 ≤ F d.1.toNat := by simp [hasB, vl]
theorem has_clamp (F : Nat → Int) (d : Dt) : hasB (clampF F) d.1 d.2 = hasB F d.1 d.2 := by
  rw [Bool.eq_iff_iff, has_iff, has_iff]
  constructor
  · rintro ⟨h, k⟩; have := (vl_iff d).1 h; exact ⟨h, by unfold clampF at k; omega⟩
  · rintro ⟨h, k⟩; have := (vl_iff d).1 h; exact ⟨h, by unfold clampF; omega⟩
theorem knows_iff (F : Nat → Int) (l : List Dt) (d : Dt) : knowsB F l d = true ↔ vl d = true ∧ (d.2 ≤ F d.1.toNat ∨ d ∈ l) := by
  unfold knowsB
  rw [Bool.or_eq_true, has_iff, Bool.and_eq_true, List.contains_iff_mem]
  constructor
  · rintro (⟨h, k⟩ | ⟨h, k⟩)
    · exact ⟨h, .inl k⟩
    · exact ⟨h, .inr k⟩
  · rintro ⟨h, k | k⟩
    · exact .inl ⟨h, k⟩
    · exact .inr ⟨h, k⟩
theorem IsTidy.knows {F : Nat → Int} {l : List Dt} {G : Nat → Int} {o : List Dt} (h : IsTidy F l G o) (d : Dt) : knowsB G o d = knowsB F l d := by
  rw [Bool.eq_iff_iff, knows_iff, knows_iff]
  constructor
  · rintro ⟨hv, hk⟩
    refine ⟨hv, ?_⟩
    have hvi := (vl_iff d).1 hv
    rcases hk with hk | hk
    · by_cases hc : d.2 ≤ clampF F d.1.toNat
      · left; unfold clampF at hc; omega
      · right
        have := (h.reach d.1.toNat (by omega) d.2 (by omega) hk).1
        rwa [show ((d.1.toNat : Int), d.2) = d from Prod.ext (by simp; omega) rfl] at this
    · exact .inr ((h.mem d).1 hk).1
  · rintro ⟨hv, hk⟩
    refine ⟨hv, ?_⟩
    have hvi := (vl_iff d).1 hv
    have hb := h.base d.1.toNat (by omega)
    rcases hk with hk | hk
    · left; unfold clampF at hb; omega
    · by_cases hg : d.2 ≤ G d.1.toNat
      · exact .inl hg
      · exact .inr ((h.mem d).2 ⟨hk, hv, by omega⟩)
theorem IsTidy.good {F : Nat → Int} {l : List Dt} {G : Nat → Int} {o : List Dt} (h : IsTidy F l G o) (i : Nat) (hi : i < 64) : 0 ≤ G i ∧ G i ≤ 1073741824 := by
  have hb := h.base i hi
  have hc := clampF_in F i
  refine ⟨by omega, ?_⟩
  by_cases hle : G i ≤ 1073741824
  · exact hle
  · have := (vl_iff _).1 (h.reach i hi (G i) (by omega) (by omega)).2
    simp at this; omega
/-- what is in its one form stays -/
theorem IsTidy.again {F : Nat → Int} {l : List Dt} {G : Nat → Int} {o : List Dt} (h : IsTidy F l G o) : IsTidy G o G o where
  base i hi := by have := h.good i hi; unfold clampF; omega
  reach i hi k h1 h2 := by have := h.good i hi; unfold clampF at h1; omega
  closed d hd hv := h.closed d ((h.mem d).1 hd).1 hv
  rises := h.rises
  mem d := by
    constructor
    · intro hd; exact ⟨hd, ((h.mem d).1 hd).2⟩
    · rintro ⟨hd, _⟩; exact hd
/-- a part of what is in it, joined once more, is nothing new -/
theorem IsTidy.within {F : Nat → Int} {l : List Dt} {G : Nat → Int} {o : List Dt} (h : IsTidy F l G o) {A : Nat → Int} {m : List Dt} (hA : ∀ i, i < 64 → clampF A i ≤ G i) (hm : ∀ d ∈ m, vl d = true → d ∈ l) {Z : Nat → Int} (hZ : ∀ i, i < 64 → Z i = max (G i) (A i)) {k : List Dt} (hk : ∀ d, vl d = true → (d ∈ k ↔ d ∈ o ∨ d ∈ m)) : IsTidy Z k G o where
  base i hi := by have := h.good i hi; have := hA i hi; unfold clampF at *; rw [hZ i hi]; omega
  reach i hi n h1 h2 := by have := h.good i hi; have := hA i hi; unfold clampF at *; rw [hZ i hi] at h1; omega
  closed d hd hv := by
    rcases (hk d hv).1 hd with e | e
    · exact h.closed d ((h.mem d).1 e).1 hv
    · exact h.closed d (hm d e hv) hv
  rises := h.rises
  mem d := by
    constructor
    · intro hd
      have := (h.mem d).1 hd
      exact ⟨(hk d this.2.1).2 (.inl hd), this.2⟩
    · rintro ⟨h1, h2, h3⟩
      rcases (hk d h2).1 h1 with e | e
      · exact e
      · exact (h.mem d).2 ⟨hm d e h2, h2, h3⟩

/-- how far a row in order has been taken in -/
structure Upd (F : Nat → Int) (p : List Dt) (G : Nat → Int) (o : List Dt) : Prop where
  base : ∀ i, i < 64 → clampF F i ≤ G i
  reach : ∀ i, i < 64 → ∀ k : Int, clampF F i < k → k ≤ G i → ((i : Int), k) ∈ p ∧ vl ((i : Int), k) = true
  out : ∀ d ∈ o, d ∈ p ∧ vl d = true ∧ G d.1.toNat + 1 < d.2
  all : ∀ d ∈ p, vl d = true → d.2 ≤ G d.1.toNat ∨ d ∈ o
  rises : Rises o
theorem Upd.start (F : Nat → Int) : Upd F [] (clampF F) [] where
  base i hi := Int.le_refl _
  reach i hi k h1 h2 := by omega
  out d hd := by cases hd
  all d hd := by cases hd
  rises := List.Pairwise.nil
section
variable {F : Nat → Int} {p : List Dt} {G : Nat → Int} {o : List Dt} {d : Dt}
theorem Upd.skip (h : Upd F p G o) (hs : vl d = false ∨ d.2 ≤ G d.1.toNat) : Upd F (p ++ [d]) G o where
  base := h.base
  reach i hi k h1 h2 := by have := h.reach i hi k h1 h2; exact ⟨by simp [this.1], this.2⟩
  out x hx := by have := h.out x hx; exact ⟨by simp [this.1], this.2⟩
  all x hx hv := by
    rcases List.mem_append.1 hx with e | e
    · exact h.all x e hv
    · obtain rfl := List.mem_singleton.1 e
      rcases hs with hs | hs
      · rw [hs] at hv; cases hv
      · exact .inl hs
  rises := h.rises
theorem Upd.more (h : Upd F p G o) (hp : ∀ x ∈ p, ltD x d = true) (hv : vl d = true) (hn : d.2 = G d.1.toNat + 1) : Upd F (p ++ [d]) (vset G d.1.toNat d.2) o where
  base i hi := by
    have := h.base i hi
    unfold vset; split
    · rename_i e; subst e; omega
    · exact this
  reach i hi k h1 h2 := by
    have hvi := (vl_iff d).1 hv
    unfold vset at h2
    split at h2
    · rename_i e
      by_cases hk : k ≤ G i
      · have := h.reach i hi k h1 hk; exact ⟨by simp [this.1], this.2⟩
      · have e2 : ((i : Int), k) = d := Prod.ext (by simp; omega) (by simp; subst e; omega)
        rw [e2]; exact ⟨by simp, hv⟩
    · have := h.reach i hi k h1 h2; exact ⟨by simp [this.1], this.2⟩
  out x hx := by
    obtain ⟨a, b, c⟩ := h.out x hx
    refine ⟨by simp [a], b, ?_⟩
    unfold vset
    split
    · rename_i e
      have hl := (ltD_iff x d).1 (hp x a)
      have hvi := (vl_iff d).1 hv
      have hvx := (vl_iff x).1 b
      rw [e] at c
      omega
    · exact c
  all x hx hvx := by
    rcases List.mem_append.1 hx with e | e
    · rcases h.all x e hvx with e2 | e2
      · left
        unfold vset
        split
        · rename_i e3; rw [e3] at e2; omega
        · exact e2
      · exact .inr e2
    · obtain rfl := List.mem_singleton.1 e
      left; unfold vset; simp
  rises := h.rises
theorem Upd.far (h : Upd F p G o) (hp : ∀ x ∈ p, ltD x d = true) (hv : vl d = true) (hn : G d.1.toNat < d.2) (hn2 : d.2 ≠ G d.1.toNat + 1) : Upd F (p ++ [d]) G (o ++ [d]) where
  base := h.base
  reach i hi k h1 h2 := by have := h.reach i hi k h1 h2; exact ⟨by simp [this.1], this.2⟩
  out x hx := by
    rcases List.mem_append.1 hx with e | e
    · obtain ⟨a, b, c⟩ := h.out x e; exact ⟨by simp [a], b, c⟩
    · obtain rfl := List.mem_singleton.1 e
      exact ⟨by simp, hv, by omega⟩
  all x hx hvx := by
    rcases List.mem_append.1 hx with e | e
    · rcases h.all x e hvx with e2 | e2
      · exact .inl e2
      · exact .inr (by simp [e2])
    · obtain rfl := List.mem_singleton.1 e
      exact .inr (by simp)
  rises := by
    unfold Rises
    rw [List.pairwise_append]
    refine ⟨h.rises, List.pairwise_singleton _ _, fun a ha b hb => ?_⟩
    obtain rfl := List.mem_singleton.1 hb
    exact hp a (h.out a ha).1
theorem Upd.tidy (h : Upd F p G o) {l : List Dt} (hl : ∀ d, d ∈ p ↔ d ∈ l) : IsTidy F l G o where
  base := h.base
  reach i hi k h1 h2 := by have := h.reach i hi k h1 h2; exact ⟨(hl _).1 this.1, this.2⟩
  closed d hd hv := by
    intro e
    rcases h.all d ((hl d).2 hd) hv with e2 | e2
    · omega
    · have := (h.out d e2).2.2; omega
  rises := h.rises
  mem d := by
    constructor
    · intro hd
      obtain ⟨a, b, c⟩ := h.out d hd
      exact ⟨(hl d).1 a, b, by omega⟩
    · rintro ⟨a, b, c⟩
      rcases h.all d ((hl d).2 a) b with e | e
      · omega
      · exact e
end
theorem rises_take {L : List Dt} (h : Rises L) (k : Nat) (hk : k < L.length) : ∀ x ∈ L.take k, ltD x L[k] = true := by
  intro x hx
  obtain ⟨i, hi, rfl⟩ := List.getElem_of_mem hx
  simp only [List.length_take] at hi
  rw [List.getElem_take]
  exact List.pairwise_iff_getElem.1 h i k (by omega) hk (by omega)
theorem take_next (L : List Dt) (k : Nat) (hk : k < L.length) : L.take (k + 1) = L.take k ++ [L[k]] := by
  rw [List.take_add_one, List.getElem?_eq_getElem hk]; rfl

/-- neighbours that are one: once -/
def dedup : List Dt → List Dt
  | [] => []
  | [a] => [a]
  | a :: b :: r => if a = b then dedup (b :: r) else a :: dedup (b :: r)
theorem dedup_mem : ∀ (l : List Dt) (d : Dt), d ∈ dedup l ↔ d ∈ l
  | [], d => by simp [dedup]
  | [a], d => by simp [dedup]
  | a :: b :: r, d => by
    unfold dedup
    split
    · rename_i e; subst e
      rw [dedup_mem (a :: r) d]; simp
    · rw [List.mem_cons, dedup_mem (b :: r) d, List.mem_cons, List.mem_cons, List.mem_cons]
theorem dedup_rises : ∀ (l : List Dt), l.Pairwise (fun a b => ltD b a = false) → Rises (dedup l)
  | [], _ => by unfold dedup; exact List.Pairwise.nil
  | [a], _ => by unfold dedup; exact List.pairwise_singleton _ _
  | a :: b :: r, h => by
    obtain ⟨h1, h2⟩ := List.pairwise_cons.1 h
    have ih := dedup_rises (b :: r) h2
    unfold dedup
    split
    · exact ih
    · rename_i e
      refine List.pairwise_cons.2 ⟨fun x hx => ?_, ih⟩
      have hx' : x ∈ b :: r := (dedup_mem _ _).1 hx
      have hax := h1 x hx'
      have hab := h1 b (by simp)
      have lab : ltD a b = true := by
        cases hl : ltD a b with
        | true => rfl
        | false => exact absurd (ltD_or a b hl hab) e
      rcases List.mem_cons.1 hx' with rfl | hxr
      · exact lab
      · have hbx := (List.pairwise_cons.1 h2).1 x hxr
        cases hl : ltD b x with
        | true => exact ltD_trans lab hl
        | false =>
          obtain rfl := ltD_or b x hl hbx
          exact lab
end Go.Proofs.YtdnkhcbglmfjbaaDoor
/- Rows of dots in memory. -/
namespace Go.Proofs.YtdnkhcbglmfjbaaDoor
open Go Go.RowKit
set_option linter.unusedVariables false

def dvs (d : Dt) : List Value := [.int .i64 d.1, .int .i64 d.2]
def dcl (l : List Dt) : List Value := l.flatMap dvs
theorem dcl_cons (d : Dt) (l : List Dt) : dcl (d :: l) = .int .i64 d.1 :: .int .i64 d.2 :: dcl l := rfl
theorem dcl_length : ∀ l : List Dt, (dcl l).length = l.length * 2
  | [] => rfl
  | d :: l => by rw [dcl_cons, List.length_cons, List.length_cons, dcl_length l, List.length_cons]; omega
theorem dcl_append (a b : List Dt) : dcl (a ++ b) = dcl a ++ dcl b := by simp [dcl]
theorem dcl_get : ∀ (l : List Dt) (i : Nat) (hi : i < l.length), (dcl l)[i * 2]? = some (.int .i64 l[i].1) ∧ (dcl l)[i * 2 + 1]? = some (.int .i64 l[i].2)
  | d :: l, 0, _ => ⟨rfl, rfl⟩
  | d :: l, i + 1, hi => by
    have := dcl_get l i (by simpa using hi)
    rw [dcl_cons, show (i + 1) * 2 = i * 2 + 1 + 1 from by omega, show i * 2 + 1 + 1 + 1 = (i * 2 + 1) + 1 + 1 from rfl]
    simpa using this
theorem dcl_one (l : List Dt) : ∀ u ∈ dcl l, u.oneCell' = true := by
  intro u hu
  obtain ⟨d, _, h⟩ := List.mem_flatMap.1 hu
  simp [dvs] at h
  rcases h with rfl | rfl <;> rfl
theorem dcl_at (l : List Dt) (j : Nat) (u : Value) (h : (dcl l)[j]? = some u) : ∃ i, ∃ hi : i < l.length, (j = i * 2 ∧ u = .int .i64 l[i].1) ∨ (j = i * 2 + 1 ∧ u = .int .i64 l[i].2) := by
  have hj : j < l.length * 2 := by rw [← dcl_length]; exact (List.getElem?_eq_some_iff.1 h).1
  refine ⟨j / 2, by omega, ?_⟩
  obtain ⟨g1, g2⟩ := dcl_get l (j / 2) (by omega)
  rcases Nat.mod_two_eq_zero_or_one j with e | e
  · left
    have e2 : j / 2 * 2 = j := by omega
    rw [e2, h] at g1
    exact ⟨e2.symm, Option.some.inj g1⟩
  · right
    have e2 : j / 2 * 2 + 1 = j := by omega
    rw [e2, h] at g2
    exact ⟨e2.symm, Option.some.inj g2⟩

/-- dots that lie at p -/
def DRow (w : World) (p : Option Addr) (l : List Dt) : Prop := l ≠ [] → ∃ b o, p = some ⟨b, o, none⟩ ∧ w.rangeAt b o (dcl l)
theorem range_lt {w : World} {b o : Nat} {l : List Dt} (h : w.rangeAt b o (dcl l)) (hn : l ≠ []) : b < w.heap.size := by
  cases l with
  | nil => exact absurd rfl hn
  | cons d l => exact World.block_lt_of_cell? w _ (h 0 _ rfl)
theorem DRow.below {w w' : World} {p : Option Addr} {l : List Dt} (h : DRow w p l) (hb : Below w.heap.size w w') : DRow w' p l := fun hn => by
  obtain ⟨b, o, rfl, hr⟩ := h hn
  exact ⟨b, o, rfl, range_below hr hb⟩
theorem DRow.nil (w : World) (p : Option Addr) : DRow w p [] := fun h => absurd rfl h
/-- a row of dots, one's own -/
structure OwnD (w : World) (g : Nat) (l : List Dt) : Prop where
  range : w.rangeAt g 0 (dcl l)
  free : ∀ j, j < l.length * 2 → w.frozen? ⟨g, j, none⟩ = false
  lt : g < w.heap.size
theorem OwnD.later {w w' : World} {g : Nat} {l : List Dt} (h : OwnD w g l) (hb : Below w.heap.size w w') : OwnD w' g l :=
  ⟨range_below h.range hb, fun j hj => (hb.frozen (p := ⟨g, j, none⟩) h.lt).trans (h.free j hj), Nat.lt_of_lt_of_le h.lt hb.size⟩
theorem OwnD.kept {w w' : World} {g : Nat} {l : List Dt} (h : OwnD w g l) {row : Option Nat} (hg : w.grownBy w' row) (hne : some g ≠ row) : OwnD w' g l :=
  ⟨fun j u hu => by
    have h1 := h.range j u hu
    rw [World.cell?_of_block (w := w) (a := ⟨g, 0 + j, none⟩) (hg.block g h.lt hne)]; exact h1,
  fun j hj => by rw [World.frozen?_of_block (w := w) (a := ⟨g, j, none⟩) (hg.block g h.lt hne)]; exact h.free j hj, Nat.lt_of_lt_of_le h.lt hg.size⟩
theorem OwnD.row {w : World} {g : Nat} {l : List Dt} (h : OwnD w g l) : DRow w (some ⟨g, 0, none⟩) l := fun _ => ⟨g, 0, rfl, h.range⟩
theorem OwnD.cells {w : World} {g : Nat} {l : List Dt} (h : OwnD w g l) (i : Nat) (hi : i < l.length) : w.cell? ⟨g, i * 2, none⟩ = some (.int .i64 l[i].1) ∧ w.cell? ⟨g, i * 2 + 1, none⟩ = some (.int .i64 l[i].2) := by
  obtain ⟨g1, g2⟩ := dcl_get l i hi
  have h1 := h.range _ _ g1
  have h2 := h.range _ _ g2
  rw [Nat.zero_add] at h1 h2
  exact ⟨h1, h2⟩

theorem infoDt : (Tryd.prog.info? 32).map (fun i => (i.zero, i.size, i.bytes)) = some (some (.agg #[.int .i64 0, .int .i64 0]), 2, 16) := by kernel_rfl
/-- what a call owns lies where it is -/
theorem own_drow {w : World} {B : Nat} {v : Value} {n : Nat} {l : List Dt} (h : w.ownsRow B 32 2 v n (dcl l)) :
    n = l.length ∧ ∃ p cap, v = .slice p l.length cap ∧ l.length ≤ cap ∧ DRow w p l ∧ (p = none → l = [] ∧ cap = 0) ∧ (∀ a, p = some a → ∃ g, a = ⟨g, 0, none⟩ ∧ B ≤ g ∧ OwnD w g l) := by
  have hlen : n = l.length := by have := h.1; rw [dcl_length] at this; omega
  subst hlen
  refine ⟨rfl, ?_⟩
  rcases h.2 with ⟨rfl, hn⟩ | ⟨g, cap, cur, rfl, hle, hcur, hnc, hcm, hsz, htk⟩
  · obtain rfl := List.eq_nil_of_length_eq_zero hn
    exact ⟨none, 0, rfl, Nat.le_refl _, DRow.nil _ _, fun _ => ⟨rfl, rfl⟩, fun a ha => by cases ha⟩
  · have hO : OwnD w g l := by
      refine ⟨fun j u hu => ?_, fun j _ => frozen_of_row _ _ _ _ _ hcur, (Array.getElem?_eq_some_iff.1 hcur).1⟩
      have hj : j < l.length * 2 := by rw [← dcl_length]; exact (List.getElem?_eq_some_iff.1 hu).1
      have := congrArg (·[j]?) htk
      simp only [List.getElem?_take, if_pos hj, Array.getElem?_toList] at this
      rw [Nat.zero_add, cell_of_row _ g j _ _ _ hcur, this]; exact hu
    exact ⟨some ⟨g, 0, none⟩, cap, rfl, hnc, hO.row, fun e => (by cases e), fun a ha => by
      obtain rfl := Option.some.inj ha
      exact ⟨g, rfl, hle, hO⟩⟩

end Go.Proofs.YtdnkhcbglmfjbaaDoor
