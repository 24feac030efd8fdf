/- The document's own Tidy, as lists: passes that end, and dots that are put where they belong. No number of a program stands here. -/
import Derived.Test.YtnfknnkhabjciaaDotLists
namespace Go.Proofs.Ytnfknnkhabjciaa
open Go
set_option linter.unusedVariables false

structure Rch (F : Nat → Int) (l : List Dt) (G : Nat → Int) : Prop where
  base : ∀ i, i < 64 → clampF F i ≤ G i
  reach : ∀ i, i < 64 → ∀ k : Int, clampF F i < k → k ≤ G i → ((i : Int), k) ∈ l ∧ vl ((i : Int), k) = true
theorem Rch.start (F : Nat → Int) (l : List Dt) (G : Nat → Int) (h : ∀ i, i < 64 → G i = clampF F i) : Rch F l G :=
  ⟨fun i hi => by rw [h i hi]; exact Int.le_refl _, fun i hi k h1 h2 => by rw [h i hi] at h2; omega⟩
theorem Rch.good {F : Nat → Int} {l : List Dt} {G : Nat → Int} (h : Rch F l G) : ∀ i, i < 64 → 0 ≤ G i ∧ G i ≤ 1073741824 := fun i hi => by
  have a := h.base i hi
  have b := clampF_in F i
  refine ⟨by omega, ?_⟩
  by_cases e : G i ≤ clampF F i
  · omega
  · have := (vl_iff _).1 (h.reach i hi (G i) (by omega) (Int.le_refl _)).2
    simp at this; omega
def next (G : Nat → Int) (d : Dt) : Prop := vl d = true ∧ d.2 = G d.1.toNat + 1
theorem Rch.more {F : Nat → Int} {l : List Dt} {G : Nat → Int} {d : Dt} (h : Rch F l G) (hd : d ∈ l) (hn : next G d) : Rch F l (vset G d.1.toNat d.2) where
  base i hi := by
    have := h.base i hi
    have hn2 := hn.2
    unfold vset; split
    · rename_i e; subst e; omega
    · exact this
  reach i hi k h1 h2 := by
    have hvi := (vl_iff d).1 hn.1
    have hn2 := hn.2
    unfold vset at h2
    split at h2
    · rename_i e
      by_cases hk : k ≤ G i
      · exact h.reach i hi k h1 hk
      · have e2 : ((i : Int), k) = d := Prod.ext (by simp; omega) (by simp; subst e; omega)
        rw [e2]; exact ⟨hd, hn.1⟩
    · exact h.reach i hi k h1 h2
def Closed (G : Nat → Int) (l : List Dt) : Prop := ∀ d ∈ l, ¬ next G d
def ahead (G : Nat → Int) (d : Dt) : Bool := vl d && decide (G d.1.toNat < d.2)
def rem (G : Nat → Int) (l : List Dt) : Nat := l.countP (ahead G)
theorem countP_le {p q : Dt → Bool} : ∀ (l : List Dt), (∀ d ∈ l, p d = true → q d = true) → l.countP p ≤ l.countP q
  | [], _ => Nat.le_refl _
  | a :: l, h => by
    have ih := countP_le l fun d hd => h d (by simp [hd])
    have ha := h a (by simp)
    rw [List.countP_cons, List.countP_cons]
    split
    · rename_i hp; rw [if_pos (ha hp)]; omega
    · split <;> omega
theorem countP_lt {p q : Dt → Bool} : ∀ (l : List Dt), (∀ d ∈ l, p d = true → q d = true) → (∃ d ∈ l, p d = false ∧ q d = true) → l.countP p < l.countP q
  | [], _, ⟨d, hd, _⟩ => by cases hd
  | a :: l, h, ⟨d, hd, h1, h2⟩ => by
    have hr := fun d hd => h d (List.mem_cons_of_mem a hd)
    have ha := h a (by simp)
    rw [List.countP_cons, List.countP_cons]
    rcases List.mem_cons.1 hd with rfl | hd'
    · rw [h1, h2]
      have := countP_le l hr
      simp; omega
    · have ih := countP_lt l hr ⟨d, hd', h1, h2⟩
      split
      · rename_i hp; rw [if_pos (ha hp)]; omega
      · split <;> omega
theorem rem_mono {G G' : Nat → Int} {l : List Dt} (h : ∀ i, i < 64 → G i ≤ G' i) : rem G' l ≤ rem G l :=
  countP_le l fun d _ hd => by
    unfold ahead at *
    simp only [Bool.and_eq_true, decide_eq_true_eq] at *
    have := (vl_iff d).1 hd.1
    have := h d.1.toNat (by omega)
    exact ⟨hd.1, by omega⟩
theorem rem_more {G : Nat → Int} {l : List Dt} {d : Dt} (hd : d ∈ l) (hn : next G d) : rem (vset G d.1.toNat d.2) l < rem G l := by
  have hn2 := hn.2
  refine countP_lt l (fun x _ hx => ?_) ⟨d, hd, ?_, ?_⟩
  · unfold ahead at *
    simp only [Bool.and_eq_true, decide_eq_true_eq] at *
    refine ⟨hx.1, ?_⟩
    have := hx.2
    unfold vset at this
    split at this
    · rename_i e; rw [e]; omega
    · exact this
  · unfold ahead; simp [vset]
  · unfold ahead; rw [hn.1]; simp; omega
/-- how far a pass has come -/
structure Pass (F : Nat → Int) (l : List Dt) (G0 : Nat → Int) (k : Nat) (G : Nat → Int) : Prop where
  rch : Rch F l G
  up : ∀ i, i < 64 → G0 i ≤ G i
  way : (G = G0 ∧ ∀ d ∈ l.take k, ¬ next G0 d) ∨ (rem G l < rem G0 l ∧ ¬ Closed G0 l)
theorem Pass.start {F : Nat → Int} {l : List Dt} {G : Nat → Int} (h : Rch F l G) : Pass F l G 0 G := ⟨h, fun _ _ => Int.le_refl _, .inl ⟨rfl, fun d hd => by simp at hd⟩⟩
theorem Pass.skip {F : Nat → Int} {l : List Dt} {G0 G : Nat → Int} {k : Nat} (h : Pass F l G0 k G) (hk : k < l.length) (hn : ¬ next G l[k]) : Pass F l G0 (k + 1) G := by
  refine ⟨h.rch, h.up, ?_⟩
  rcases h.way with ⟨e, hw⟩ | hw
  · left
    refine ⟨e, fun d hd => ?_⟩
    rw [take_next l k hk] at hd
    rcases List.mem_append.1 hd with e2 | e2
    · exact hw d e2
    · rw [List.mem_singleton.1 e2, ← e]; exact hn
  · exact .inr hw
theorem Pass.more {F : Nat → Int} {l : List Dt} {G0 G : Nat → Int} {k : Nat} (h : Pass F l G0 k G) (hk : k < l.length) (hn : next G l[k]) : Pass F l G0 (k + 1) (vset G l[k].1.toNat l[k].2) := by
  have hm : l[k] ∈ l := List.getElem_mem hk
  have hr := rem_more hm hn
  have hn2 := hn.2
  refine ⟨h.rch.more hm hn, fun i hi => ?_, ?_⟩
  · have := h.up i hi
    unfold vset; split
    · rename_i e; subst e; omega
    · exact this
  · right
    rcases h.way with ⟨e, hw⟩ | ⟨hw, hc⟩
    · subst e; exact ⟨hr, fun hc => hc _ hm hn⟩
    · exact ⟨by omega, hc⟩
/-- how far the passes have come -/
structure Passes (F : Nat → Int) (l : List Dt) (t : Nat) (G : Nat → Int) : Prop where
  rch : Rch F l G
  way : Closed G l ∨ rem G l + t ≤ l.length
theorem Passes.start {F : Nat → Int} {l : List Dt} {G : Nat → Int} (h : Rch F l G) : Passes F l 0 G := ⟨h, .inr (by have := List.countP_le_length (p := ahead G) (l := l); exact this)⟩
theorem Passes.next {F : Nat → Int} {l : List Dt} {G0 G : Nat → Int} {t : Nat} (h : Passes F l t G0) (hp : Pass F l G0 l.length G) : Passes F l (t + 1) G := by
  refine ⟨hp.rch, ?_⟩
  rcases hp.way with ⟨e, hw⟩ | ⟨hw, hc⟩
  · left; subst e; rw [List.take_length] at hw; exact hw
  · right
    rcases h.way with h1 | h1
    · exact absurd h1 hc
    · omega
theorem Passes.closed {F : Nat → Int} {l : List Dt} {G : Nat → Int} (h : Passes F l l.length G) : Closed G l := by
  rcases h.way with h1 | h1
  · exact h1
  · intro d hd hn
    have h0 : rem G l = 0 := by omega
    have hn2 := hn.2
    have := List.countP_eq_zero.1 h0 d hd
    apply this
    unfold ahead; rw [hn.1]; simp; omega
/-- how far the dots behind the vector have been laid -/
structure Put (l : List Dt) (G : Nat → Int) (k : Nat) (o : List Dt) : Prop where
  rises : Rises o
  mem : ∀ x, x ∈ o ↔ (x ∈ l.take k ∧ vl x = true ∧ G x.1.toNat < x.2)
theorem Put.start (l : List Dt) (G : Nat → Int) : Put l G 0 [] := ⟨List.Pairwise.nil, fun x => by simp⟩
theorem Put.skip {l : List Dt} {G : Nat → Int} {k : Nat} {o : List Dt} (h : Put l G k o) (hk : k < l.length) (hs : vl l[k] = false ∨ knowsB G o l[k] = true) : Put l G (k + 1) o := by
  refine ⟨h.rises, fun x => ?_⟩
  rw [h.mem x, take_next l k hk, List.mem_append, List.mem_singleton]
  constructor
  · rintro ⟨a, b⟩; exact ⟨.inl a, b⟩
  · rintro ⟨a | a, b, c⟩
    · exact ⟨a, b, c⟩
    · subst a
      rcases hs with hs | hs
      · rw [hs] at b; cases b
      · rcases (knows_iff _ _ _).1 hs with ⟨_, h1 | h1⟩
        · omega
        · exact (h.mem _).1 h1
theorem Put.put {l : List Dt} {G : Nat → Int} {k : Nat} {o : List Dt} (h : Put l G k o) (hk : k < l.length) (hv : vl l[k] = true) (hs : knowsB G o l[k] = false) (at_ : Nat) (hat : at_ ≤ o.length)
    (h1 : ∀ j, (hj : j < o.length) → j < at_ → ltD o[j] l[k] = true) (h2 : ∀ j, (hj : j < o.length) → at_ ≤ j → ltD o[j] l[k] = false) : Put l G (k + 1) (o.take at_ ++ [l[k]] ++ o.drop at_) := by
  have hno : ¬ (l[k].2 ≤ G l[k].1.toNat ∨ l[k] ∈ o) := fun e => by rw [(knows_iff _ _ _).2 ⟨hv, e⟩] at hs; cases hs
  have ht : ∀ x ∈ o.take at_, ltD x l[k] = true := fun x hx => by
    obtain ⟨j, hj, rfl⟩ := List.getElem_of_mem hx
    rw [List.length_take] at hj
    rw [List.getElem_take]; exact h1 j (by omega) (by omega)
  have hd : ∀ x ∈ o.drop at_, ltD l[k] x = true := fun x hx => by
    obtain ⟨j, hj, rfl⟩ := List.getElem_of_mem hx
    rw [List.length_drop] at hj
    rw [List.getElem_drop]
    have a := h2 (at_ + j) (by omega) (by omega)
    cases hl : ltD l[k] (o[at_ + j]'(by omega)) with
    | true => rfl
    | false => exact absurd (.inr (by rw [← ltD_or _ _ a hl]; exact List.getElem_mem _)) hno
  refine ⟨?_, fun x => ?_⟩
  · have hr := h.rises
    rw [← List.take_append_drop at_ o] at hr
    obtain ⟨p1, p2, p3⟩ := List.pairwise_append.1 hr
    unfold Rises
    rw [List.append_assoc, List.pairwise_append]
    refine ⟨p1, List.pairwise_cons.2 ⟨hd, p2⟩, fun x hx y hy => ?_⟩
    rcases List.mem_cons.1 hy with rfl | hy
    · exact ht x hx
    · exact p3 x hx y hy
  · rw [take_next l k hk, List.mem_append, List.mem_append, List.mem_append, List.mem_singleton]
    have hsplit : x ∈ o ↔ (x ∈ o.take at_ ∨ x ∈ o.drop at_) := by rw [← List.mem_append, List.take_append_drop]
    have hm := h.mem x
    constructor
    · rintro ((a | a) | a)
      · have := hm.1 (hsplit.2 (.inl a)); exact ⟨.inl this.1, this.2⟩
      · subst a
        refine ⟨.inr rfl, hv, ?_⟩
        have : ¬ l[k].2 ≤ G l[k].1.toNat := fun e => hno (.inl e)
        omega
      · have := hm.1 (hsplit.2 (.inr a)); exact ⟨.inl this.1, this.2⟩
    · rintro ⟨a | a, b⟩
      · rcases hsplit.1 (hm.2 ⟨a, b⟩) with e | e
        · exact .inl (.inl e)
        · exact .inr e
      · exact .inl (.inr a)
theorem Put.tidy {F : Nat → Int} {l : List Dt} {G : Nat → Int} {o : List Dt} (h : Put l G l.length o) (hr : Rch F l G) (hc : Closed G l) : IsTidy F l G o where
  base := hr.base
  reach := hr.reach
  closed d hd hv e := hc d hd ⟨hv, e⟩
  rises := h.rises
  mem x := by have := h.mem x; rwa [List.take_length] at this
theorem Put.len {l : List Dt} {G : Nat → Int} {k : Nat} {o : List Dt} (h : Put l G k o) (hk : k ≤ l.length) : ∀ x ∈ o, x ∈ l := fun x hx => List.mem_of_mem_take ((h.mem x).1 hx).1
end Go.Proofs.Ytnfknnkhabjciaa
