/- The statement StandingPatches, proved for every input that its row reads: part 38 of 54. -/
import Derived.Test.YtnjopndkommjnaaDoorPackStandingPatches37
/- standing, plain: what a round through a table has met. -/
namespace Go.Proofs.YtnjopndkommjnaaDoor
open Go
set_option linter.unusedVariables false

theorem map_inj {α β : Type} {f : α → β} : ∀ {l : List α} {a b : α}, (l.map f).Nodup → a ∈ l → b ∈ l → f a = f b → a = b
  | x :: l, a, b, hn, ha, hb, e => by
    rw [List.map_cons] at hn
    have hn' := List.nodup_cons.1 hn
    rcases List.mem_cons.1 ha with ha1 | ha1
    · rcases List.mem_cons.1 hb with hb1 | hb1
      · rw [ha1, hb1]
      · exact (hn'.1 (List.mem_map.2 ⟨b, hb1, by rw [← e, ha1]⟩)).elim
    · rcases List.mem_cons.1 hb with hb1 | hb1
      · exact (hn'.1 (List.mem_map.2 ⟨a, ha1, by rw [e, hb1]⟩)).elim
      · exact map_inj hn'.2 ha1 hb1 e
theorem nodup_of_map {α β : Type} {f : α → β} : ∀ {l : List α}, (l.map f).Nodup → l.Nodup
  | [], _ => List.nodup_nil
  | x :: l, hn => by
    rw [List.map_cons] at hn
    have hn' := List.nodup_cons.1 hn
    exact List.nodup_cons.2 ⟨fun h => hn'.1 (List.mem_map.2 ⟨x, h, rfl⟩), nodup_of_map hn'.2⟩
theorem map_nodup {α β : Type} {f : α → β} : ∀ {l : List α}, l.Nodup → (∀ a ∈ l, ∀ b ∈ l, f a = f b → a = b) → (l.map f).Nodup
  | [], _, _ => List.nodup_nil
  | x :: l, hn, hi => by
    have hn' := List.nodup_cons.1 hn
    rw [List.map_cons]
    refine List.nodup_cons.2 ⟨fun h => ?_, map_nodup hn'.2 fun a ha b hb => hi a (by simp [ha]) b (by simp [hb])⟩
    obtain ⟨y, hy, e⟩ := List.mem_map.1 h
    have := hi y (by simp [hy]) x (by simp) e
    rw [this] at hy
    exact hn'.1 hy
theorem nodup_len {α : Type} : ∀ (ks ids : List α), ks.Nodup → (∀ a ∈ ks, a ∈ ids) → ks.length ≤ ids.length := by
  intro ks
  induction ks with
  | nil => intro ids _ _; simp
  | cons k ks ih =>
    intro ids hn hs
    have hn' := List.nodup_cons.1 hn
    have hk := hs k (by simp)
    obtain ⟨A, B, rfl⟩ := List.append_of_mem hk
    have := ih (A ++ B) hn'.2 fun a ha => by
      have h1 := hs a (by simp [ha])
      rw [List.mem_append, List.mem_cons] at h1
      rw [List.mem_append]
      rcases h1 with h1 | rfl | h1
      · exact .inl h1
      · exact absurd ha hn'.1
      · exact .inr h1
    simp only [List.length_append, List.length_cons] at this ⊢
    omega
theorem allOf_snoc (ks : List ByteArray) (f : ByteArray → List Int) (id : ByteArray) : allOf (ks ++ [id]) f = allOf ks f ++ (f id).map fun s => ⟨id, s⟩ := by simp [allOf]
theorem allOf_len (f : ByteArray → List Int) (m : Nat) (hf : ∀ id, (f id).length ≤ m) : ∀ ks : List ByteArray, (allOf ks f).length ≤ ks.length * m
  | [] => by simp [allOf]
  | k :: ks => by
    have h1 := allOf_len f m hf ks
    have h2 := hf k
    unfold allOf at h1 ⊢
    rw [List.flatMap_cons, List.length_append, List.length_map, List.length_cons, Nat.add_mul]
    omega
/-- entries: name, value, when it came; those that were met -/
structure Met {α : Type} (es V : List (ByteArray × α × Nat)) : Prop where
  sub : ∀ e ∈ V, e ∈ es
  born : (V.map (·.2.2)).Nodup
theorem Met.ids {α : Type} {es V : List (ByteArray × α × Nat)} (h : Met es V) (hi : (es.map (·.1)).Nodup) : (V.map (·.1)).Nodup :=
  map_nodup (nodup_of_map h.born) fun a ha b hb e => map_inj hi (h.sub a ha) (h.sub b hb) e
theorem Met.len {α : Type} {es V : List (ByteArray × α × Nat)} (h : Met es V) : V.length ≤ es.length := nodup_len V es (nodup_of_map h.born) h.sub
theorem Met.more {α : Type} {es V : List (ByteArray × α × Nat)} (h : Met es V) {e : ByteArray × α × Nat} (he : e ∈ es) (hb : e.2.2 ∉ V.map (·.2.2)) : Met es (V ++ [e]) :=
  ⟨fun x hx => by
    rcases List.mem_append.1 hx with hx | hx
    · exact h.sub x hx
    · rw [List.mem_singleton.1 hx]; exact he, by
    rw [List.map_append]
    refine List.nodup_append.2 ⟨h.born, by simp, fun a ha b hb2 q => ?_⟩
    simp at hb2
    subst hb2; subst q
    exact hb ha⟩
/-- when all were met, the hits are the answer's -/
theorem Met.all {α : Type} {es V : List (ByteArray × α × Nat)} {N : List Ht} (h : Met es V) (hi : (es.map (·.1)).Nodup) (hb : (es.map (·.2.2)).Nodup) (hall : ∀ e ∈ es, e.2.2 ∈ V.map (·.2.2)) (hrest : ∀ id, id ∉ es.map (·.1) → scoresOf N id = []) : (allOf (V.map (·.1)) (scoresOf N)).Perm N := by
  refine all_perm (h.ids hi) (fun id hid => hrest id fun q => hid ?_) (fun _ => rfl)
  obtain ⟨e, he, rfl⟩ := List.mem_map.1 q
  obtain ⟨x, hx, hxe⟩ := List.mem_map.1 (hall e he)
  have := map_inj hb (h.sub x hx) he hxe
  rw [this] at hx
  exact List.mem_map.2 ⟨e, hx, rfl⟩
end Go.Proofs.YtnjopndkommjnaaDoor
