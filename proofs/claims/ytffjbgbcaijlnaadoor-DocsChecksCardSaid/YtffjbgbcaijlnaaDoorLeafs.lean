/- Slices in structs that came in; dots. -/
import Derived.Test.YtffjbgbcaijlnaaDoorDotMem
import Derived.Test.YtffjbgbcaijlnaaDoorVecOpen
namespace Go.Proofs.YtffjbgbcaijlnaaDoor
open Go Go.ChangeShapes Go.WideShapes Go.ChangeAt Go.RowKit
set_option linter.unusedVariables false

section
variable {H : Type} {enc : TypeId × Value → H} {P : Program} {W : World} {base fuel : Nat} {t e s a i : TypeId} {v : Value} {d : DataW H} {ps : List MemPlace} {cs : List Value} {x : DataW H × List MemPlace}
theorem leaf_things {k : Nat} {Q : List Value → Prop} (ht : P.underlying t = some (.slice e)) (hk : P.cellsOf e = k) (hk0 : 0 < k) (hQ : ∀ (n : Nat) (cs : List Value) (x : DataW H × List MemPlace), DataW.trod enc P W 0 (fun _ => true) true n e cs = some x → Q cs)
    (hf : DataW.trod enc P W 0 (fun _ => true) true fuel t cs = some x) : ∃ p n c E, cs = [.slice p n c] ∧ CameR W p n c k Q E := by
  rcases Deep.open_slice ht hf with ⟨hcs, _⟩ | ⟨a, len0, cap0, m, n, D, Pl, hcs, _, hl, hmx, hmm, _, hi⟩
  · exact ⟨none, 0, 0, fun _ => [], hcs, ⟨Nat.le_refl _, Nat.zero_le _, fun _ => ⟨rfl, rfl⟩, fun i hi => by omega, fun h => by omega⟩⟩
  · simp only [if_true] at hmm
    have each : ∀ i, ∃ cs' : List Value, i < len0 → Q cs' ∧ cs'.length = k ∧ ∀ j, j < k → W.cell? ((a.add (i * k)).add j) = cs'[j]? := by
      intro i
      by_cases hil : i < len0
      · obtain ⟨cs', h1, h2⟩ := hi i (by omega)
        rw [hk] at h1
        obtain ⟨_, h3, _⟩ := World.cells?_some h1
        exact ⟨cs', fun _ => ⟨hQ _ _ _ h2, h3, cells_at h1⟩⟩
      · exact ⟨[], fun h => absurd h hil⟩
    obtain ⟨E, hE⟩ := Classical.axiomOfChoice each
    refine ⟨some a, len0, cap0, E, hcs, ⟨hl, hmx, (fun h => by cases h), fun i hil => ⟨(hE i hil).1, (hE i hil).2.1⟩, fun h0 => ?_⟩⟩
    obtain ⟨b, o, spot⟩ := a
    have hsp : spot = none := by
      have h1 := (hE 0 h0).2.2 0 hk0
      rw [List.getElem?_eq_getElem (by have := (hE 0 h0).2.1; omega)] at h1
      simpa [Addr.add] using World.cell?_spot h1
    subst hsp
    refine ⟨b, o, rfl, fun i hil j u hu => ?_⟩
    have hj : j < k := by have := (List.getElem?_eq_some_iff.1 hu).1; have := (hE i hil).2.1; omega
    have h1 := (hE i hil).2.2 j hj
    rw [Addr.add_lit, Addr.add_lit] at h1
    rw [h1, hu]
end
/-- dots that came in -/
theorem dots_lie {W : World} {p : Option Addr} {n c : Nat} {E : Nat → List Value} (h : CameR W p n c 2 IsDot E) : ∃ l : List Dt, l.length = n ∧ DRow W p l := by
  have each : ∀ i, ∃ d : Dt, i < n → E i = [.int .i64 d.1, .int .i64 d.2] := fun i => by
    by_cases hi : i < n
    · obtain ⟨r, m, he, _⟩ := (h.each i hi).1
      exact ⟨(r, m), fun _ => he⟩
    · exact ⟨(0, 0), fun h => absurd h hi⟩
  obtain ⟨f, hf⟩ := Classical.axiomOfChoice each
  refine ⟨(List.range n).map f, by simp, fun hne => ?_⟩
  have h0 : 0 < n := by
    rcases Nat.eq_zero_or_pos n with e | e
    · subst e; simp at hne
    · exact e
  obtain ⟨b, o, rfl, hr⟩ := h.lies h0
  refine ⟨b, o, rfl, fun j u hu => ?_⟩
  obtain ⟨i, hi, hc⟩ := dcl_at _ j u hu
  simp at hi
  have hri := hr i hi
  rw [hf i hi] at hri
  simp only [List.getElem_map, List.getElem_range] at hc
  rcases hc with ⟨rfl, rfl⟩ | ⟨rfl, rfl⟩
  · exact hri 0 _ rfl
  · rw [← Nat.add_assoc]; exact hri 1 _ rfl
end Go.Proofs.YtffjbgbcaijlnaaDoor
