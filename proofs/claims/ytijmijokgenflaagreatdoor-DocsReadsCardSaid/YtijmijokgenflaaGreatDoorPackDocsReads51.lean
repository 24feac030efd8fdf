/- The statement DocsReads, proved for every input that its row reads: part 51 of 54. -/
import Derived.Test.YtijmijokgenflaaGreatDoorPackDocsReads7
import Derived.Test.YtijmijokgenflaaGreatDoorVecOpen
import Derived.Test.YtijmijokgenflaaGreatDoorPackDocsReads10
/- Slices in structs that came in; dots. -/
namespace Go.Proofs.YtijmijokgenflaaGreatDoor
open Go Go.ChangeShapes Go.WideShapes Go.ChangeAt Go.RowKit
set_option linter.unusedVariables false

section
variable {H : Type} {enc : TypeId × Value → H} {P : Program} {W : World} {base fuel : Nat} {t e s a i : TypeId} {v : Value} {d : DataW H} {ps : List MemPlace} {cs : List Value} {x : DataW H × List MemPlace}
theorem leaf_things {k : Nat} {Q : List Value → Prop} (ht : P.underlying t = some (.slice e)) (hk : P.cellsOf e = k) (hk0 : 0 < k) (hQ : ∀ (n : Nat) (cs : List Value) (x : DataW H × List MemPlace), DataW.trod enc P W 0 (fun _ => true) true n e cs = some x → Q cs)
    (hf : DataW.trod enc P W 0 (fun _ => true) true fuel t cs = some x) : ∃ p n c E, cs = [.slice p n c] ∧ CameR W p n c k Q E := by
  rcases Deep.open_slice ht hf with ⟨hcs, _⟩ | ⟨a, len0, cap0, m, n, D, Pl, hcs, _, hl, hmx, hmm, _, hi⟩
  · exact ⟨none, 0, 0, fun _ => [], hcs, ⟨Nat.le_refl _, Nat.zero_le _, fun _ => ⟨rfl, rfl⟩, fun i hi => by omega, fun h => by omega⟩⟩
  · simp only [if_true] at hmm
    have each : ∀ i, ∃ cs' : List Value, i < len0 → Q cs' ∧ cs'.length = k ∧ ∀ j, j < k → W.cell? ((a.add (i * k)).add j) = cs'[j]? := by
      intro i
      by_cases hil : i < len0
      · obtain ⟨cs', h1, h2⟩ := hi i (by omega)
        rw [hk] at h1
        obtain ⟨_, h3, _⟩ := World.cells?_some h1
        exact ⟨cs', fun _ => ⟨hQ _ _ _ h2, h3, cells_at h1⟩⟩
      · exact ⟨[], fun h => absurd h hil⟩
    obtain ⟨E, hE⟩ := Classical.axiomOfChoice each
    refine ⟨some a, len0, cap0, E, hcs, ⟨hl, hmx, (fun h => by cases h), fun i hil => ⟨(hE i hil).1, (hE i hil).2.1⟩, fun h0 => ?_⟩⟩
    obtain ⟨b, o, spot⟩ := a
    have hsp : spot = none := by
      have h1 := (hE 0 h0).2.2 0 hk0
      rw [List.getElem?_eq_getElem (by have := (hE 0 h0).2.1; omega)] at h1
      simpa [Addr.add] using World.cell?_spot h1
    subst hsp
    refine ⟨b, o, rfl, fun i hil j u hu => ?_⟩
    have hj : j < k := by have := (List.getElem?_eq_some_iff.1 hu).1; have := (hE i hil).2.1; omega
    have h1 := (hE i hil).2.2 j hj
    rw [Addr.add_lit, Addr.add_lit] at h1
    rw [h1, hu]
end
/-- dots that came in -/
theorem dots_lie {W : World} {p : Option Addr} {n c : Nat} {E : Nat → List Value} (h : CameR W p n c 2 IsDot E) : ∃ l : List Dt, l.length = n ∧ DRow W p l := by
  have each : ∀ i, ∃ d : Dt, i < n → E i = [.int .i64 d.1, .int .i64 d.2] := fun i => by
    by_cases hi : i < n
    · obtain ⟨r, m, he, _⟩ := (h.each i hi).1
      exact ⟨(r, m), fun _ => he⟩
    · exact ⟨(0, 0), fun h => absurd h hi⟩
  obtain ⟨f, hf⟩ := Classical.axiomOfChoice each
  refine ⟨(List.range n).map f, by simp, fun hne => ?_⟩
  have h0 : 0 < n := by
    rcases Nat.eq_zero_or_pos n with e | e
    · subst e; simp at hne
    · exact e
  obtain ⟨b, o, rfl, hr⟩ := h.lies h0
  refine ⟨b, o, rfl, fun j u hu => ?_⟩
  obtain ⟨i, hi, hc⟩ := dcl_at _ j u hu
  simp at hi
  have hri := hr i hi
  rw [hf i hi] at hri
  simp only [List.getElem_map, List.getElem_range] at hc
  rcases hc with ⟨rfl, rfl⟩ | ⟨rfl, rfl⟩
  · exact hri 0 _ rfl
  · rw [← Nat.add_assoc]; exact hri 1 _ rfl
set_option maxRecDepth 1000000

/-- an event that came in -/
def IsEv (W : World) (cs : List Value) : Prop := ∃ x : EvP, cs = x.cells ∧ x.Ok W
section
variable {H : Type} {enc : TypeId × Value → H} {P : Program} {W : World} {base fuel : Nat} {t e s a i dt st : TypeId} {v : Value} {d : DataW H} {ps : List MemPlace} {cs : List Value} {x : DataW H × List MemPlace}
theorem trod_event {s0 s1 : Field} {f0 f1 f2 f3 f4 f5 f6 : Field} (ht : P.underlying t = some (.struct #[f0, f1, f2, f3, f4, f5, f6])) (hd : P.underlying dt = some (.struct #[s0, s1])) (hi : P.underlying i = some (.int .i64)) (hs : P.underlying s = some .string) (hst : P.underlying st = some (.slice dt))
    (hc : P.cellsOf t = 8) (hcd : P.cellsOf dt = 2) (hci : P.cellsOf i = 1) (hcs : P.cellsOf s = 1) (hcst : P.cellsOf st = 1) (g0 : s0.type = i ∧ s0.offset = 0) (g1 : s1.type = i ∧ s1.offset = 1)
    (h0 : f0.type = dt ∧ f0.offset = 0) (h1 : f1.type = i ∧ f1.offset = 2) (h2 : f2.type = i ∧ f2.offset = 3) (h3 : f3.type = s ∧ f3.offset = 4) (h4 : f4.type = i ∧ f4.offset = 5) (h5 : f5.type = s ∧ f5.offset = 6) (h6 : f6.type = st ∧ f6.offset = 7)
    (h : DataW.trod enc P W 0 (fun _ => true) true fuel t cs = some x) : IsEv W cs := by
  obtain ⟨ys, n, _, _, hl, hn, hg⟩ := DataW.trod_struct ht h
  rw [hc] at hl
  simp at hn
  have k0 := hg 0 f0 rfl
  rw [h0.1, h0.2, hcd, List.getElem?_eq_getElem (by omega)] at k0
  obtain ⟨r, m, e0, _, _⟩ := trod_dot hd hi hcd hci g0 g1 k0
  have k1 := hg 1 f1 rfl
  rw [h1.1, h1.2, hci, List.getElem?_eq_getElem (by omega)] at k1
  obtain ⟨z1, e1, _, _⟩ := DataW.trod_int hi k1
  have k2 := hg 2 f2 rfl
  rw [h2.1, h2.2, hci, List.getElem?_eq_getElem (by omega)] at k2
  obtain ⟨z2, e2, _, _⟩ := DataW.trod_int hi k2
  have k3 := hg 3 f3 rfl
  rw [h3.1, h3.2, hcs, List.getElem?_eq_getElem (by omega)] at k3
  obtain ⟨z3, e3, _, _⟩ := DataW.trod_string hs k3
  have k4 := hg 4 f4 rfl
  rw [h4.1, h4.2, hci, List.getElem?_eq_getElem (by omega)] at k4
  obtain ⟨z4, e4, _, _⟩ := DataW.trod_int hi k4
  have k5 := hg 5 f5 rfl
  rw [h5.1, h5.2, hcs, List.getElem?_eq_getElem (by omega)] at k5
  obtain ⟨z5, e5, _, _⟩ := DataW.trod_string hs k5
  have k6 := hg 6 f6 rfl
  rw [h6.1, h6.2, hcst, List.getElem?_eq_getElem (by omega)] at k6
  obtain ⟨p, q, c, E, e6, hC⟩ := leaf_things hst hcd (by omega) (fun n cs x h => trod_dot (cs := cs) hd hi hcd hci g0 g1 h) k6
  obtain ⟨l, hll, hD⟩ := dots_lie hC
  have c1 := take_one e1
  have c2 := take_one e2
  have c3 := take_one e3
  have c4 := take_one e4
  have c5 := take_one e5
  have c6 := take_one e6
  refine ⟨⟨⟨r, m, z1, z2, z3, z4, z5, l⟩, p, c⟩, ?_, hD, fun hp => ?_⟩
  · match cs, hl, e0, c1, c2, c3, c4, c5, c6 with
    | [a0, a1, a2, a3, a4, a5, a6, a7], _, e0, c1, c2, c3, c4, c5, c6 =>
      simp at e0 c1 c2 c3 c4 c5 c6
      obtain ⟨rfl, rfl⟩ := e0
      subst c1 c2 c3 c4 c5 c6
      simp [EvP.cells, hll]
  · have := (hC.nil hp).1
    rw [← hll] at this
    exact List.eq_nil_of_length_eq_zero this
/-- events that came in lie where they are -/
theorem evs_lie {p : Option Addr} {n c : Nat} {E : Nat → List Value} (h : CameR W p n c 8 (IsEv W) E) : ∃ L : List EvP, L.length = n ∧ EvsAt W p L := by
  have each : ∀ i, ∃ x : EvP, i < n → E i = x.cells ∧ x.Ok W := fun i => by
    by_cases hi : i < n
    · obtain ⟨x, he, hx⟩ := (h.each i hi).1
      exact ⟨x, fun _ => ⟨he, hx⟩⟩
    · exact ⟨⟨⟨0, 0, 0, 0, ByteArray.empty, 0, ByteArray.empty, []⟩, none, 0⟩, fun h => absurd h hi⟩
  obtain ⟨f, hf⟩ := Classical.axiomOfChoice each
  have hlen : ((List.range n).map f).length = n := by simp
  refine ⟨(List.range n).map f, hlen, ⟨fun hne => ?_, fun x hx => ?_, fun hp => ?_⟩⟩
  · have h0 : 0 < n := by
      rcases Nat.eq_zero_or_pos n with e | e
      · subst e; simp at hne
      · exact e
    obtain ⟨b, o, rfl, hr⟩ := h.lies h0
    refine ⟨b, o, rfl, fun j u hu => ?_⟩
    have hj : j < n * 8 := by
      have := (List.getElem?_eq_some_iff.1 hu).1
      rw [ecl_length, hlen] at this; exact this
    have hi : j / 8 < n := by omega
    have h1 := flat_get EvP.cells_len ((List.range n).map f) (j / 8) (by rw [hlen]; exact hi) (j % 8) (by omega)
    rw [show j / 8 * 8 + j % 8 = j by omega] at h1
    change (ecl _)[j]? = _ at h1
    rw [h1] at hu
    simp only [List.getElem_map, List.getElem_range] at hu
    have h2 := hr (j / 8) hi
    rw [(hf (j / 8) hi).1] at h2
    have h3 := h2 (j % 8) u hu
    rw [show o + j / 8 * 8 + j % 8 = o + j by omega] at h3
    exact h3
  · obtain ⟨i, hi, rfl⟩ := List.mem_map.1 hx
    exact (hf i (List.mem_range.1 hi)).2
  · have := (h.nil hp).1
    subst this; rfl
theorem trod_past {f0 f1 : Field} (ht : P.underlying t = some (.struct #[f0, f1])) (V : Vec P a i) (hci : P.cellsOf i = 1) (hca : P.cellsOf a = 64) (hs : P.underlying s = some (.slice e)) (hcs : P.cellsOf s = 1) (hce : P.cellsOf e = 8) (hc : P.cellsOf t = 65)
    (h0 : f0.type = s ∧ f0.offset = 0) (h1 : f1.type = a ∧ f1.offset = 1) (hQ : ∀ (n : Nat) (cs : List Value) (x : DataW H × List MemPlace), DataW.trod enc P W 0 (fun _ => true) true n e cs = some x → IsEv W cs)
    (h : DataW.trod enc P W 0 (fun _ => true) true fuel t cs = some x) : ∃ F p n c E, cs = .slice p n c :: (vf F).toList ∧ Wide F ∧ CameR W p n c 8 (IsEv W) E := by
  obtain ⟨ys, n, _, _, hl, hn, hg⟩ := DataW.trod_struct ht h
  rw [hc] at hl
  simp at hn
  have h2 := hg 0 f0 rfl
  rw [h0.1, h0.2, hcs, List.getElem?_eq_getElem (by omega)] at h2
  obtain ⟨p, m, c, E, hE, hC⟩ := leaf_things hs hce (by omega) hQ h2
  have h4 := hg 1 f1 rfl
  rw [h1.1, h1.2, hca, List.getElem?_eq_getElem (by omega)] at h4
  obtain ⟨F, hF, wF⟩ := vec_cells V hci hca h4
  refine ⟨F, p, m, c, E, ?_, wF, hC⟩
  have hz := take_one hE
  rw [← hF, List.take_of_length_le (by simp; omega)]
  match cs, hl, hz with
  | c :: cs, _, hz => simp at hz; subst hz; rfl
end
end Go.Proofs.YtijmijokgenflaaGreatDoor
