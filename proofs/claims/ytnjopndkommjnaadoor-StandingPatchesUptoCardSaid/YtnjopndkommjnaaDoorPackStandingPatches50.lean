/- The statement StandingPatches, proved for every input that its row reads: part 50 of 54. -/
import Derived.Test.YtnjopndkommjnaaDoorThings
import Derived.Test.YtnjopndkommjnaaDoorPackStandingPatches13
/- Hits and changes that came in. -/
namespace Go.Proofs.YtnjopndkommjnaaDoor
open Go Go.ChangeShapes Go.WideShapes Go.ChangeAt Go.RowKit
set_option linter.unusedVariables false
set_option maxRecDepth 1000000

def OkHt (x : Ht) : Prop := -9223372036854775808 ≤ x.score ∧ x.score ≤ 9223372036854775807
def OkChg (x : Chg) : Prop := (-9223372036854775808 ≤ x.kind ∧ x.kind ≤ 9223372036854775807) ∧ OkHt x.hit
def IsHt (cs : List Value) : Prop := ∃ x : Ht, cs = x.cells ∧ OkHt x
def IsChg (cs : List Value) : Prop := ∃ x : Chg, cs = x.cells ∧ OkChg x
section
variable {H : Type} {enc : TypeId × Value → H} {P : Program} {w : World} {base : Nat} {sp : Nat → Bool} {held : Bool} {fuel : Nat} {t i s ht : TypeId} {cs : List Value} {x : DataW H × List MemPlace}
theorem trod_hit {f0 f1 : Field} (hu : P.underlying t = some (.struct #[f0, f1])) (hs : P.underlying s = some .string) (hi : P.underlying i = some (.int .i64))
    (hc : P.cellsOf t = 2) (hcs : P.cellsOf s = 1) (hci : P.cellsOf i = 1) (h0 : f0.type = s ∧ f0.offset = 0) (h1 : f1.type = i ∧ f1.offset = 1)
    (h : DataW.trod enc P w base sp held fuel t cs = some x) : IsHt cs := by
  obtain ⟨ys, n, _, _, hl, hn, hg⟩ := DataW.trod_struct hu h
  rw [hc] at hl
  simp at hn
  have k0 := hg 0 f0 rfl
  rw [h0.1, h0.2, hcs, List.getElem?_eq_getElem (by omega)] at k0
  obtain ⟨z0, e0, _, _⟩ := DataW.trod_string hs k0
  have k1 := hg 1 f1 rfl
  rw [h1.1, h1.2, hci, List.getElem?_eq_getElem (by omega)] at k1
  obtain ⟨z1, e1, _, w1⟩ := DataW.trod_int hi k1
  have c0 := take_one e0
  have c1 := take_one e1
  refine ⟨⟨z0, z1⟩, ?_, wide_wf w1⟩
  match cs, hl, c0, c1 with
  | [a0, a1], _, c0, c1 =>
    simp at c0 c1
    rw [c0, c1]
    rfl
theorem trod_chg {g0 g1 f0 f1 : Field} (hu : P.underlying t = some (.struct #[f0, f1])) (hh : P.underlying ht = some (.struct #[g0, g1])) (hs : P.underlying s = some .string) (hi : P.underlying i = some (.int .i64))
    (hc : P.cellsOf t = 3) (hch : P.cellsOf ht = 2) (hcs : P.cellsOf s = 1) (hci : P.cellsOf i = 1) (k0 : g0.type = s ∧ g0.offset = 0) (k1 : g1.type = i ∧ g1.offset = 1) (h0 : f0.type = i ∧ f0.offset = 0) (h1 : f1.type = ht ∧ f1.offset = 1)
    (h : DataW.trod enc P w base sp held fuel t cs = some x) : IsChg cs := by
  obtain ⟨ys, n, _, _, hl, hn, hg⟩ := DataW.trod_struct hu h
  rw [hc] at hl
  simp at hn
  have m0 := hg 0 f0 rfl
  rw [h0.1, h0.2, hci, List.getElem?_eq_getElem (by omega)] at m0
  obtain ⟨z0, e0, _, w0⟩ := DataW.trod_int hi m0
  have m1 := hg 1 f1 rfl
  rw [h1.1, h1.2, hch, List.getElem?_eq_getElem (by omega)] at m1
  obtain ⟨y, e1, wy⟩ := trod_hit hh hs hi hch hcs hci k0 k1 m1
  have c0 := take_one e0
  refine ⟨⟨z0, y⟩, ?_, wide_wf w0, wy⟩
  match cs, hl, c0, e1 with
  | [a0, a1, a2], _, c0, e1 =>
    simp [Ht.cells] at c0 e1
    rw [c0, e1.1, e1.2]
    rfl
end
theorem hits_lie {W : World} {p : Option Addr} {n c : Nat} {E : Nat → List Value} (h : CameR W p n c 2 IsHt E) : ∃ T : List Ht, T.length = n ∧ HtsAt W p T ∧ ∀ t ∈ T, OkHt t := by
  have each : ∀ i, ∃ x : Ht, i < n → E i = x.cells ∧ OkHt x := fun i => by
    by_cases hi : i < n
    · obtain ⟨x, he, hx⟩ := (h.each i hi).1
      exact ⟨x, fun _ => ⟨he, hx⟩⟩
    · exact ⟨⟨ByteArray.empty, 0⟩, fun h => absurd h hi⟩
  obtain ⟨f, hf⟩ := Classical.axiomOfChoice each
  have hlen : ((List.range n).map f).length = n := by simp
  refine ⟨(List.range n).map f, hlen, ⟨fun hne => ?_, fun hp => ?_⟩, fun x hx => ?_⟩
  · have h0 : 0 < n := by
      rcases Nat.eq_zero_or_pos n with e | e
      · subst e; simp at hne
      · exact e
    obtain ⟨b, o, rfl, hr⟩ := h.lies h0
    refine ⟨b, o, rfl, fun j u hu => ?_⟩
    have hj : j < n * 2 := by
      have := (List.getElem?_eq_some_iff.1 hu).1
      rw [hcl_length, hlen] at this; exact this
    have hi : j / 2 < n := by omega
    have h1 := flat_get Ht.cells_len ((List.range n).map f) (j / 2) (by rw [hlen]; exact hi) (j % 2) (by omega)
    rw [show j / 2 * 2 + j % 2 = j by omega] at h1
    change (hcl _)[j]? = _ at h1
    rw [h1] at hu
    simp only [List.getElem_map, List.getElem_range] at hu
    have h2 := hr (j / 2) hi
    rw [(hf (j / 2) hi).1] at h2
    have h3 := h2 (j % 2) u hu
    rw [show o + j / 2 * 2 + j % 2 = o + j by omega] at h3
    exact h3
  · have := (h.nil hp).1
    subst this
    rfl
  · obtain ⟨i, hi, rfl⟩ := List.mem_map.1 hx
    exact (hf i (List.mem_range.1 hi)).2
theorem open_hits {H : Type} {enc : TypeId × Value → H} {W : World} {base : Nat} {v : Value} {d : DataW H} {ps : List MemPlace} (hv : Value.okWide Tryd.prog W .any base 22 v)
    (h : DataW.Trod enc Tryd.prog W 0 (fun _ => true) true 22 v d ps) : ∃ (p : Option Addr) (c : Nat) (T : List Ht), v = .slice p T.length c ∧ HtsAt W p T ∧ T.length ≤ c ∧ ∀ t ∈ T, OkHt t := by
  obtain ⟨p, n, c, E, rfl, hC⟩ := open_things Tryd.underlying22 (k := 2) (Q := IsHt) (by kernel_rfl) (by omega) (fun n cs x h => trod_hit Tryd.underlying28 Tryd.underlying9 Tryd.underlying3 (by kernel_rfl) (by kernel_rfl) (by kernel_rfl) ⟨rfl, rfl⟩ ⟨rfl, rfl⟩ h) hv h
  obtain ⟨T, hl, hT, hO⟩ := hits_lie hC
  exact ⟨p, c, T, by rw [hl], hT, by rw [hl]; exact hC.le, hO⟩
theorem chgs_lie {W : World} {p : Option Addr} {n c : Nat} {E : Nat → List Value} (h : CameR W p n c 3 IsChg E) : ∃ T : List Chg, T.length = n ∧ ChgsAt W p T ∧ ∀ t ∈ T, OkChg t := by
  have each : ∀ i, ∃ x : Chg, i < n → E i = x.cells ∧ OkChg x := fun i => by
    by_cases hi : i < n
    · obtain ⟨x, he, hx⟩ := (h.each i hi).1
      exact ⟨x, fun _ => ⟨he, hx⟩⟩
    · exact ⟨⟨0, ⟨ByteArray.empty, 0⟩⟩, fun h => absurd h hi⟩
  obtain ⟨f, hf⟩ := Classical.axiomOfChoice each
  have hlen : ((List.range n).map f).length = n := by simp
  refine ⟨(List.range n).map f, hlen, ⟨fun hne => ?_, fun hp => ?_⟩, fun x hx => ?_⟩
  · have h0 : 0 < n := by
      rcases Nat.eq_zero_or_pos n with e | e
      · subst e; simp at hne
      · exact e
    obtain ⟨b, o, rfl, hr⟩ := h.lies h0
    refine ⟨b, o, rfl, fun j u hu => ?_⟩
    have hj : j < n * 3 := by
      have := (List.getElem?_eq_some_iff.1 hu).1
      rw [ccl_length, hlen] at this; exact this
    have hi : j / 3 < n := by omega
    have h1 := flat_get Chg.cells_len ((List.range n).map f) (j / 3) (by rw [hlen]; exact hi) (j % 3) (by omega)
    rw [show j / 3 * 3 + j % 3 = j by omega] at h1
    change (ccl _)[j]? = _ at h1
    rw [h1] at hu
    simp only [List.getElem_map, List.getElem_range] at hu
    have h2 := hr (j / 3) hi
    rw [(hf (j / 3) hi).1] at h2
    have h3 := h2 (j % 3) u hu
    rw [show o + j / 3 * 3 + j % 3 = o + j by omega] at h3
    exact h3
  · have := (h.nil hp).1
    subst this
    rfl
  · obtain ⟨i, hi, rfl⟩ := List.mem_map.1 hx
    exact (hf i (List.mem_range.1 hi)).2
theorem open_chgs {H : Type} {enc : TypeId × Value → H} {W : World} {base : Nat} {v : Value} {d : DataW H} {ps : List MemPlace} (hv : Value.okWide Tryd.prog W .any base 26 v)
    (h : DataW.Trod enc Tryd.prog W 0 (fun _ => true) true 26 v d ps) : ∃ (p : Option Addr) (c : Nat) (T : List Chg), v = .slice p T.length c ∧ ChgsAt W p T ∧ T.length ≤ c ∧ ∀ t ∈ T, OkChg t := by
  obtain ⟨p, n, c, E, rfl, hC⟩ := open_things Tryd.underlying26 (k := 3) (Q := IsChg) (by kernel_rfl) (by omega) (fun n cs x h => trod_chg Tryd.underlying30 Tryd.underlying28 Tryd.underlying9 Tryd.underlying3 (by kernel_rfl) (by kernel_rfl) (by kernel_rfl) (by kernel_rfl) ⟨rfl, rfl⟩ ⟨rfl, rfl⟩ ⟨rfl, rfl⟩ ⟨rfl, rfl⟩ h) hv h
  obtain ⟨T, hl, hT, hO⟩ := chgs_lie hC
  exact ⟨p, c, T, by rw [hl], hT, by rw [hl]; exact hC.le, hO⟩
end Go.Proofs.YtnjopndkommjnaaDoor
