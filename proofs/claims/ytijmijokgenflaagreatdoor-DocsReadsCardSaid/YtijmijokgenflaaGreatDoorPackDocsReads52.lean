/- The statement DocsReads, proved for every input that its row reads: part 52 of 54. -/
import Derived.Test.YtijmijokgenflaaGreatDoorPackDocsReads24
import Derived.Test.YtijmijokgenflaaGreatDoorVecOpen
import Derived.Test.YtijmijokgenflaaGreatDoorPackDocsReads51
/- States that came in, by value. -/
namespace Go.Proofs.YtijmijokgenflaaGreatDoor
open Go Go.ChangeShapes Go.WideShapes Go.ChangeAt Go.RowKit
set_option linter.unusedVariables false
set_option maxRecDepth 1000000

/-- writes that came in lie where they are -/
theorem wrs_lie {W : World} {p : Option Addr} {n c : Nat} {E : Nat → List Value} (h : CameR W p n c 6 IsWrite E) : ∃ L : List Wr, L.length = n ∧ WrsAt W p L := by
  have each : ∀ i, ∃ x : Wr, i < n → E i = x.cells := fun i => by
    by_cases hi : i < n
    · obtain ⟨r, m, t, f, d, x, he, _⟩ := (h.each i hi).1
      exact ⟨⟨r, m, t, d, f, x⟩, fun _ => he⟩
    · exact ⟨⟨0, 0, 0, ByteArray.empty, 0, ByteArray.empty⟩, fun h => absurd h hi⟩
  obtain ⟨f, hf⟩ := Classical.axiomOfChoice each
  have hlen : ((List.range n).map f).length = n := by simp
  refine ⟨(List.range n).map f, hlen, ⟨fun hne => ?_, fun hp => ?_⟩⟩
  · have h0 : 0 < n := by
      rcases Nat.eq_zero_or_pos n with e | e
      · subst e; simp at hne
      · exact e
    obtain ⟨b, o, rfl, hr⟩ := h.lies h0
    refine ⟨b, o, rfl, fun j u hu => ?_⟩
    have hj : j < n * 6 := by
      have := (List.getElem?_eq_some_iff.1 hu).1
      rw [wcl_length, hlen] at this; exact this
    have hi : j / 6 < n := by omega
    have h1 := flat_get Wr.cells_len ((List.range n).map f) (j / 6) (by rw [hlen]; exact hi) (j % 6) (by omega)
    rw [show j / 6 * 6 + j % 6 = j by omega] at h1
    change (wcl _)[j]? = _ at h1
    rw [h1] at hu
    simp only [List.getElem_map, List.getElem_range] at hu
    have h2 := hr (j / 6) hi
    rw [hf (j / 6) hi] at h2
    have h3 := h2 (j % 6) u hu
    rw [show o + j / 6 * 6 + j % 6 = o + j by omega] at h3
    exact h3
  · have := (h.nil hp).1
    subst this; rfl
section
variable {H : Type} {enc : TypeId × Value → H} {P : Program} {W : World} {base fuel : Nat} {t e s a i : TypeId} {v : Value} {d : DataW H} {ps : List MemPlace} {cs : List Value} {x : DataW H × List MemPlace}
theorem trod_state {f0 f1 : Field} {Q : List Value → Prop} (ht : P.underlying t = some (.struct #[f0, f1])) (V : Vec P a i) (hci : P.cellsOf i = 1) (hca : P.cellsOf a = 64) (hs : P.underlying s = some (.slice e)) (hcs : P.cellsOf s = 1) (hce : P.cellsOf e = 6) (hc : P.cellsOf t = 65)
    (h0 : f0.type = a ∧ f0.offset = 0) (h1 : f1.type = s ∧ f1.offset = 64) (hQ : ∀ (n : Nat) (cs : List Value) (x : DataW H × List MemPlace), DataW.trod enc P W 0 (fun _ => true) true n e cs = some x → Q cs)
    (h : DataW.trod enc P W 0 (fun _ => true) true fuel t cs = some x) : ∃ F p n c E, cs = (vf F).toList ++ [.slice p n c] ∧ Wide F ∧ CameR W p n c 6 Q E := by
  obtain ⟨ys, n, _, _, hl, hn, hg⟩ := DataW.trod_struct ht h
  rw [hc] at hl
  simp at hn
  have h2 := hg 0 f0 rfl
  rw [h0.1, h0.2, hca, List.getElem?_eq_getElem (by omega)] at h2
  obtain ⟨F, hF, wF⟩ := vec_cells V hci hca h2
  have h4 := hg 1 f1 rfl
  rw [h1.1, h1.2, hcs, List.getElem?_eq_getElem (by omega)] at h4
  obtain ⟨p, m, c, E, hE, hC⟩ := leaf_things hs hce (by omega) hQ h4
  refine ⟨F, p, m, c, E, ?_, wF, hC⟩
  rw [← hF, ← hE, List.drop_zero, List.take_of_length_le (l := List.drop 64 cs) (by simp; omega), List.take_append_drop]
end
theorem typesSt : (Tryz.prog.cellTypes Tryz.prog.depth 26).map (fun ts => (ts.length, ts[64]?)) = some (65, some 24) := by kernel_rfl
/-- a state that came in -/
theorem open_state {H : Type} {enc : TypeId × Value → H} {W : World} {base : Nat} {v : Value} {d : DataW H} {ps : List MemPlace} (hv : Value.okWide Tryz.prog W .any base 26 v)
    (h : DataW.Trod enc Tryz.prog W 0 (fun _ => true) true 26 v d ps) : ∃ (F : Nat → Int) (p : Option Addr) (c : Nat) (L : List Wr), v = .agg (scs F (.slice p L.length c)) ∧ WrsAt W p L ∧ (∀ a, p = some a → ∃ b o, a = ⟨b, o, none⟩) := by
  obtain ⟨fuel, hf⟩ := h
  obtain ⟨F, p, n, c, E, hcs, _, hC⟩ := trod_state Tryz.underlying26 vecI (by kernel_rfl) (by kernel_rfl) Tryz.underlying24 (by kernel_rfl) (by kernel_rfl) (by kernel_rfl) ⟨rfl, rfl⟩ ⟨rfl, rfl⟩
    (fun n cs x h => trod_write Tryz.underlying39 Tryz.underlying37 Tryz.underlying3 Tryz.underlying9 (by kernel_rfl) (by kernel_rfl) (by kernel_rfl) (by kernel_rfl) ⟨rfl, rfl⟩ ⟨rfl, rfl⟩ ⟨rfl, rfl⟩ ⟨rfl, rfl⟩ ⟨rfl, rfl⟩ ⟨rfl, rfl⟩ ⟨rfl, rfl⟩ h) hf
  simp only [Value.okWide, Tryz.underlying26] at hv
  obtain ⟨xs, rfl, hxs, ts, hts, _, hrow⟩ := hv
  simp only [Value.cells] at hcs
  have hx : xs = scs F (.slice p n c) := by
    apply Array.toList_inj.1
    rw [hcs, scs]
  subst hx
  obtain ⟨L, hl, hD⟩ := wrs_lie hC
  have hT := typesSt
  rw [hts] at hT
  simp only [Option.map_some, Option.some.injEq, Prod.mk.injEq] at hT
  obtain ⟨u, hu, hok⟩ := hrow 64 (.slice p n c) (scs_slot _ _)
  rw [hT.1, show 64 % 65 = 64 from rfl, hT.2] at hu
  obtain rfl := Option.some.inj hu
  refine ⟨F, p, c, L, by rw [hl], hD, fun a e => ?_⟩
  subst e
  simp only [Cell.okWide, Tryz.underlying24, Cell.ok, World.has] at hok
  obtain ⟨b, o, spot⟩ := a
  obtain rfl : spot = none := hok.2.2.2.1
  exact ⟨b, o, rfl⟩
end Go.Proofs.YtijmijokgenflaaGreatDoor
