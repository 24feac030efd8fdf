/- Contexts that came in, by value. -/
import Derived.Test.YtnfknnkhabjciaaDotTidyN
import Derived.Test.YtnfknnkhabjciaaVecRows
namespace Go.Proofs.Ytnfknnkhabjciaa
open Go Go.ChangeShapes Go.WideShapes Go.ChangeAt Go.RowKit
set_option linter.unusedVariables false

section
variable {H : Type} {enc : TypeId × Value → H} {P : Program} {W : World} {base fuel : Nat} {t e s a i : TypeId} {v : Value} {d : DataW H} {ps : List MemPlace} {cs : List Value} {x : DataW H × List MemPlace}
theorem leaf_things {k : Nat} {Q : List Value → Prop} (ht : P.underlying t = some (.slice e)) (hk : P.cellsOf e = k) (hk0 : 0 < k) (hQ : ∀ (n : Nat) (cs : List Value) (x : DataW H × List MemPlace), DataW.trod enc P W 0 (fun _ => true) true n e cs = some x → Q cs)
    (hf : DataW.trod enc P W 0 (fun _ => true) true fuel t cs = some x) : ∃ p n c E, cs = [.slice p n c] ∧ CameR W p n c k Q E := by
  rcases Deep.open_slice ht hf with ⟨hcs, _⟩ | ⟨a, len0, cap0, m, n, D, Pl, hcs, _, hl, hmx, hmm, _, hi⟩
  · exact ⟨none, 0, 0, fun _ => [], hcs, ⟨Nat.le_refl _, Nat.zero_le _, fun _ => ⟨rfl, rfl⟩, fun i hi => by omega, fun h => by omega⟩⟩
  · simp only [if_true] at hmm
    have each : ∀ i, ∃ cs' : List Value, i < len0 → Q cs' ∧ cs'.length = k ∧ ∀ j, j < k → W.cell? ((a.add (i * k)).add j) = cs'[j]? := by
      intro i
      by_cases hil : i < len0
      · obtain ⟨cs', h1, h2⟩ := hi i (by omega)
        rw [hk] at h1
        obtain ⟨_, h3, _⟩ := World.cells?_some h1
        exact ⟨cs', fun _ => ⟨hQ _ _ _ h2, h3, cells_at h1⟩⟩
      · exact ⟨[], fun h => absurd h hil⟩
    obtain ⟨E, hE⟩ := Classical.axiomOfChoice each
    refine ⟨some a, len0, cap0, E, hcs, ⟨hl, hmx, (fun h => by cases h), fun i hil => ⟨(hE i hil).1, (hE i hil).2.1⟩, fun h0 => ?_⟩⟩
    obtain ⟨b, o, spot⟩ := a
    have hsp : spot = none := by
      have h1 := (hE 0 h0).2.2 0 hk0
      rw [List.getElem?_eq_getElem (by have := (hE 0 h0).2.1; omega)] at h1
      simpa [Addr.add] using World.cell?_spot h1
    subst hsp
    refine ⟨b, o, rfl, fun i hil j u hu => ?_⟩
    have hj : j < k := by have := (List.getElem?_eq_some_iff.1 hu).1; have := (hE i hil).2.1; omega
    have h1 := (hE i hil).2.2 j hj
    rw [Addr.add_lit, Addr.add_lit] at h1
    rw [h1, hu]
theorem trod_ctx {f0 f1 : Field} {Q : List Value → Prop} (ht : P.underlying t = some (.struct #[f0, f1])) (V : Vec P a i) (hci : P.cellsOf i = 1) (hca : P.cellsOf a = 64) (hs : P.underlying s = some (.slice e)) (hcs : P.cellsOf s = 1) (hce : P.cellsOf e = 2) (hc : P.cellsOf t = 65)
    (h0 : f0.type = a ∧ f0.offset = 0) (h1 : f1.type = s ∧ f1.offset = 64) (hQ : ∀ (n : Nat) (cs : List Value) (x : DataW H × List MemPlace), DataW.trod enc P W 0 (fun _ => true) true n e cs = some x → Q cs)
    (h : DataW.trod enc P W 0 (fun _ => true) true fuel t cs = some x) : ∃ F p n c E, cs = (vf F).toList ++ [.slice p n c] ∧ Wide F ∧ CameR W p n c 2 Q E := by
  obtain ⟨ys, n, _, _, hl, hn, hg⟩ := DataW.trod_struct ht h
  rw [hc] at hl
  simp at hn
  have h2 := hg 0 f0 rfl
  rw [h0.1, h0.2, hca, List.getElem?_eq_getElem (by omega)] at h2
  obtain ⟨F, hF, wF⟩ := vec_cells V hci hca h2
  have h4 := hg 1 f1 rfl
  rw [h1.1, h1.2, hcs, List.getElem?_eq_getElem (by omega)] at h4
  obtain ⟨p, m, c, E, hE, hC⟩ := leaf_things hs hce (by omega) hQ h4
  refine ⟨F, p, m, c, E, ?_, wF, hC⟩
  rw [← hF, ← hE, List.drop_zero, List.take_of_length_le (l := List.drop 64 cs) (by simp; omega), List.take_append_drop]
end
/-- dots that came in -/
theorem dots_lie {W : World} {p : Option Addr} {n c : Nat} {E : Nat → List Value} (h : CameR W p n c 2 IsDot E) : ∃ l : List Dt, l.length = n ∧ DRow W p l := by
  have each : ∀ i, ∃ d : Dt, i < n → E i = [.int .i64 d.1, .int .i64 d.2] := fun i => by
    by_cases hi : i < n
    · obtain ⟨r, m, he, _⟩ := (h.each i hi).1
      exact ⟨(r, m), fun _ => he⟩
    · exact ⟨(0, 0), fun h => absurd h hi⟩
  obtain ⟨f, hf⟩ := Classical.axiomOfChoice each
  refine ⟨(List.range n).map f, by simp, fun hne => ?_⟩
  have h0 : 0 < n := by
    rcases Nat.eq_zero_or_pos n with e | e
    · subst e; simp at hne
    · exact e
  obtain ⟨b, o, rfl, hr⟩ := h.lies h0
  refine ⟨b, o, rfl, fun j u hu => ?_⟩
  obtain ⟨i, hi, hc⟩ := dcl_at _ j u hu
  simp at hi
  have hri := hr i hi
  rw [hf i hi] at hri
  simp only [List.getElem_map, List.getElem_range] at hc
  rcases hc with ⟨rfl, rfl⟩ | ⟨rfl, rfl⟩
  · exact hri 0 _ rfl
  · rw [← Nat.add_assoc]; exact hri 1 _ rfl
theorem typesC : (Try.prog.cellTypes Try.prog.depth 26).map (fun ts => (ts.length, ts[64]?)) = some (65, some 24) := by kernel_rfl
theorem open_ctx2 {H : Type} {enc : TypeId × Value → H} {W : World} {base : Nat} {v : Value} {d : DataW H} {ps : List MemPlace} (hv : Value.okWide Try.prog W .any base 26 v)
    (h : DataW.Trod enc Try.prog W 0 (fun _ => true) true 26 v d ps) : ∃ (F : Nat → Int) (p : Option Addr) (c : Nat) (l : List Dt), v = .agg (ccs F (.slice p l.length c)) ∧ DotsAt W p l ∧ (p = none → c = 0) := by
  obtain ⟨fuel, hf⟩ := h
  obtain ⟨F, p, n, c, E, hcs, _, hC⟩ := trod_ctx Try.underlying26 vecI (by kernel_rfl) (by kernel_rfl) Try.underlying24 (by kernel_rfl) (by kernel_rfl) (by kernel_rfl) ⟨rfl, rfl⟩ ⟨rfl, rfl⟩
    (fun n cs x h => trod_dot Try.underlying28 Try.underlying3 (by kernel_rfl) (by kernel_rfl) ⟨rfl, rfl⟩ ⟨rfl, rfl⟩ h) hf
  simp only [Value.okWide, Try.underlying26] at hv
  obtain ⟨xs, rfl, hxs, ts, hts, _, hrow⟩ := hv
  simp only [Value.cells] at hcs
  have hx : xs = ccs F (.slice p n c) := by
    apply Array.toList_inj.1
    rw [hcs, ccs, Array.toList_push]
  subst hx
  obtain ⟨l, hl, hD⟩ := dots_lie hC
  have hT := typesC
  rw [hts] at hT
  simp only [Option.map_some, Option.some.injEq, Prod.mk.injEq] at hT
  obtain ⟨u, hu, hok⟩ := hrow 64 (.slice p n c) (by
    have := Array.getElem?_push_size (xs := vf F) (x := Value.slice p n c)
    rwa [vf_size] at this)
  rw [hT.1, show 64 % 65 = 64 from rfl, hT.2] at hu
  obtain rfl := Option.some.inj hu
  refine ⟨F, p, c, l, by rw [hl], ⟨hD, fun e => ?_, fun a e => ?_⟩, fun e => (hC.nil e).2⟩
  · have := (hC.nil e).1
    rw [← hl] at this
    exact List.eq_nil_of_length_eq_zero this
  · subst e
    simp only [Cell.okWide, Try.underlying24, Cell.ok, World.has] at hok
    obtain ⟨b, o, spot⟩ := a
    obtain rfl : spot = none := hok.2.2.2.1
    exact ⟨b, o, rfl⟩
theorem open_ctx {H : Type} {enc : TypeId × Value → H} {W : World} {base : Nat} {v : Value} {d : DataW H} {ps : List MemPlace} (hv : Value.okWide Try.prog W .any base 26 v)
    (h : DataW.Trod enc Try.prog W 0 (fun _ => true) true 26 v d ps) : ∃ (F : Nat → Int) (p : Option Addr) (c : Nat) (l : List Dt), v = .agg (ccs F (.slice p l.length c)) ∧ DotsAt W p l := by
  obtain ⟨F, p, c, l, e, hd, _⟩ := open_ctx2 hv h
  exact ⟨F, p, c, l, e, hd⟩
/-- a slice of dots that came in -/
theorem open_dts {H : Type} {enc : TypeId × Value → H} {W : World} {base : Nat} {v : Value} {d : DataW H} {ps : List MemPlace} (hv : Value.okWide Try.prog W .any base 24 v)
    (h : DataW.Trod enc Try.prog W 0 (fun _ => true) true 24 v d ps) : ∃ (p : Option Addr) (c : Nat) (l : List Dt), v = .slice p l.length c ∧ DotsAt W p l ∧ (p = none → c = 0) := by
  obtain ⟨p, n, c, E, rfl, hC⟩ := open_things Try.underlying24 (k := 2) (Q := IsDot) (by kernel_rfl) (by omega) (fun n cs x h => trod_dot Try.underlying28 Try.underlying3 (by kernel_rfl) (by kernel_rfl) ⟨rfl, rfl⟩ ⟨rfl, rfl⟩ h) hv h
  obtain ⟨l, hl, hD⟩ := dots_lie hC
  refine ⟨p, c, l, by rw [hl], ⟨hD, fun e => ?_, fun a e => ?_⟩, fun e => (hC.nil e).2⟩
  · have := (hC.nil e).1
    rw [← hl] at this
    exact List.eq_nil_of_length_eq_zero this
  · subst e
    simp only [Value.okWide, Cell.okWide, Try.underlying24, Cell.ok, World.has] at hv
    obtain ⟨b, o, spot⟩ := a
    obtain rfl : spot = none := hv.2.2.2.1
    exact ⟨b, o, rfl⟩
theorem open_dt {cs : List Value} (h : IsDot cs) : ∃ d : Dt, cs.toArray = dcs d.1 d.2 := by
  obtain ⟨r, m, rfl, _⟩ := h
  exact ⟨(r, m), rfl⟩
end Go.Proofs.Ytnfknnkhabjciaa
