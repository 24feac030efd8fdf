/- Tables of rows of ints and texts that a package lays: their cells out of what the rows list. No number of a program stands here. -/
import Derived.Test.YtgdjkddljnjckaaDoorMemRows
namespace Go.Proofs.YtgdjkddljnjckaaDoor
open Go Go.ChangeShapes Go.WideShapes Go.ChangeAt Go.RowKit

def litD {H : Type} (r : List Lit) : DataW H := .agg (r.map .lit)

section
variable {H : Type} {enc : TypeId × Value → H} {P : Program} {w : World} {base : Nat} {sp : Nat → Bool} {held : Bool} {fuel : Nat} {t u : TypeId} {fs : Array Field} {m : Nat} {cs : List Value} {p : List MemPlace}

theorem lit_cells (ht : P.underlying t = some (.struct fs)) (hct : P.cellsOf t = m) (hfs : fs.size = m)
    (hf : ∀ (i : Nat) (f : Field), fs[i]? = some f → f.offset = i ∧ P.cellsOf f.type = 1 ∧ (P.underlying f.type = some (.int .i64) ∨ P.underlying f.type = some .string)) {zs : List Lit}
    (h : DataW.trod enc P w base sp held fuel t cs = some (litD zs, p)) : cs = zs.map Lit.value := by
  obtain ⟨xs, k, _, hx, hl, hn, hi⟩ := DataW.trod_struct ht h
  simp only [litD, Prod.mk.injEq, DataW.agg.injEq] at hx
  obtain ⟨hx, _⟩ := hx
  have hzl : zs.length = m := by
    have := congrArg List.length hx
    simp at this; omega
  apply List.ext_getElem?
  intro i
  by_cases him : i < m
  · have hfi : fs[i]? = some fs[i] := Array.getElem?_eq_getElem (by omega)
    obtain ⟨e2, e3, e4⟩ := hf i _ hfi
    have h1 := hi i _ hfi
    rw [e2, e3] at h1
    have hxi : xs[i]? = some (xs[i]'(by omega)) := List.getElem?_eq_getElem (by omega)
    rw [hxi] at h1
    have hzi : zs[i]? = some (zs[i]'(by omega)) := List.getElem?_eq_getElem (by omega)
    have hlit : (xs[i]'(by omega)).1 = DataW.lit (zs[i]'(by omega)) := by
      have := congrArg (·[i]?) hx
      simp only [List.getElem?_map, hxi, hzi, Option.map_some] at this
      exact (Option.some.inj this).symm
    rcases e4 with he | he
    · obtain ⟨z, hc, hxz, _⟩ := DataW.trod_int he h1
      have h2 : cs[i]? = some (.int .i64 z) := by
        have := congrArg (·[0]?) hc
        simpa [List.getElem?_take, List.getElem?_drop] using this
      rw [hxz] at hlit
      simp only [DataW.lit.injEq] at hlit
      rw [h2, List.getElem?_map, hzi, Option.map_some, ← hlit]; rfl
    · obtain ⟨z, hc, hxz, _⟩ := DataW.trod_string he h1
      have h2 : cs[i]? = some (.string z) := by
        have := congrArg (·[0]?) hc
        simpa [List.getElem?_take, List.getElem?_drop] using this
      rw [hxz] at hlit
      simp only [DataW.lit.injEq] at hlit
      rw [h2, List.getElem?_map, hzi, Option.map_some, ← hlit]; rfl
  · rw [List.getElem?_eq_none (by omega), List.getElem?_eq_none (by simp; omega)]

/-- a slice of such rows -/
theorem lits_slice (hu : P.underlying u = some (.slice t)) (ht : P.underlying t = some (.struct fs)) (hct : P.cellsOf t = m) (hfs : fs.size = m)
    (hf : ∀ (i : Nat) (f : Field), fs[i]? = some f → f.offset = i ∧ P.cellsOf f.type = 1 ∧ (P.underlying f.type = some (.int .i64) ∨ P.underlying f.type = some .string)) (hm : 0 < m)
    {rows : List (List Lit)} (hr : ∀ r ∈ rows, r.length = m) (hne : 0 < rows.length) {rest : List (DataW H)} (h : DataW.trod enc P w base sp held fuel u cs = some (.slice (rows.map litD) rest, p)) :
    ∃ b o c, cs = [.slice (some ⟨b, o, none⟩) rows.length c] ∧ rows.length ≤ c ∧ ∀ i, i < rows.length → ∀ j, j < m → w.cell? ⟨b, o + (i * m + j), none⟩ = ((rows.getD i []).map Lit.value)[j]? := by
  rcases DataW.trod_slice hu h with ⟨_, hx⟩ | ⟨a, len, cap, elems, rs, k, _, rfl, hx, _, hlc, _, hel, hi, _, _⟩
  · cases hx
  · simp only [Prod.mk.injEq, DataW.slice.injEq] at hx
    obtain ⟨⟨hx, _⟩, _⟩ := hx
    have hlen : len = rows.length := by
      have := congrArg List.length hx
      simp at this; omega
    subst hlen
    have hcell : ∀ i, i < rows.length → ∀ j, j < m → w.cell? ((a.add (i * m)).add j) = ((rows.getD i []).map Lit.value)[j]? := by
      intro i hil j hj
      have h1 := hi i hil
      rw [hct] at h1
      have hxi : elems[i]? = some (elems[i]'(by omega)) := List.getElem?_eq_getElem (by omega)
      rw [hxi] at h1
      obtain ⟨vs, hvs, hd⟩ := Option.bind_eq_some_iff.1 h1
      have hri : rows.getD i [] = rows[i] := by simp [List.getD, List.getElem?_eq_getElem hil]
      have he1 : (elems[i]'(by omega)).1 = litD (rows[i]) := by
        have := congrArg (·[i]?) hx
        simp only [List.getElem?_map, hxi, List.getElem?_eq_getElem hil, Option.map_some] at this
        exact (Option.some.inj this).symm
      have hrow := lit_cells (zs := rows[i]) (p := (elems[i]'(by omega)).2) ht hct hfs hf (by rw [hd]; rw [← he1])
      rw [cells_at hvs j hj, hrow, hri]
    obtain ⟨b, o, spot⟩ := a
    have h0 := hcell 0 hne 0 hm
    have hs : spot = none := by
      have hr0 := hr (rows.getD 0 []) (by rw [show rows.getD 0 [] = rows[0] from by simp [List.getD, List.getElem?_eq_getElem hne]]; exact List.getElem_mem _)
      obtain ⟨v, hv⟩ : ∃ v, ((rows.getD 0 []).map Lit.value)[0]? = some v := ⟨_, List.getElem?_eq_getElem (by rw [List.length_map]; omega)⟩
      rw [hv] at h0
      simpa [Addr.add] using World.cell?_spot h0
    subst hs
    refine ⟨b, o, cap, rfl, hlc, fun i hil j hj => ?_⟩
    have := hcell i hil j hj
    rw [Addr.add_lit, Addr.add_lit, Nat.add_assoc] at this
    exact this
end
end Go.Proofs.YtgdjkddljnjckaaDoor
