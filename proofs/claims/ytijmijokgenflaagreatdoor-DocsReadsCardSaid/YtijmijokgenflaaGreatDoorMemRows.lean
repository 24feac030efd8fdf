/- Tables of rows of ints that a package lays: their cells out of what the rows list. No number of a program stands here. -/
import Derived.Test.YtijmijokgenflaaGreatDoorMem
import Derived.ProofKit
import Derived.LaidMore
import Derived.Lib.LaidTab
namespace Go.Proofs.YtijmijokgenflaaGreatDoor
open Go Go.ChangeShapes Go.WideShapes Go.ChangeAt Go.RowKit

def rowD {H : Type} (r : List Int) : DataW H := .agg (r.map fun z => .lit (.int .i64 z))

/-- each listed variable is there -/
theorem laid_mem {P : Program} {w : World} {name : String} {d : DataW Unit} : ∀ {l : List (String × DataW Unit)} {ps : List MemPlace}, DataW.LaidVars P w l ps → (name, d) ∈ l →
    ∃ g t cs fuel p, P.globalNamed name = some g ∧ (P.globals[g]?).map (·.type) = some t ∧ w.var? P name = some cs ∧ DataW.trod (fun _ => ()) P w 0 (fun _ => true) false fuel t cs.toList = some (d, p)
  | (n, d') :: r, ps, h, hm => by
    obtain ⟨g, t, cs, fuel, p, q, h1, h2, h3, h4, h5, _⟩ := h
    rcases List.mem_cons.1 hm with e | e
    · obtain ⟨rfl, rfl⟩ := Prod.mk.inj e
      exact ⟨g, t, cs, fuel, p, h1, h2, h3, h4⟩
    · exact laid_mem h5 e
  | [], _, _, hm => by cases hm

section
variable {H : Type} {enc : TypeId × Value → H} {P : Program} {w : World} {base : Nat} {sp : Nat → Bool} {held : Bool} {fuel : Nat} {t e u : TypeId} {fs : Array Field} {m n : Nat} {cs : List Value} {p : List MemPlace}

theorem row_cells (ht : P.underlying t = some (.struct fs)) (he : P.underlying e = some (.int .i64)) (hce : P.cellsOf e = 1) (hct : P.cellsOf t = m) (hfs : fs.size = m) (hf : ∀ (i : Nat) (f : Field), fs[i]? = some f → f.type = e ∧ f.offset = i) {zs : List Int}
    (h : DataW.trod enc P w base sp held fuel t cs = some (rowD zs, p)) : cs = zs.map (Value.int .i64) := by
  obtain ⟨xs, k, _, hx, hl, hn, hi⟩ := DataW.trod_struct ht h
  simp only [rowD, Prod.mk.injEq, DataW.agg.injEq] at hx
  obtain ⟨hx, _⟩ := hx
  have hzl : zs.length = m := by
    have := congrArg List.length hx
    simp at this; omega
  apply List.ext_getElem?
  intro i
  by_cases him : i < m
  · have hfi : fs[i]? = some fs[i] := Array.getElem?_eq_getElem (by omega)
    obtain ⟨e1, e2⟩ := hf i _ hfi
    have h1 := hi i _ hfi
    rw [e1, e2, hce] at h1
    have hxi : xs[i]? = some (xs[i]'(by omega)) := List.getElem?_eq_getElem (by omega)
    rw [hxi] at h1
    obtain ⟨z, hc, hxz, _⟩ := DataW.trod_int he h1
    have h2 : cs[i]? = some (.int .i64 z) := by
      have := congrArg (·[0]?) hc
      simpa [List.getElem?_take, List.getElem?_drop] using this
    have h3 : (xs.map (·.1))[i]? = some (DataW.lit (.int .i64 z) : DataW H) := by simp [hxi, hxz]
    rw [← hx] at h3
    simp only [List.getElem?_map, Option.map_eq_some_iff, DataW.lit.injEq, Lit.int.injEq, true_and] at h3
    obtain ⟨z', hz', rfl⟩ := h3
    simp [h2, hz']
  · rw [List.getElem?_eq_none (by omega), List.getElem?_eq_none (by simp; omega)]

theorem cells_at {a : Addr} {k : Nat} {vs : List Value} (h : w.cells? base a k = some vs) : ∀ i, i < k → w.cell? (a.add i) = vs[i]? := by
  unfold World.cells? at h
  split at h
  · intro i hi
    obtain ⟨b, hb, hf⟩ := Lib.mapM_at h i i (by simp [hi])
    rw [hf, hb]
  · cases h

/-- a slice of rows -/
theorem rows_slice (hu : P.underlying u = some (.slice t)) (ht : P.underlying t = some (.struct fs)) (he : P.underlying e = some (.int .i64)) (hce : P.cellsOf e = 1) (hct : P.cellsOf t = m) (hfs : fs.size = m) (hf : ∀ (i : Nat) (f : Field), fs[i]? = some f → f.type = e ∧ f.offset = i) (hm : 0 < m)
    {rows : List (List Int)} (hr : ∀ r ∈ rows, r.length = m) (hne : 0 < rows.length) {rest : List (DataW H)} (h : DataW.trod enc P w base sp held fuel u cs = some (.slice (rows.map rowD) rest, p)) :
    ∃ b o c, cs = [.slice (some ⟨b, o, none⟩) rows.length c] ∧ rows.length ≤ c ∧ ∀ i, i < rows.length → ∀ j, j < m → w.cell? ⟨b, o + (i * m + j), none⟩ = some (.int .i64 ((rows.getD i []).getD j 0)) := by
  rcases DataW.trod_slice hu h with ⟨_, hx⟩ | ⟨a, len, cap, elems, rs, k, _, rfl, hx, _, hlc, _, hel, hi, _, _⟩
  · cases hx
  · simp only [Prod.mk.injEq, DataW.slice.injEq] at hx
    obtain ⟨⟨hx, _⟩, _⟩ := hx
    have hlen : len = rows.length := by
      have := congrArg List.length hx
      simp at this; omega
    subst hlen
    have hcell : ∀ i, i < rows.length → ∀ j, j < m → w.cell? ((a.add (i * m)).add j) = some (.int .i64 ((rows.getD i []).getD j 0)) := by
      intro i hil j hj
      have h1 := hi i hil
      rw [hct] at h1
      have hxi : elems[i]? = some (elems[i]'(by omega)) := List.getElem?_eq_getElem (by omega)
      rw [hxi] at h1
      obtain ⟨vs, hvs, hd⟩ := Option.bind_eq_some_iff.1 h1
      have hri : rows.getD i [] = rows[i] := by simp [List.getD, List.getElem?_eq_getElem hil]
      have he1 : (elems[i]'(by omega)).1 = rowD (rows[i]) := by
        have := congrArg (·[i]?) hx
        simp only [List.getElem?_map, hxi, List.getElem?_eq_getElem hil, Option.map_some] at this
        exact (Option.some.inj this).symm
      have hrow := row_cells (zs := rows[i]) (p := (elems[i]'(by omega)).2) ht he hce hct hfs hf (by rw [hd]; rw [← he1])
      rw [cells_at hvs j hj, hrow, hri]
      have hjl : j < (rows[i]).length := by rw [hr _ (List.getElem_mem _)]; exact hj
      simp [List.getD, List.getElem?_eq_getElem hjl]
    obtain ⟨b, o, spot⟩ := a
    have h0 := hcell 0 hne 0 hm
    have hs : spot = none := by simpa [Addr.add] using World.cell?_spot h0
    subst hs
    refine ⟨b, o, cap, rfl, hlc, fun i hil j hj => ?_⟩
    have := hcell i hil j hj
    rw [Addr.add_lit, Addr.add_lit, Nat.add_assoc] at this
    exact this

/-- an array of rows -/
theorem rows_array (hu : P.underlying u = some (.array n t)) (ht : P.underlying t = some (.struct fs)) (he : P.underlying e = some (.int .i64)) (hce : P.cellsOf e = 1) (hct : P.cellsOf t = m) (hfs : fs.size = m) (hf : ∀ (i : Nat) (f : Field), fs[i]? = some f → f.type = e ∧ f.offset = i)
    {rows : List (List Int)} (hr : ∀ r ∈ rows, r.length = m) (h : DataW.trod enc P w base sp held fuel u cs = some (.agg (rows.map rowD), p)) :
    ∀ i, i < rows.length → ∀ j, j < m → cs[i * m + j]? = some (.int .i64 ((rows.getD i []).getD j 0)) := by
  obtain ⟨xs, k, _, hx, _, hxn, hi⟩ := DataW.trod_array hu h
  simp only [Prod.mk.injEq, DataW.agg.injEq] at hx
  obtain ⟨hx, _⟩ := hx
  have hlen : xs.length = rows.length := by
    have := congrArg List.length hx
    simpa using this.symm
  intro i hil j hj
  have h1 := hi i (by omega)
  rw [hct] at h1
  have hxi : xs[i]? = some (xs[i]'(by omega)) := List.getElem?_eq_getElem (by omega)
  rw [hxi] at h1
  have hri : rows.getD i [] = rows[i] := by simp [List.getD, List.getElem?_eq_getElem hil]
  have he1 : (xs[i]'(by omega)).1 = rowD (rows[i]) := by
    have := congrArg (·[i]?) hx
    simp only [List.getElem?_map, hxi, List.getElem?_eq_getElem hil, Option.map_some] at this
    exact (Option.some.inj this).symm
  have hrow := row_cells (zs := rows[i]) (p := (xs[i]'(by omega)).2) ht he hce hct hfs hf (by rw [h1]; rw [← he1])
  have hjl : j < (rows[i]).length := by rw [hr _ (List.getElem_mem _)]; exact hj
  have := congrArg (·[j]?) hrow
  simp only [List.getElem?_take, List.getElem?_drop, if_pos hj] at this
  rw [this, hri]
  simp [List.getD, List.getElem?_eq_getElem hjl]
end
end Go.Proofs.YtijmijokgenflaaGreatDoor
