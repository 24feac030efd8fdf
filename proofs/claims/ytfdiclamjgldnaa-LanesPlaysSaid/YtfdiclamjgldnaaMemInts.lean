/- What a slice of ints holds: 'LiesI w p l'. No number of a program stands here. -/
import Derived.Test.YtfdiclamjgldnaaOpen
namespace Go.Proofs.Ytfdiclamjgldnaa
open Go Go.ChangeShapes Go.WideShapes Go.ChangeAt Go.RowKit

def LiesI (w : World) (p : Option Addr) (l : List Int) : Prop :=
  l ≠ [] → ∃ b o, p = some ⟨b, o, none⟩ ∧ ∀ i, i < l.length → w.cell? ⟨b, o + i, none⟩ = some (.int .i64 (l.getD i 0))
def InI (l : List Int) : Prop := ∀ i, i < l.length → -9223372036854775808 ≤ l.getD i 0 ∧ l.getD i 0 ≤ 9223372036854775807
theorem LiesI.nil (w : World) (p : Option Addr) : LiesI w p [] := fun h => absurd rfl h
theorem LiesI.at {w : World} {p : Option Addr} {l : List Int} (h : LiesI w p l) (h0 : 0 < l.length) :
    ∃ b o, p = some ⟨b, o, none⟩ ∧ b < w.heap.size ∧ ∀ i, i < l.length → w.cell? ⟨b, o + i, none⟩ = some (.int .i64 (l.getD i 0)) := by
  obtain ⟨b, o, rfl, hc⟩ := h (by intro e; subst e; simp at h0)
  exact ⟨b, o, rfl, World.block_lt_of_cell? w _ (hc 0 h0), hc⟩
theorem LiesI.below {w w' : World} {p : Option Addr} {l : List Int} (h : LiesI w p l) (hb : Below w.heap.size w w') : LiesI w' p l := by
  intro h0
  obtain ⟨b, o, rfl, hc⟩ := h h0
  exact ⟨b, o, rfl, fun i hi => by
    have := hc i hi
    have hlt := World.block_lt_of_cell? w _ this
    rw [hb.cell (p := ⟨b, o + i, none⟩) hlt]; exact this⟩
/-- numbers that a constant lays -/
theorem liesI_lit (w : World) (ty : TypeId) (m : Nat × Nat) (l : List Int) (cs : Array Value) (hcs : cs = (l.map (Value.int .i64)).toArray) : LiesI (w.alloc (.cells cs ty m)) (some ⟨w.heap.size, 0, none⟩) l := by
  intro _
  refine ⟨w.heap.size, 0, rfl, fun i hi => ?_⟩
  subst hcs
  rw [Nat.zero_add, cell_of_row (w.alloc _) w.heap.size i _ ty m (heap_alloc_new w _)]
  simp [List.getD, List.getElem?_eq_getElem hi]

/-- a slice of ints that came in -/
structure CameI (w : World) (p : Option Addr) (c : Nat) (l : List Int) : Prop where
  lies : LiesI w p l
  le : l.length ≤ c
  reach : c * 8 ≤ 140737488351232
  none : p = none → l = [] ∧ c = 0
  wf : InI l

section
variable {H : Type} {enc : TypeId × Value → H} {P : Program} {W : World} {base : Nat} {t e : TypeId} {v : Value} {d : DataW H} {ps : List MemPlace}

theorem open_nums (ht : P.underlying t = some (.slice e)) (he : P.underlying e = some (.int .i64)) (hc : P.cellsOf e = 1) (hb : P.bytesOf e = 8) (hv : Value.okWide P W .any base t v)
    (h : DataW.Trod enc P W 0 (fun _ => true) true t v d ps) {ts : List TypeId} {ds : List (DataW H)} (hsz : (DataW.weightsEach P ts ds).all (· ≤ reachBytes) = true) (j : Nat) (hjt : ts[j]? = some t) (hjd : ds[j]? = some d) :
    ∃ p c l, v = .slice p l.length c ∧ CameI W p c l ∧ (d = .nil ∨ ∃ es sp, d = .slice es sp ∧ es.length = l.length ∧ es.length + sp.length = c) := by
  obtain ⟨a0, len0, cap0, rfl⟩ := okWide_slice ht hv
  obtain ⟨fuel, hf⟩ := h
  rcases open_ints ht he hc hf with ⟨hcs, hx⟩ | ⟨x, len, cap, zs, hcs, _, hl, _, hz, hx, hcell, hwz⟩
  · simp [Value.cells] at hcs
    obtain ⟨rfl, rfl, rfl⟩ := hcs
    simp only [Prod.mk.injEq] at hx
    exact ⟨none, 0, [], rfl, ⟨LiesI.nil _ _, Nat.le_refl _, by omega, fun _ => ⟨rfl, rfl⟩, fun i hi => by simp at hi⟩, .inl hx.1⟩
  · simp [Value.cells] at hcs
    obtain ⟨rfl, rfl, rfl⟩ := hcs
    simp only [Prod.mk.injEq] at hx
    obtain ⟨rfl, rfl⟩ := hx
    simp only [if_true] at hz
    have hreach := sized_slice hsz hjt hjd ht
    rw [hb] at hreach
    simp only [lits, List.length_map, List.length_take, List.length_drop, reachBytes] at hreach
    have hlen : (zs.take len0).length = len0 := by simp; omega
    refine ⟨some x, cap0, zs.take len0, by rw [hlen], ⟨?_, by rw [hlen]; exact hl, by omega, (fun h => by cases h), ?_⟩, .inr ⟨_, _, rfl, by simp [lits], by simp [lits]; omega⟩⟩
    · intro h0
      have hpos : 0 < len0 := by
        rcases Nat.eq_zero_or_pos len0 with e | e
        · subst e; simp at h0
        · exact e
      obtain ⟨b, off, spot⟩ := x
      have hsp : spot = none := by simpa [Addr.add] using World.cell?_spot (hcell 0 (by omega))
      subst hsp
      refine ⟨b, off, rfl, fun i hi => ?_⟩
      rw [hlen] at hi
      have h1 := hcell i (by omega)
      rw [Addr.add_lit] at h1
      rw [h1]
      simp [List.getD, hi, List.getElem?_eq_getElem (show i < zs.length by omega)]
    · intro i hi
      rw [hlen] at hi
      have hw := hwz (zs[i]'(by omega)) (List.getElem_mem _)
      simp [Lit.wf, IntKind.min, IntKind.max, IntKind.bits, IntKind.signed] at hw
      have e1 : (zs.take len0).getD i 0 = zs[i]'(by omega) := by simp [List.getD, hi, List.getElem?_eq_getElem (show i < zs.length by omega)]
      rw [e1]
      omega
end
end Go.Proofs.Ytfdiclamjgldnaa
