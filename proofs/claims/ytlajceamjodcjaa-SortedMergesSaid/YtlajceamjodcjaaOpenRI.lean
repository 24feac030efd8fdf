/- A slice of slices of ints that came in. No number of a program stands here. -/
import Derived.Test.YtlajceamjodcjaaMemInts
import Derived.Test.YtlajceamjodcjaaOpenS
namespace Go.Proofs.Ytlajceamjodcjaa
open Go Go.ChangeShapes Go.WideShapes Go.ChangeAt Go.RowKit

/-- a row: where it lies, its capacity, what it holds -/
structure RowI where
  p : Option Addr
  c : Nat
  l : List Int
structure RowI.Lies (r : RowI) (w : World) : Prop where
  lies : LiesI w r.p r.l
  le : r.l.length ≤ r.c
  max : r.c ≤ maxLen
  none : r.p = none → r.l = [] ∧ r.c = 0
def rowI0 : RowI := ⟨none, 0, []⟩
theorem RowI.Lies.below {r : RowI} {w w' : World} (h : r.Lies w) (hb : Below w.heap.size w w') : r.Lies w' := ⟨h.lies.below hb, h.le, h.max, h.none⟩
def LiesRI (w : World) (p : Option Addr) (l : List RowI) : Prop :=
  l ≠ [] → ∃ b o, p = some ⟨b, o, none⟩ ∧ ∀ i, i < l.length → w.cell? ⟨b, o + i, none⟩ = some (.slice (l.getD i rowI0).p (l.getD i rowI0).l.length (l.getD i rowI0).c) ∧ (l.getD i rowI0).Lies w
theorem LiesRI.below {w w' : World} {p : Option Addr} {l : List RowI} (h : LiesRI w p l) (hb : Below w.heap.size w w') : LiesRI w' p l := by
  intro h0
  obtain ⟨b, o, rfl, hc⟩ := h h0
  exact ⟨b, o, rfl, fun i hi => by
    obtain ⟨h1, h2⟩ := hc i hi
    have hlt := World.block_lt_of_cell? w _ h1
    rw [hb.cell (p := ⟨b, o + i, none⟩) hlt]; exact ⟨h1, h2.below hb⟩⟩
/-- a slice of slices of ints that came in -/
structure CameRI (w : World) (p : Option Addr) (c : Nat) (l : List RowI) : Prop where
  lies : LiesRI w p l
  le : l.length ≤ c
  reach : c * 24 ≤ 140737488351232
  none : p = none → l = [] ∧ c = 0

section
variable {H : Type} {enc : TypeId × Value → H} {P : Program} {W : World} {base : Nat} {t e q : TypeId} {v : Value} {d : DataW H} {ps : List MemPlace}
theorem open_intRows (ht : P.underlying t = some (.slice e)) (he : P.underlying e = some (.slice q)) (hq : P.underlying q = some (.int .i64)) (hc : P.cellsOf e = 1) (cq : P.cellsOf q = 1) (hb : P.bytesOf e = 24) (hv : Value.okWide P W .any base t v)
    (h : DataW.Trod enc P W 0 (fun _ => true) true t v d ps) {ts : List TypeId} {ds : List (DataW H)} (hsz : (DataW.weightsEach P ts ds).all (· ≤ reachBytes) = true) (j : Nat) (hjt : ts[j]? = some t) (hjd : ds[j]? = some d) :
    ∃ p c l, v = .slice p l.length c ∧ CameRI W p c l := by
  obtain ⟨a0, len0, cap0, rfl⟩ := okWide_slice ht hv
  obtain ⟨fuel, hf⟩ := h
  rcases Deep.open_slice1 ht hc hf with ⟨hcs, hx⟩ | ⟨x, len, cap, m, n, V, D, Pl, hcs, _, hl, _, hz, hx, hat⟩
  · simp [Value.cells] at hcs
    obtain ⟨rfl, rfl, rfl⟩ := hcs
    exact ⟨none, 0, [], rfl, ⟨fun h => absurd rfl h, Nat.le_refl _, by omega, fun _ => ⟨rfl, rfl⟩⟩⟩
  · simp [Value.cells] at hcs
    obtain ⟨rfl, rfl, rfl⟩ := hcs
    simp only [Prod.mk.injEq] at hx
    obtain ⟨rfl, rfl⟩ := hx
    simp only [if_true] at hz
    have hreach := sized_slice hsz hjt hjd ht
    rw [hb] at hreach
    simp only [List.length_map, List.length_range, reachBytes] at hreach
    have each : ∀ i, ∃ r : RowI, i < len0 → W.cell? (x.add i) = some (.slice r.p r.l.length r.c) ∧ r.Lies W := by
      intro i
      by_cases hi : i < len0
      · obtain ⟨h1, h2⟩ := hat i (by omega)
        rcases open_ints he hq cq h2 with ⟨hcs, _⟩ | ⟨a', len', cap', ss, hcs, _, hl', hm', hz', _, hcell, hws⟩
        · refine ⟨rowI0, fun _ => ⟨?_, ⟨LiesI.nil _ _, Nat.le_refl _, Nat.zero_le _, fun _ => ⟨rfl, rfl⟩⟩⟩⟩
          rw [h1]
          have : V i = .slice none 0 0 := by simpa using hcs
          rw [this]; rfl
        · simp only [if_true] at hz'
          have hV : V i = .slice (some a') len' cap' := by simpa using hcs
          have hlen : (ss.take len').length = len' := by simp; omega
          have hget : ∀ i, i < len' → (ss.take len').getD i 0 = ss.getD i 0 := fun i hi => by simp [List.getD, hi]
          refine ⟨⟨some a', cap', ss.take len'⟩, fun _ => ⟨by rw [h1, hV, hlen], ⟨?_, by simp only; rw [hlen]; exact hl', hm', (fun h => by cases h)⟩⟩⟩
          intro h0
          have hpos : 0 < len' := by
            rcases Nat.eq_zero_or_pos len' with e | e
            · subst e; simp at h0
            · exact e
          obtain ⟨b, off, spot⟩ := a'
          have hsp : spot = none := by simpa [Addr.add] using World.cell?_spot (hcell 0 (by omega))
          subst hsp
          refine ⟨b, off, rfl, fun k hk => ?_⟩
          simp only at hk
          rw [hlen] at hk
          have h3 := hcell k (by omega)
          rw [Addr.add_lit] at h3
          rw [h3, hget k hk]
      · exact ⟨rowI0, fun h => absurd h hi⟩
    obtain ⟨r, hr⟩ := Classical.axiomOfChoice each
    have hlen : ((List.range len0).map r).length = len0 := by simp
    have hget : ∀ i, i < len0 → ((List.range len0).map r).getD i rowI0 = r i := fun i hi => by simp [List.getD, hi]
    refine ⟨some x, cap0, (List.range len0).map r, by rw [hlen], ⟨?_, by rw [hlen]; exact hl, by omega, (fun h => by cases h)⟩⟩
    intro hne
    have hpos : 0 < len0 := by
      rcases Nat.eq_zero_or_pos len0 with e | e
      · subst e; simp at hne
      · exact e
    obtain ⟨b, off, spot⟩ := x
    have hsp : spot = none := by simpa [Addr.add] using World.cell?_spot (hr 0 hpos).1
    subst hsp
    refine ⟨b, off, rfl, fun i hi => ?_⟩
    rw [hlen] at hi
    obtain ⟨c0, c1⟩ := hr i hi
    rw [hget i hi]
    rw [Addr.add_lit] at c0
    exact ⟨c0, c1⟩
end
end Go.Proofs.Ytlajceamjodcjaa
