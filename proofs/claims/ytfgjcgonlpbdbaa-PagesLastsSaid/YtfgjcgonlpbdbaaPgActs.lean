/- The list of acts that came in. -/
import Derived.Test.YtfgjcgonlpbdbaaWalkPagesLasts
import Derived.Test.YtfgjcgonlpbdbaaMemRows
import Derived.Deep.Slices
namespace Go.Proofs.Ytfgjcgonlpbdbaa
open Go Go.ChangeShapes Go.WideShapes Go.ChangeAt Go.RowKit
set_option linter.unusedVariables false

/-- a slice that came in of n things of k cells: the i-th has the cells E i, of which Q holds -/
structure CameR (w : World) (p : Option Addr) (n c k : Nat) (Q : List Value → Prop) (E : Nat → List Value) : Prop where
  le : n ≤ c
  max : c ≤ maxLen
  nil : p = none → n = 0 ∧ c = 0
  each : ∀ i, i < n → Q (E i) ∧ (E i).length = k
  lies : 0 < n → ∃ b o, p = some ⟨b, o, none⟩ ∧ ∀ i, i < n → w.rangeAt b (o + i * k) (E i)
theorem CameR.at {w : World} {p : Option Addr} {n c k : Nat} {Q : List Value → Prop} {E : Nat → List Value} (h : CameR w p n c k Q E) (h0 : 0 < n) (hk : 0 < k) :
    ∃ b o, p = some ⟨b, o, none⟩ ∧ b < w.heap.size ∧ ∀ i, i < n → w.rangeAt b (o + i * k) (E i) := by
  obtain ⟨b, o, rfl, hc⟩ := h.lies h0
  refine ⟨b, o, rfl, ?_, hc⟩
  have h1 := (h.each 0 h0).2
  exact World.block_lt_of_cell? w _ (hc 0 h0 0 _ (List.getElem?_eq_getElem (by omega)))
section
variable {H : Type} {enc : TypeId × Value → H} {P : Program} {W : World} {base : Nat} {t e : TypeId} {v : Value} {d : DataW H} {ps : List MemPlace}
theorem open_things {k : Nat} {Q : List Value → Prop} (ht : P.underlying t = some (.slice e)) (hk : P.cellsOf e = k) (hk0 : 0 < k) (hQ : ∀ (n : Nat) (cs : List Value) (x : DataW H × List MemPlace), DataW.trod enc P W 0 (fun _ => true) true n e cs = some x → Q cs)
    (hv : Value.okWide P W .any base t v) (h : DataW.Trod enc P W 0 (fun _ => true) true t v d ps) : ∃ p n c E, v = .slice p n c ∧ CameR W p n c k Q E := by
  obtain ⟨a0, len0, cap0, rfl⟩ := okWide_slice ht hv
  obtain ⟨fuel, hf⟩ := h
  rcases Deep.open_slice ht hf with ⟨hcs, _⟩ | ⟨a, len, cap, m, n, D, Pl, hcs, _, hl, hmx, hmm, _, hi⟩
  · simp [Value.cells] at hcs
    obtain ⟨rfl, rfl, rfl⟩ := hcs
    exact ⟨none, 0, 0, fun _ => [], rfl, ⟨Nat.le_refl _, Nat.zero_le _, fun _ => ⟨rfl, rfl⟩, fun i hi => by omega, fun h => by omega⟩⟩
  · simp [Value.cells] at hcs
    obtain ⟨rfl, rfl, rfl⟩ := hcs
    simp only [if_true] at hmm
    have each : ∀ i, ∃ cs' : List Value, i < len0 → Q cs' ∧ cs'.length = k ∧ ∀ j, j < k → W.cell? ((a.add (i * k)).add j) = cs'[j]? := by
      intro i
      by_cases hil : i < len0
      · obtain ⟨cs', h1, h2⟩ := hi i (by omega)
        rw [hk] at h1
        obtain ⟨_, h3, _⟩ := World.cells?_some h1
        exact ⟨cs', fun _ => ⟨hQ _ _ _ h2, h3, cells_at h1⟩⟩
      · exact ⟨[], fun h => absurd h hil⟩
    obtain ⟨E, hE⟩ := Classical.axiomOfChoice each
    refine ⟨some a, len0, cap0, E, rfl, ⟨hl, hmx, (fun h => by cases h), fun i hil => ⟨(hE i hil).1, (hE i hil).2.1⟩, fun h0 => ?_⟩⟩
    obtain ⟨b, o, spot⟩ := a
    have hsp : spot = none := by
      have h1 := (hE 0 h0).2.2 0 hk0
      rw [List.getElem?_eq_getElem (by have := (hE 0 h0).2.1; omega)] at h1
      simpa [Addr.add] using World.cell?_spot h1
    subst hsp
    refine ⟨b, o, rfl, fun i hil j u hu => ?_⟩
    have hj : j < k := by have := (List.getElem?_eq_some_iff.1 hu).1; have := (hE i hil).2.1; omega
    have h1 := (hE i hil).2.2 j hj
    rw [Addr.add_lit, Addr.add_lit] at h1
    rw [h1, hu]
end
section
variable {H : Type} {enc : TypeId × Value → H} {P : Program} {w : World} {base : Nat} {held : Bool} {fuel : Nat} {t e i bt u kt : TypeId} {cs : List Value} {x : DataW H × List MemPlace}
theorem wide_wf {z : Int} (wz : (Lit.int .i64 z).wf = true) : -9223372036854775808 ≤ z ∧ z ≤ 9223372036854775807 := by
  simp [Lit.wf, IntKind.min, IntKind.max, IntKind.bits, IntKind.signed] at wz; omega
theorem take_one {cs : List Value} {k : Nat} {v : Value} (h : (cs.drop k).take 1 = [v]) : cs[k]? = some v := by
  have := congrArg (·[0]?) h
  simpa [List.getElem?_take, List.getElem?_drop] using this
theorem leaf_bytes (ht : P.underlying t = some (.slice e)) (he : P.underlying e = some (.int .u8)) (hc : P.cellsOf e = 1) (h : DataW.trod enc P w base (fun _ => true) held fuel t cs = some x) :
    ∃ p c l, cs = [.slice p l.length c] ∧ Lies w p l ∧ l.length ≤ c := by
  rcases open_ints ht he hc h with ⟨hcs, _⟩ | ⟨a, len, cap, zs, hcs, _, hl, hmx, hz, hx, hcell, hwz⟩
  · exact ⟨none, 0, [], hcs, Lies.nil _ _, Nat.le_refl _⟩
  · simp only [if_true] at hz
    have hlen : ((zs.take len).map fun z => UInt8.ofNat z.toNat).length = len := by simp; omega
    refine ⟨some a, cap, (zs.take len).map fun z => UInt8.ofNat z.toNat, by rw [hcs, hlen], ?_, by rw [hlen]; exact hl⟩
    intro h0
    have hpos : 0 < len := by
      rcases Nat.eq_zero_or_pos len with e | e
      · subst e; simp at h0
      · exact e
    obtain ⟨b, off, spot⟩ := a
    have hsp : spot = none := by simpa [Addr.add] using World.cell?_spot (hcell 0 (by omega))
    subst hsp
    refine ⟨b, off, rfl, fun i hi => ?_⟩
    rw [hlen] at hi
    have h1 := hcell i (by omega)
    rw [Addr.add_lit] at h1
    rw [h1]
    have hget : zs.getD i 0 = zs[i]'(by omega) := by simp [List.getD, List.getElem?_eq_getElem (show i < zs.length by omega)]
    have hw := hwz (zs[i]'(by omega)) (List.getElem_mem _)
    have hr : 0 ≤ zs[i]'(by omega) ∧ zs[i]'(by omega) < 256 := by
      simp [Lit.wf, IntKind.min, IntKind.max, IntKind.bits, IntKind.signed] at hw
      omega
    have e2 : ((zs.take len).map fun z => UInt8.ofNat z.toNat).getD i 0 = UInt8.ofNat (zs[i]'(by omega)).toNat := by
      simp [List.getD, hi, List.getElem?_eq_getElem (show i < zs.length by omega)]
    rw [hget, e2, UInt8.toNat_ofNat']
    congr 2
    omega
theorem leaf_ints (ht : P.underlying t = some (.slice e)) (he : P.underlying e = some (.int .i64)) (hc : P.cellsOf e = 1) (h : DataW.trod enc P w base (fun _ => true) held fuel t cs = some x) :
    ∃ p c l, cs = [.slice p l.length c] ∧ LiesI w p l ∧ l.length ≤ 9223372036854775807 := by
  rcases open_ints ht he hc h with ⟨hcs, _⟩ | ⟨a, len, cap, zs, hcs, _, hl, hmx, hz, hx, hcell, hwz⟩
  · exact ⟨none, 0, [], hcs, LiesI.nil _ _, by simp⟩
  · simp only [if_true] at hz
    have hlen : (zs.take len).length = len := by simp; omega
    refine ⟨some a, cap, zs.take len, by rw [hcs, hlen], ?_, by rw [hlen]; unfold maxLen at hmx; omega⟩
    intro h0
    have hpos : 0 < len := by
      rcases Nat.eq_zero_or_pos len with e | e
      · subst e; simp at h0
      · exact e
    obtain ⟨b, off, spot⟩ := a
    have hsp : spot = none := by simpa [Addr.add] using World.cell?_spot (hcell 0 (by omega))
    subst hsp
    refine ⟨b, off, rfl, fun i hi => ?_⟩
    rw [hlen] at hi
    have h1 := hcell i (by omega)
    rw [Addr.add_lit] at h1
    rw [h1]
    simp [List.getD, hi, List.getElem?_eq_getElem (show i < zs.length by omega)]
/-- the cells of an act -/
def IsAct (W : World) (cs : List Value) : Prop := ∃ v : ActV, cs = [.int .i64 v.op, .int .i64 v.i, .int .i64 v.n, .slice v.bp v.bs.length v.bc, .slice v.kp v.ks.length v.kc] ∧ v.Ok W
theorem trod_act {f0 f1 f2 f3 f4 : Field} (ht : P.underlying t = some (.struct #[f0, f1, f2, f3, f4])) (hi : P.underlying i = some (.int .i64)) (hb : P.underlying bt = some (.slice u)) (hu : P.underlying u = some (.int .u8)) (hk : P.underlying kt = some (.slice i))
    (hc : P.cellsOf t = 5) (hci : P.cellsOf i = 1) (hcu : P.cellsOf u = 1) (hcb : P.cellsOf bt = 1) (hck : P.cellsOf kt = 1)
    (h0 : f0.type = i ∧ f0.offset = 0) (h1 : f1.type = i ∧ f1.offset = 1) (h2 : f2.type = i ∧ f2.offset = 2) (h3 : f3.type = bt ∧ f3.offset = 3) (h4 : f4.type = kt ∧ f4.offset = 4)
    (h : DataW.trod enc P w base (fun _ => true) held fuel t cs = some x) : IsAct w cs := by
  obtain ⟨ys, n, _, _, hl, hn, hg⟩ := DataW.trod_struct ht h
  rw [hc] at hl
  simp at hn
  have k0 := hg 0 f0 rfl
  rw [h0.1, h0.2, hci, List.getElem?_eq_getElem (by omega)] at k0
  obtain ⟨z0, e0, _, w0⟩ := DataW.trod_int hi k0
  have k1 := hg 1 f1 rfl
  rw [h1.1, h1.2, hci, List.getElem?_eq_getElem (by omega)] at k1
  obtain ⟨z1, e1, _, w1⟩ := DataW.trod_int hi k1
  have k2 := hg 2 f2 rfl
  rw [h2.1, h2.2, hci, List.getElem?_eq_getElem (by omega)] at k2
  obtain ⟨z2, e2, _, w2⟩ := DataW.trod_int hi k2
  have k3 := hg 3 f3 rfl
  rw [h3.1, h3.2, hcb, List.getElem?_eq_getElem (by omega)] at k3
  obtain ⟨p3, c3, l3, e3, g3, m3⟩ := leaf_bytes hb hu hcu k3
  have k4 := hg 4 f4 rfl
  rw [h4.1, h4.2, hck, List.getElem?_eq_getElem (by omega)] at k4
  obtain ⟨p4, c4, l4, e4, g4, m4⟩ := leaf_ints hk hi hci k4
  have d0 := take_one e0
  have d1 := take_one e1
  have d2 := take_one e2
  have d3 := take_one e3
  have d4 := take_one e4
  refine ⟨⟨z0, z1, z2, p3, p4, c3, c4, l3, l4⟩, ?_, ⟨wide_wf w0, wide_wf w2, g3, g4, m3, m4⟩⟩
  match cs, hl, d0, d1, d2, d3, d4 with
  | [a0, a1, a2, a3, a4], _, d0, d1, d2, d3, d4 =>
    simp at d0 d1 d2 d3 d4
    subst d0 d1 d2 d3 d4
    rfl
end
/-- a list of things that are acts is a list of acts -/
theorem acts_lie {W : World} {p : Option Addr} {n c : Nat} {E : Nat → List Value} (h : CameR W p n c 5 (IsAct W) E) : ∃ vs : List ActV, vs.length = n ∧ ActsLie W p vs ∧ vs.length ≤ 9223372036854775807 := by
  have each : ∀ j, ∃ v : ActV, j < n → E j = [.int .i64 v.op, .int .i64 v.i, .int .i64 v.n, .slice v.bp v.bs.length v.bc, .slice v.kp v.ks.length v.kc] ∧ v.Ok W := fun j => by
    by_cases hj : j < n
    · obtain ⟨v, h1, h2⟩ := (h.each j hj).1
      exact ⟨v, fun _ => ⟨h1, h2⟩⟩
    · exact ⟨⟨0, 0, 0, none, none, 0, 0, [], []⟩, fun q => absurd q hj⟩
  obtain ⟨f, hf⟩ := Classical.axiomOfChoice each
  have hlen : ((List.range n).map f).length = n := by simp
  have hm := h.max
  have hle := h.le
  refine ⟨(List.range n).map f, hlen, ⟨fun v hv => ?_, fun h0 => ?_⟩, by rw [hlen]; unfold maxLen at hm; omega⟩
  · obtain ⟨j, hj, rfl⟩ := List.mem_map.1 hv
    exact (hf j (List.mem_range.1 hj)).2
  · have hpos : 0 < n := by
      rcases Nat.eq_zero_or_pos n with e | e
      · subst e; simp at h0
      · exact e
    obtain ⟨b, o, rfl, hb, hc⟩ := h.at hpos (by omega)
    refine ⟨b, o, rfl, hb, fun j v hv => ?_⟩
    have hj : j < n := by have := (List.getElem?_eq_some_iff.1 hv).1; rw [hlen] at this; exact this
    have hv2 : v = f j := by
      rw [List.getElem?_map, List.getElem?_range hj] at hv
      exact (Option.some.inj hv).symm
    subst hv2
    have hr := hc j hj
    rw [(hf j hj).1] at hr
    exact ⟨hr 0 _ rfl, hr 1 _ rfl, hr 2 _ rfl, hr 3 _ rfl, hr 4 _ rfl⟩
end Go.Proofs.Ytfgjcgonlpbdbaa
