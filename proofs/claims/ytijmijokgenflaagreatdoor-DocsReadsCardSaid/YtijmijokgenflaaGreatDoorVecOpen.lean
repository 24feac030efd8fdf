/- Rows of 64 numbers that came in, by value. No number of a program stands here. -/
import Derived.Test.YtijmijokgenflaaGreatDoorVec
import Derived.Test.YtijmijokgenflaaGreatDoorOpen
import Derived.ChangeSame
import Derived.Test.YtijmijokgenflaaGreatDoorVecWalk
import Derived.Test.YtijmijokgenflaaGreatDoorMemRows
import Derived.Deep.Slices
namespace Go.Proofs.YtijmijokgenflaaGreatDoor
open Go Go.ChangeShapes Go.WideShapes Go.ChangeAt Go.RowKit
set_option linter.unusedVariables false

/-- numbers of 64 bits -/
def Wide (f : Nat → Int) : Prop := ∀ i, -9223372036854775808 ≤ f i ∧ f i ≤ 9223372036854775807
section
variable {H : Type} {enc : TypeId × Value → H} {P : Program} {w : World} {base : Nat} {sp : Nat → Bool} {held : Bool} {fuel : Nat} {t e : TypeId} {cs : List Value} {x : DataW H × List MemPlace}

theorem vec_cells (V : Vec P t e) (hce : P.cellsOf e = 1) (hct : P.cellsOf t = 64) (h : DataW.trod enc P w base sp held fuel t cs = some x) : ∃ f : Nat → Int, cs = (vf f).toList ∧ Wide f := by
  obtain ⟨xs, m, _, _, hl, hn, hi⟩ := DataW.trod_array V.array h
  rw [hct] at hl
  have each : ∀ i, ∃ z : Int, (i < 64 → cs[i]? = some (.int .i64 z)) ∧ (-9223372036854775808 ≤ z ∧ z ≤ 9223372036854775807) := by
    intro i
    by_cases hil : i < 64
    · have h1 := hi i hil
      have hxi : xs[i]? = some (xs[i]'(by omega)) := List.getElem?_eq_getElem (by omega)
      rw [hce, Nat.mul_one, hxi] at h1
      obtain ⟨z, hc, _, wz⟩ := DataW.trod_int V.elem h1
      refine ⟨z, fun _ => ?_, ?_⟩
      · have := congrArg (·[0]?) hc
        simpa [List.getElem?_take, List.getElem?_drop] using this
      · simp [Lit.wf, IntKind.min, IntKind.max, IntKind.bits, IntKind.signed] at wz; omega
    · exact ⟨0, fun h => absurd h hil, by omega, by omega⟩
  obtain ⟨f, hf⟩ := Classical.axiomOfChoice each
  refine ⟨f, ?_, fun i => (hf i).2⟩
  apply List.ext_getElem?
  intro i
  by_cases hil : i < 64
  · rw [(hf i).1 hil, Array.getElem?_toList, vf_get f i hil]
  · rw [List.getElem?_eq_none (by omega), Array.getElem?_toList, vf_none f i (by omega)]
theorem open_vec {W : World} {v : Value} {d : DataW H} {ps : List MemPlace} (V : Vec P t e) (hce : P.cellsOf e = 1) (hct : P.cellsOf t = 64) (hv : Value.okWide P W .any base t v)
    (h : DataW.Trod enc P W 0 (fun _ => true) true t v d ps) : ∃ f : Nat → Int, v = .agg (vf f) ∧ Wide f := by
  obtain ⟨fuel, hf⟩ := h
  obtain ⟨f, hc, hw⟩ := vec_cells V hce hct hf
  simp only [Value.okWide, V.array] at hv
  obtain ⟨xs, rfl, _⟩ := hv
  refine ⟨f, ?_, hw⟩
  simp only [Value.cells] at hc
  rw [Array.toList_inj.1 hc]
end
/-- a slice that came in of n things of k cells: the i-th has the cells E i, of which Q holds -/
structure CameR (w : World) (p : Option Addr) (n c k : Nat) (Q : List Value → Prop) (E : Nat → List Value) : Prop where
  le : n ≤ c
  max : c ≤ maxLen
  nil : p = none → n = 0 ∧ c = 0
  each : ∀ i, i < n → Q (E i) ∧ (E i).length = k
  lies : 0 < n → ∃ b o, p = some ⟨b, o, none⟩ ∧ ∀ i, i < n → w.rangeAt b (o + i * k) (E i)
theorem CameR.at {w : World} {p : Option Addr} {n c k : Nat} {Q : List Value → Prop} {E : Nat → List Value} (h : CameR w p n c k Q E) (h0 : 0 < n) (hk : 0 < k) :
    ∃ b o, p = some ⟨b, o, none⟩ ∧ b < w.heap.size ∧ ∀ i, i < n → w.rangeAt b (o + i * k) (E i) := by
  obtain ⟨b, o, rfl, hc⟩ := h.lies h0
  refine ⟨b, o, rfl, ?_, hc⟩
  have h1 := (h.each 0 h0).2
  exact World.block_lt_of_cell? w _ (hc 0 h0 0 _ (List.getElem?_eq_getElem (by omega)))
theorem CameR.below {w w' : World} {p : Option Addr} {n c k : Nat} {Q : List Value → Prop} {E : Nat → List Value} (h : CameR w p n c k Q E) (hb : Below w.heap.size w w') : CameR w' p n c k Q E :=
  ⟨h.le, h.max, h.nil, h.each, fun h0 => by
    obtain ⟨b, o, rfl, hc⟩ := h.lies h0
    exact ⟨b, o, rfl, fun i hi => range_below (hc i hi) hb⟩⟩

section
variable {H : Type} {enc : TypeId × Value → H} {P : Program} {W : World} {base : Nat} {t e : TypeId} {v : Value} {d : DataW H} {ps : List MemPlace}
theorem open_things {k : Nat} {Q : List Value → Prop} (ht : P.underlying t = some (.slice e)) (hk : P.cellsOf e = k) (hk0 : 0 < k) (hQ : ∀ (n : Nat) (cs : List Value) (x : DataW H × List MemPlace), DataW.trod enc P W 0 (fun _ => true) true n e cs = some x → Q cs)
    (hv : Value.okWide P W .any base t v) (h : DataW.Trod enc P W 0 (fun _ => true) true t v d ps) : ∃ p n c E, v = .slice p n c ∧ CameR W p n c k Q E := by
  obtain ⟨a0, len0, cap0, rfl⟩ := okWide_slice ht hv
  obtain ⟨fuel, hf⟩ := h
  rcases Deep.open_slice ht hf with ⟨hcs, _⟩ | ⟨a, len, cap, m, n, D, Pl, hcs, _, hl, hmx, hmm, _, hi⟩
  · simp [Value.cells] at hcs
    obtain ⟨rfl, rfl, rfl⟩ := hcs
    exact ⟨none, 0, 0, fun _ => [], rfl, ⟨Nat.le_refl _, Nat.zero_le _, fun _ => ⟨rfl, rfl⟩, fun i hi => by omega, fun h => by omega⟩⟩
  · simp [Value.cells] at hcs
    obtain ⟨rfl, rfl, rfl⟩ := hcs
    simp only [if_true] at hmm
    have each : ∀ i, ∃ cs' : List Value, i < len0 → Q cs' ∧ cs'.length = k ∧ ∀ j, j < k → W.cell? ((a.add (i * k)).add j) = cs'[j]? := by
      intro i
      by_cases hil : i < len0
      · obtain ⟨cs', h1, h2⟩ := hi i (by omega)
        rw [hk] at h1
        obtain ⟨_, h3, _⟩ := World.cells?_some h1
        exact ⟨cs', fun _ => ⟨hQ _ _ _ h2, h3, cells_at h1⟩⟩
      · exact ⟨[], fun h => absurd h hil⟩
    obtain ⟨E, hE⟩ := Classical.axiomOfChoice each
    refine ⟨some a, len0, cap0, E, rfl, ⟨hl, hmx, (fun h => by cases h), fun i hil => ⟨(hE i hil).1, (hE i hil).2.1⟩, fun h0 => ?_⟩⟩
    obtain ⟨b, o, spot⟩ := a
    have hsp : spot = none := by
      have h1 := (hE 0 h0).2.2 0 hk0
      rw [List.getElem?_eq_getElem (by have := (hE 0 h0).2.1; omega)] at h1
      simpa [Addr.add] using World.cell?_spot h1
    subst hsp
    refine ⟨b, o, rfl, fun i hil j u hu => ?_⟩
    have hj : j < k := by have := (List.getElem?_eq_some_iff.1 hu).1; have := (hE i hil).2.1; omega
    have h1 := (hE i hil).2.2 j hj
    rw [Addr.add_lit, Addr.add_lit] at h1
    rw [h1, hu]
/-- a thing of some cells by value -/
theorem open_thing {fs : Array Field} {Q : List Value → Prop} (ht : P.underlying t = some (.struct fs)) (hQ : ∀ (n : Nat) (cs : List Value) (x : DataW H × List MemPlace), DataW.trod enc P W 0 (fun _ => true) true n t cs = some x → Q cs)
    (hv : Value.okWide P W .any base t v) (h : DataW.Trod enc P W 0 (fun _ => true) true t v d ps) : ∃ cs : List Value, v = .agg cs.toArray ∧ Q cs := by
  obtain ⟨fuel, hf⟩ := h
  have h1 := hQ _ _ _ hf
  simp only [Value.okWide, ht] at hv
  obtain ⟨xs, rfl, _⟩ := hv
  exact ⟨xs.toList, by simp, h1⟩
end
/-- two ints -/
def IsDot (cs : List Value) : Prop := ∃ r n : Int, cs = [.int .i64 r, .int .i64 n] ∧ (-9223372036854775808 ≤ r ∧ r ≤ 9223372036854775807) ∧ (-9223372036854775808 ≤ n ∧ n ≤ 9223372036854775807)
/-- a write: two ints, one, a text, one, a text -/
def IsWrite (cs : List Value) : Prop := ∃ (r n t f : Int) (d x : ByteArray), cs = [.int .i64 r, .int .i64 n, .int .i64 t, .string d, .int .i64 f, .string x] ∧ (-9223372036854775808 ≤ r ∧ r ≤ 9223372036854775807) ∧ (-9223372036854775808 ≤ n ∧ n ≤ 9223372036854775807) ∧ (-9223372036854775808 ≤ t ∧ t ≤ 9223372036854775807)
/-- an int, and a row of 64 -/
def IsHeard (cs : List Value) : Prop := ∃ (r : Int) (F : Nat → Int), cs = .int .i64 r :: (vf F).toList ∧ (-9223372036854775808 ≤ r ∧ r ≤ 9223372036854775807) ∧ Wide F
section
variable {H : Type} {enc : TypeId × Value → H} {P : Program} {w : World} {base : Nat} {sp : Nat → Bool} {held : Bool} {fuel : Nat} {t i s a : TypeId} {cs : List Value} {x : DataW H × List MemPlace}
theorem wide_wf {z : Int} (wz : (Lit.int .i64 z).wf = true) : -9223372036854775808 ≤ z ∧ z ≤ 9223372036854775807 := by
  simp [Lit.wf, IntKind.min, IntKind.max, IntKind.bits, IntKind.signed] at wz; omega
theorem take_one {cs : List Value} {k : Nat} {v : Value} (h : (cs.drop k).take 1 = [v]) : cs[k]? = some v := by
  have := congrArg (·[0]?) h
  simpa [List.getElem?_take, List.getElem?_drop] using this
theorem trod_dot {f0 f1 : Field} (ht : P.underlying t = some (.struct #[f0, f1])) (hi : P.underlying i = some (.int .i64)) (hc : P.cellsOf t = 2) (hci : P.cellsOf i = 1) (h0 : f0.type = i ∧ f0.offset = 0) (h1 : f1.type = i ∧ f1.offset = 1)
    (h : DataW.trod enc P w base sp held fuel t cs = some x) : IsDot cs := by
  obtain ⟨ys, n, _, _, hl, hn, hg⟩ := DataW.trod_struct ht h
  have get : ∀ (k : Nat) (f : Field), (#[f0, f1] : Array Field)[k]? = some f → f.type = i ∧ f.offset = k → ∃ z : Int, cs[k]? = some (.int .i64 z) ∧ -9223372036854775808 ≤ z ∧ z ≤ 9223372036854775807 := by
    intro k f hf he
    have h2 := hg k f hf
    have hk : k < ys.length := by have := (Array.getElem?_eq_some_iff.1 hf).1; simp at this; simp at hn; omega
    rw [he.1, he.2, hci, List.getElem?_eq_getElem hk] at h2
    obtain ⟨z, h3, _, wz⟩ := DataW.trod_int hi h2
    exact ⟨z, take_one h3, wide_wf wz⟩
  obtain ⟨r, hr, wr⟩ := get 0 f0 rfl h0
  obtain ⟨m, hm, wm⟩ := get 1 f1 rfl h1
  refine ⟨r, m, ?_, wr, wm⟩
  rw [hc] at hl
  apply List.ext_getElem?
  intro k
  match k with
  | 0 => rw [hr]; rfl
  | 1 => rw [hm]; rfl
  | k + 2 => rw [List.getElem?_eq_none (by omega)]; rfl
theorem trod_heard {f0 f1 : Field} (ht : P.underlying t = some (.struct #[f0, f1])) (hi : P.underlying i = some (.int .i64)) (hc : P.cellsOf t = 65) (hci : P.cellsOf i = 1) (V : Vec P a i) (hca : P.cellsOf a = 64) (h0 : f0.type = i ∧ f0.offset = 0) (h1 : f1.type = a ∧ f1.offset = 1)
    (h : DataW.trod enc P w base sp held fuel t cs = some x) : IsHeard cs := by
  obtain ⟨ys, n, _, _, hl, hn, hg⟩ := DataW.trod_struct ht h
  rw [hc] at hl
  simp at hn
  have h2 := hg 0 f0 rfl
  rw [h0.1, h0.2, hci, List.getElem?_eq_getElem (by omega)] at h2
  obtain ⟨z, h3, _, wz⟩ := DataW.trod_int hi h2
  have hz := take_one h3
  have h4 := hg 1 f1 rfl
  rw [h1.1, h1.2, hca, List.getElem?_eq_getElem (by omega)] at h4
  obtain ⟨F, hF, wF⟩ := vec_cells V hci hca h4
  refine ⟨z, F, ?_, wide_wf wz, wF⟩
  rw [← hF, List.take_of_length_le (by simp; omega)]
  match cs, hl, hz with
  | c :: cs, _, hz => simp at hz; subst hz; rfl
theorem trod_write {s0 s1 : Field} {f0 f1 f2 f3 f4 : Field} {dt : TypeId} (ht : P.underlying t = some (.struct #[f0, f1, f2, f3, f4])) (hd : P.underlying dt = some (.struct #[s0, s1])) (hi : P.underlying i = some (.int .i64)) (hs : P.underlying s = some .string)
    (hc : P.cellsOf t = 6) (hcd : P.cellsOf dt = 2) (hci : P.cellsOf i = 1) (hcs : P.cellsOf s = 1) (g0 : s0.type = i ∧ s0.offset = 0) (g1 : s1.type = i ∧ s1.offset = 1)
    (h0 : f0.type = dt ∧ f0.offset = 0) (h1 : f1.type = i ∧ f1.offset = 2) (h2 : f2.type = s ∧ f2.offset = 3) (h3 : f3.type = i ∧ f3.offset = 4) (h4 : f4.type = s ∧ f4.offset = 5)
    (h : DataW.trod enc P w base sp held fuel t cs = some x) : IsWrite cs := by
  obtain ⟨ys, n, _, _, hl, hn, hg⟩ := DataW.trod_struct ht h
  rw [hc] at hl
  simp at hn
  have k0 := hg 0 f0 rfl
  rw [h0.1, h0.2, hcd, List.getElem?_eq_getElem (by omega)] at k0
  obtain ⟨r, m, e0, wr, wm⟩ := trod_dot hd hi hcd hci g0 g1 k0
  have k1 := hg 1 f1 rfl
  rw [h1.1, h1.2, hci, List.getElem?_eq_getElem (by omega)] at k1
  obtain ⟨z1, e1, _, w1⟩ := DataW.trod_int hi k1
  have k2 := hg 2 f2 rfl
  rw [h2.1, h2.2, hcs, List.getElem?_eq_getElem (by omega)] at k2
  obtain ⟨z2, e2, _, _⟩ := DataW.trod_string hs k2
  have k3 := hg 3 f3 rfl
  rw [h3.1, h3.2, hci, List.getElem?_eq_getElem (by omega)] at k3
  obtain ⟨z3, e3, _, _⟩ := DataW.trod_int hi k3
  have k4 := hg 4 f4 rfl
  rw [h4.1, h4.2, hcs, List.getElem?_eq_getElem (by omega)] at k4
  obtain ⟨z4, e4, _, _⟩ := DataW.trod_string hs k4
  have c1 := take_one e1
  have c2 := take_one e2
  have c3 := take_one e3
  have c4 := take_one e4
  refine ⟨r, m, z1, z3, z2, z4, ?_, wr, wm, wide_wf w1⟩
  match cs, hl, e0, c1, c2, c3, c4 with
  | [a0, a1, a2, a3, a4, a5], _, e0, c1, c2, c3, c4 =>
    simp at e0 c1 c2 c3 c4
    obtain ⟨rfl, rfl⟩ := e0
    subst c1 c2 c3 c4
    rfl
end
end Go.Proofs.YtijmijokgenflaaGreatDoor
