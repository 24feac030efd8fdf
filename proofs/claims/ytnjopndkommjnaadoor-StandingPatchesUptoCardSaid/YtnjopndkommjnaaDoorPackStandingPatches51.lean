/- The statement StandingPatches, proved for every input that its row reads: part 51 of 54. -/
import Derived.Test.YtnjopndkommjnaaDoorPackStandingPatches50
import Derived.Test.YtnjopndkommjnaaDoorRows
/- Changes that came in, their names no longer than the reading's bulk. -/
namespace Go.Proofs.YtnjopndkommjnaaDoor
open Go Go.ChangeShapes Go.WideShapes Go.ChangeAt Go.RowKit
set_option linter.unusedVariables false
set_option maxRecDepth 1000000

theorem bulk_sum {H : Type} {l : List (DataW H)} (hk : Rows.uptoSmall H l = true) : Rows.uptoBulkAll l ≤ 1048576 := of_decide_eq_true hk
theorem bulk_in {H : Type} {l : List (DataW H)} {d : DataW H} (hd : d ∈ l) : Rows.uptoBulk d ≤ Rows.uptoBulkAll l := by
  induction l with
  | nil => cases hd
  | cons a r ih =>
    simp only [Rows.uptoBulkAll]
    cases hd with
    | head => omega
    | tail _ h => have := ih h; omega
section
variable {H : Type} {enc : TypeId × Value → H} {P : Program} {w : World} {base : Nat} {sp : Nat → Bool} {held : Bool} {fuel : Nat} {t i s ht : TypeId} {cs : List Value} {x : DataW H × List MemPlace}
theorem trod_hitB {f0 f1 : Field} (hu : P.underlying t = some (.struct #[f0, f1])) (hs : P.underlying s = some .string) (hi : P.underlying i = some (.int .i64))
    (hc : P.cellsOf t = 2) (hcs : P.cellsOf s = 1) (hci : P.cellsOf i = 1) (h0 : f0.type = s ∧ f0.offset = 0) (h1 : f1.type = i ∧ f1.offset = 1)
    (h : DataW.trod enc P w base sp held fuel t cs = some x) : ∃ y : Ht, cs = y.cells ∧ OkHt y ∧ y.id.size ≤ Rows.uptoBulk x.1 := by
  obtain ⟨y0, y1, n, rfl, hl, k0, k1⟩ := trod_struct2 hu h
  rw [hc] at hl
  rw [h0.1, h0.2, hcs] at k0
  obtain ⟨z0, e0, hz0, _⟩ := DataW.trod_string hs k0
  rw [h1.1, h1.2, hci] at k1
  obtain ⟨z1, e1, _, w1⟩ := DataW.trod_int hi k1
  have c0 := take_one e0
  have c1 := take_one e1
  refine ⟨⟨z0, z1⟩, ?_, wide_wf w1, ?_⟩
  · match cs, hl, c0, c1 with
    | [a0, a1], _, c0, c1 =>
      simp at c0 c1
      rw [c0, c1]
      rfl
  · rw [hz0]
    simp only [Rows.uptoBulk, Rows.uptoBulkAll, Array.length_toList]
    show z0.data.size ≤ _
    omega
theorem trod_chgB {g0 g1 f0 f1 : Field} (hu : P.underlying t = some (.struct #[f0, f1])) (hh : P.underlying ht = some (.struct #[g0, g1])) (hs : P.underlying s = some .string) (hi : P.underlying i = some (.int .i64))
    (hc : P.cellsOf t = 3) (hch : P.cellsOf ht = 2) (hcs : P.cellsOf s = 1) (hci : P.cellsOf i = 1) (k0 : g0.type = s ∧ g0.offset = 0) (k1 : g1.type = i ∧ g1.offset = 1) (h0 : f0.type = i ∧ f0.offset = 0) (h1 : f1.type = ht ∧ f1.offset = 1)
    (h : DataW.trod enc P w base sp held fuel t cs = some x) : ∃ y : Chg, cs = y.cells ∧ OkChg y ∧ y.hit.id.size ≤ Rows.uptoBulk x.1 := by
  obtain ⟨y0, y1, n, rfl, hl, m0, m1⟩ := trod_struct2 hu h
  rw [hc] at hl
  rw [h0.1, h0.2, hci] at m0
  obtain ⟨z0, e0, _, w0⟩ := DataW.trod_int hi m0
  rw [h1.1, h1.2, hch] at m1
  obtain ⟨y, e1, wy, wb⟩ := trod_hitB hh hs hi hch hcs hci k0 k1 m1
  have c0 := take_one e0
  refine ⟨⟨z0, y⟩, ?_, ⟨wide_wf w0, wy⟩, ?_⟩
  · match cs, hl, c0, e1 with
    | [a0, a1, a2], _, c0, e1 =>
      simp [Ht.cells] at c0 e1
      rw [c0, e1.1, e1.2]
      rfl
  · simp only [Rows.uptoBulk, Rows.uptoBulkAll]
    show y.id.size ≤ _
    omega
end
section
variable {H : Type} {enc : TypeId × Value → H} {P : Program} {W : World} {base : Nat} {t e : TypeId} {v : Value} {d : DataW H} {ps : List MemPlace}
theorem open_thingsB {k : Nat} {Q : List Value → Nat → Prop} (ht : P.underlying t = some (.slice e)) (hk : P.cellsOf e = k) (hk0 : 0 < k) (hQ : ∀ (n : Nat) (cs : List Value) (x : DataW H × List MemPlace), DataW.trod enc P W 0 (fun _ => true) true n e cs = some x → Q cs (Rows.uptoBulk x.1))
    (hv : Value.okWide P W .any base t v) (h : DataW.Trod enc P W 0 (fun _ => true) true t v d ps) : ∃ p n c E, v = .slice p n c ∧ CameR W p n c k (fun cs => ∃ b, b ≤ Rows.uptoBulk d ∧ Q cs b) E := by
  obtain ⟨a0, len0, cap0, rfl⟩ := okWide_slice ht hv
  obtain ⟨fuel, hf⟩ := h
  rcases Deep.open_slice ht hf with ⟨hcs, _⟩ | ⟨a, len, cap, m, n, D, Pl, hcs, _, hl, hmx, hmm, hx, hi⟩
  · simp [Value.cells] at hcs
    obtain ⟨rfl, rfl, rfl⟩ := hcs
    exact ⟨none, 0, 0, fun _ => [], rfl, ⟨Nat.le_refl _, Nat.zero_le _, fun _ => ⟨rfl, rfl⟩, fun i hi => by omega, fun h => by omega⟩⟩
  · simp [Value.cells] at hcs
    obtain ⟨rfl, rfl, rfl⟩ := hcs
    simp only [if_true] at hmm
    simp only [Prod.mk.injEq] at hx
    have hd := hx.1
    have each : ∀ i, ∃ cs' : List Value, i < len0 → (∃ b, b ≤ Rows.uptoBulk d ∧ Q cs' b) ∧ cs'.length = k ∧ ∀ j, j < k → W.cell? ((a.add (i * k)).add j) = cs'[j]? := by
      intro i
      by_cases hil : i < len0
      · obtain ⟨cs', h1, h2⟩ := hi i (by omega)
        rw [hk] at h1
        obtain ⟨_, h3, _⟩ := World.cells?_some h1
        refine ⟨cs', fun _ => ⟨⟨_, ?_, hQ _ _ _ h2⟩, h3, cells_at3 h1⟩⟩
        rw [hd]
        have h4 : Rows.uptoBulk (D i) ≤ Rows.uptoBulkAll ((List.range len0).map D) := bulk_in (List.mem_map.2 ⟨i, List.mem_range.2 hil, rfl⟩)
        simp only [Rows.uptoBulk]
        omega
      · exact ⟨[], fun h => absurd h hil⟩
    obtain ⟨E, hE⟩ := Classical.axiomOfChoice each
    refine ⟨some a, len0, cap0, E, rfl, ⟨hl, hmx, (fun h => by cases h), fun i hil => ⟨(hE i hil).1, (hE i hil).2.1⟩, fun h0 => ?_⟩⟩
    obtain ⟨b, o, spot⟩ := a
    have hsp : spot = none := by
      have h1 := (hE 0 h0).2.2 0 hk0
      rw [List.getElem?_eq_getElem (by have := (hE 0 h0).2.1; omega)] at h1
      simpa [Addr.add] using World.cell?_spot h1
    subst hsp
    refine ⟨b, o, rfl, fun i hil j u hu => ?_⟩
    have hj : j < k := by have := (List.getElem?_eq_some_iff.1 hu).1; have := (hE i hil).2.1; omega
    have h1 := (hE i hil).2.2 j hj
    rw [Addr.add_lit, Addr.add_lit] at h1
    rw [h1, hu]
end
theorem chgs_lieB {W : World} (m : Nat) {p : Option Addr} {n c : Nat} {E : Nat → List Value} (h : CameR W p n c 3 (fun cs => ∃ b, b ≤ m ∧ ∃ y : Chg, cs = y.cells ∧ OkChg y ∧ y.hit.id.size ≤ b) E) : ∃ T : List Chg, T.length = n ∧ ChgsAt W p T ∧ ∀ t ∈ T, OkChg t ∧ t.hit.id.size ≤ m := by
  have each : ∀ i, ∃ x : Chg, i < n → E i = x.cells ∧ OkChg x ∧ x.hit.id.size ≤ m := fun i => by
    by_cases hi : i < n
    · obtain ⟨b, hb, x, he, hx, hs⟩ := (h.each i hi).1
      exact ⟨x, fun _ => ⟨he, hx, Nat.le_trans hs hb⟩⟩
    · exact ⟨⟨0, ⟨ByteArray.empty, 0⟩⟩, fun h => absurd h hi⟩
  obtain ⟨f, hf⟩ := Classical.axiomOfChoice each
  have hlen : ((List.range n).map f).length = n := by simp
  refine ⟨(List.range n).map f, hlen, ⟨fun hne => ?_, fun hp => ?_⟩, fun x hx => ?_⟩
  · have h0 : 0 < n := by
      rcases Nat.eq_zero_or_pos n with e | e
      · subst e; simp at hne
      · exact e
    obtain ⟨b, o, rfl, hr⟩ := h.lies h0
    refine ⟨b, o, rfl, fun j u hu => ?_⟩
    have hj : j < n * 3 := by
      have := (List.getElem?_eq_some_iff.1 hu).1
      rw [ccl_length, hlen] at this; exact this
    have hi : j / 3 < n := by omega
    have h1 := flat_get Chg.cells_len ((List.range n).map f) (j / 3) (by rw [hlen]; exact hi) (j % 3) (by omega)
    rw [show j / 3 * 3 + j % 3 = j by omega] at h1
    change (ccl _)[j]? = _ at h1
    rw [h1] at hu
    simp only [List.getElem_map, List.getElem_range] at hu
    have h2 := hr (j / 3) hi
    rw [(hf (j / 3) hi).1] at h2
    have h3 := h2 (j % 3) u hu
    rw [show o + j / 3 * 3 + j % 3 = o + j by omega] at h3
    exact h3
  · have := (h.nil hp).1
    subst this
    rfl
  · obtain ⟨i, hi, rfl⟩ := List.mem_map.1 hx
    exact (hf i (List.mem_range.1 hi)).2
theorem open_chgsB {H : Type} {enc : TypeId × Value → H} {W : World} {base : Nat} {v : Value} {d : DataW H} {ps : List MemPlace} (hv : Value.okWide Tryd.prog W .any base 26 v)
    (h : DataW.Trod enc Tryd.prog W 0 (fun _ => true) true 26 v d ps) : ∃ (p : Option Addr) (c : Nat) (T : List Chg), v = .slice p T.length c ∧ ChgsAt W p T ∧ T.length ≤ c ∧ (∀ t ∈ T, OkChg t) ∧ ∀ t ∈ T, t.hit.id.size ≤ Rows.uptoBulk d := by
  obtain ⟨p, n, c, E, rfl, hC⟩ := open_thingsB Tryd.underlying26 (k := 3) (Q := fun cs b => ∃ y : Chg, cs = y.cells ∧ OkChg y ∧ y.hit.id.size ≤ b) (by kernel_rfl) (by omega) (fun n cs x h => trod_chgB Tryd.underlying30 Tryd.underlying28 Tryd.underlying9 Tryd.underlying3 (by kernel_rfl) (by kernel_rfl) (by kernel_rfl) (by kernel_rfl) ⟨rfl, rfl⟩ ⟨rfl, rfl⟩ ⟨rfl, rfl⟩ ⟨rfl, rfl⟩ h) hv h
  obtain ⟨T, hl, hT, hO⟩ := chgs_lieB (Rows.uptoBulk d) hC
  exact ⟨p, c, T, by rw [hl], hT, by rw [hl]; exact hC.le, fun t ht => (hO t ht).1, fun t ht => (hO t ht).2⟩
end Go.Proofs.YtnjopndkommjnaaDoor
