/- The statement WireEncodes, proved for every input that its row reads: part 52 of 54. -/
import Derived.Test.YtapbeokocfmlpaaDoorPackWireEncodes20
import Derived.Test.YtapbeokocfmlpaaDoorVecOpen
import Derived.Test.YtapbeokocfmlpaaDoorPackWireEncodes51
/- States that came in, by value. -/
namespace Go.Proofs.YtapbeokocfmlpaaDoor
open Go Go.ChangeShapes Go.WideShapes Go.ChangeAt Go.RowKit
set_option linter.unusedVariables false
set_option maxRecDepth 1000000

/-- writes that came in lie where they are -/
theorem wrs_lie {W : World} {p : Option Addr} {n c : Nat} {E : Nat → List Value} (h : CameR W p n c 6 IsWrite E) : ∃ L : List Wr, L.length = n ∧ WrsAt W p L := by
  have each : ∀ i, ∃ x : Wr, i < n → E i = x.cells := fun i => by
    by_cases hi : i < n
    · obtain ⟨r, m, t, f, d, x, he, _⟩ := (h.each i hi).1
      exact ⟨⟨r, m, t, d, f, x⟩, fun _ => he⟩
    · exact ⟨⟨0, 0, 0, ByteArray.empty, 0, ByteArray.empty⟩, fun h => absurd h hi⟩
  obtain ⟨f, hf⟩ := Classical.axiomOfChoice each
  have hlen : ((List.range n).map f).length = n := by simp
  refine ⟨(List.range n).map f, hlen, ⟨fun hne => ?_, fun hp => ?_⟩⟩
  · have h0 : 0 < n := by
      rcases Nat.eq_zero_or_pos n with e | e
      · subst e; simp at hne
      · exact e
    obtain ⟨b, o, rfl, hr⟩ := h.lies h0
    refine ⟨b, o, rfl, fun j u hu => ?_⟩
    have hj : j < n * 6 := by
      have := (List.getElem?_eq_some_iff.1 hu).1
      rw [wcl_length, hlen] at this; exact this
    have hi : j / 6 < n := by omega
    have h1 := flat_get Wr.cells_len ((List.range n).map f) (j / 6) (by rw [hlen]; exact hi) (j % 6) (by omega)
    rw [show j / 6 * 6 + j % 6 = j by omega] at h1
    change (wcl _)[j]? = _ at h1
    rw [h1] at hu
    simp only [List.getElem_map, List.getElem_range] at hu
    have h2 := hr (j / 6) hi
    rw [hf (j / 6) hi] at h2
    have h3 := h2 (j % 6) u hu
    rw [show o + j / 6 * 6 + j % 6 = o + j by omega] at h3
    exact h3
  · have := (h.nil hp).1
    subst this; rfl
section
variable {H : Type} {enc : TypeId × Value → H} {P : Program} {W : World} {base fuel : Nat} {t e s a i : TypeId} {v : Value} {d : DataW H} {ps : List MemPlace} {cs : List Value} {x : DataW H × List MemPlace}
theorem trod_state {f0 f1 : Field} {Q : List Value → Prop} (ht : P.underlying t = some (.struct #[f0, f1])) (V : Vec P a i) (hci : P.cellsOf i = 1) (hca : P.cellsOf a = 64) (hs : P.underlying s = some (.slice e)) (hcs : P.cellsOf s = 1) (hce : P.cellsOf e = 6) (hc : P.cellsOf t = 65)
    (h0 : f0.type = a ∧ f0.offset = 0) (h1 : f1.type = s ∧ f1.offset = 64) (hQ : ∀ (n : Nat) (cs : List Value) (x : DataW H × List MemPlace), DataW.trod enc P W 0 (fun _ => true) true n e cs = some x → Q cs)
    (h : DataW.trod enc P W 0 (fun _ => true) true fuel t cs = some x) : ∃ F p n c E, cs = (vf F).toList ++ [.slice p n c] ∧ Wide F ∧ CameR W p n c 6 Q E := by
  obtain ⟨ys, n, _, _, hl, hn, hg⟩ := DataW.trod_struct ht h
  rw [hc] at hl
  simp at hn
  have h2 := hg 0 f0 rfl
  rw [h0.1, h0.2, hca, List.getElem?_eq_getElem (by omega)] at h2
  obtain ⟨F, hF, wF⟩ := vec_cells V hci hca h2
  have h4 := hg 1 f1 rfl
  rw [h1.1, h1.2, hcs, List.getElem?_eq_getElem (by omega)] at h4
  obtain ⟨p, m, c, E, hE, hC⟩ := leaf_things hs hce (by omega) hQ h4
  refine ⟨F, p, m, c, E, ?_, wF, hC⟩
  rw [← hF, ← hE, List.drop_zero, List.take_of_length_le (l := List.drop 64 cs) (by simp; omega), List.take_append_drop]
end
theorem typesSt : (Tryd.prog.cellTypes Tryd.prog.depth 27).map (fun ts => (ts.length, ts[64]?)) = some (65, some 25) := by kernel_rfl
/-- a state that came in -/
theorem open_state {H : Type} {enc : TypeId × Value → H} {W : World} {base : Nat} {v : Value} {d : DataW H} {ps : List MemPlace} (hv : Value.okWide Tryd.prog W .any base 27 v)
    (h : DataW.Trod enc Tryd.prog W 0 (fun _ => true) true 27 v d ps) : ∃ (F : Nat → Int) (p : Option Addr) (c : Nat) (L : List Wr), v = .agg (scs F (.slice p L.length c)) ∧ WrsAt W p L ∧ (∀ a, p = some a → ∃ b o, a = ⟨b, o, none⟩) := by
  obtain ⟨fuel, hf⟩ := h
  obtain ⟨F, p, n, c, E, hcs, _, hC⟩ := trod_state Tryd.underlying27 vecI (by kernel_rfl) (by kernel_rfl) Tryd.underlying25 (by kernel_rfl) (by kernel_rfl) (by kernel_rfl) ⟨rfl, rfl⟩ ⟨rfl, rfl⟩
    (fun n cs x h => trod_write Tryd.underlying60 Tryd.underlying52 Tryd.underlying3 Tryd.underlying9 (by kernel_rfl) (by kernel_rfl) (by kernel_rfl) (by kernel_rfl) ⟨rfl, rfl⟩ ⟨rfl, rfl⟩ ⟨rfl, rfl⟩ ⟨rfl, rfl⟩ ⟨rfl, rfl⟩ ⟨rfl, rfl⟩ ⟨rfl, rfl⟩ h) hf
  simp only [Value.okWide, Tryd.underlying27] at hv
  obtain ⟨xs, rfl, hxs, ts, hts, _, hrow⟩ := hv
  simp only [Value.cells] at hcs
  have hx : xs = scs F (.slice p n c) := by
    apply Array.toList_inj.1
    rw [hcs, scs]
  subst hx
  obtain ⟨L, hl, hD⟩ := wrs_lie hC
  have hT := typesSt
  rw [hts] at hT
  simp only [Option.map_some, Option.some.injEq, Prod.mk.injEq] at hT
  obtain ⟨u, hu, hok⟩ := hrow 64 (.slice p n c) (scs_slot _ _)
  rw [hT.1, show 64 % 65 = 64 from rfl, hT.2] at hu
  obtain rfl := Option.some.inj hu
  refine ⟨F, p, c, L, by rw [hl], hD, fun a e => ?_⟩
  subst e
  simp only [Cell.okWide, Tryd.underlying25, Cell.ok, World.has] at hok
  obtain ⟨b, o, spot⟩ := a
  obtain rfl : spot = none := hok.2.2.2.1
  exact ⟨b, o, rfl⟩
end Go.Proofs.YtapbeokocfmlpaaDoor
/- Messages that came in, by value. -/
namespace Go.Proofs.YtapbeokocfmlpaaDoor
open Go Go.ChangeShapes Go.WideShapes Go.ChangeAt Go.RowKit
set_option linter.unusedVariables false
set_option maxRecDepth 1000000

section
variable {H : Type} {enc : TypeId × Value → H} {P : Program} {W : World} {base fuel : Nat} {t e s a i st ev sw wt : TypeId} {v : Value} {d : DataW H} {ps : List MemPlace} {cs : List Value} {x : DataW H × List MemPlace}
theorem trod_msg {f0 f1 f2 f3 f4 f5 f6 f7 : Field} {g0 g1 : Field} (ht : P.underlying t = some (.struct #[f0, f1, f2, f3, f4, f5, f6, f7])) (V : Vec P a i) (hi : P.underlying i = some (.int .i64)) (hci : P.cellsOf i = 1) (hca : P.cellsOf a = 64)
    (hs : P.underlying s = some (.slice ev)) (hcs : P.cellsOf s = 1) (hce : P.cellsOf ev = 8) (hst : P.underlying st = some (.struct #[g0, g1])) (hsw : P.underlying sw = some (.slice wt)) (hcsw : P.cellsOf sw = 1) (hcw : P.cellsOf wt = 6) (hcst : P.cellsOf st = 65) (hc : P.cellsOf t = 261)
    (h0 : f0.type = i ∧ f0.offset = 0) (h1 : f1.type = i ∧ f1.offset = 1) (h2 : f2.type = i ∧ f2.offset = 2) (h3 : f3.type = a ∧ f3.offset = 3) (h4 : f4.type = a ∧ f4.offset = 67) (h5 : f5.type = s ∧ f5.offset = 131) (h6 : f6.type = st ∧ f6.offset = 132) (h7 : f7.type = a ∧ f7.offset = 197)
    (k0 : g0.type = a ∧ g0.offset = 0) (k1 : g1.type = sw ∧ g1.offset = 64)
    (hE : ∀ (n : Nat) (cs : List Value) (x : DataW H × List MemPlace), DataW.trod enc P W 0 (fun _ => true) true n ev cs = some x → IsEv W cs)
    (hQ : ∀ (n : Nat) (cs : List Value) (x : DataW H × List MemPlace), DataW.trod enc P W 0 (fun _ => true) true n wt cs = some x → IsWrite cs)
    (h : DataW.trod enc P W 0 (fun _ => true) true fuel t cs = some x) : ∃ (m : Mg), cs = m.cells ∧ EvsAt W m.ep m.E ∧ m.E.length ≤ m.ec ∧ WrsAt W m.sp m.L := by
  obtain ⟨ys, n, _, _, hl, hn, hg⟩ := DataW.trod_struct ht h
  rw [hc] at hl
  simp at hn
  have q0 := hg 0 f0 rfl
  rw [h0.1, h0.2, hci, List.getElem?_eq_getElem (by omega)] at q0
  obtain ⟨z0, e0, _, _⟩ := DataW.trod_int hi q0
  have q1 := hg 1 f1 rfl
  rw [h1.1, h1.2, hci, List.getElem?_eq_getElem (by omega)] at q1
  obtain ⟨z1, e1, _, _⟩ := DataW.trod_int hi q1
  have q2 := hg 2 f2 rfl
  rw [h2.1, h2.2, hci, List.getElem?_eq_getElem (by omega)] at q2
  obtain ⟨z2, e2, _, _⟩ := DataW.trod_int hi q2
  have q3 := hg 3 f3 rfl
  rw [h3.1, h3.2, hca, List.getElem?_eq_getElem (by omega)] at q3
  obtain ⟨F3, e3, _⟩ := vec_cells V hci hca q3
  have q4 := hg 4 f4 rfl
  rw [h4.1, h4.2, hca, List.getElem?_eq_getElem (by omega)] at q4
  obtain ⟨F4, e4, _⟩ := vec_cells V hci hca q4
  have q5 := hg 5 f5 rfl
  rw [h5.1, h5.2, hcs, List.getElem?_eq_getElem (by omega)] at q5
  obtain ⟨p5, m5, c5, E5, e5, hC5⟩ := leaf_things hs hce (by omega) hE q5
  obtain ⟨EL, hEL, hEv⟩ := evs_lie hC5
  have q6 := hg 6 f6 rfl
  rw [h6.1, h6.2, hcst, List.getElem?_eq_getElem (by omega)] at q6
  obtain ⟨F6, p6, m6, c6, E6, e6, _, hC6⟩ := trod_state hst V hci hca hsw hcsw hcw hcst k0 k1 hQ q6
  obtain ⟨WL, hWL, hWr⟩ := wrs_lie hC6
  have q7 := hg 7 f7 rfl
  rw [h7.1, h7.2, hca, List.getElem?_eq_getElem (by omega)] at q7
  obtain ⟨F7, e7, _⟩ := vec_cells V hci hca q7
  refine ⟨⟨z0, z1, z2, F3, F4, p5, c5, EL, F6, p6, c6, WL, F7⟩, ?_, hEv, by rw [hEL]; exact hC5.le, hWr⟩
  have st : ∀ k j : Nat, k + j ≤ 261 → cs.drop k = (cs.drop k).take j ++ cs.drop (k + j) := fun k j _ => by rw [← List.drop_drop, List.take_append_drop]
  have s0 := st 0 1 (by omega); have s1 := st 1 1 (by omega); have s2 := st 2 1 (by omega); have s3 := st 3 64 (by omega); have s4 := st 67 64 (by omega); have s5 := st 131 1 (by omega); have s6 := st 132 65 (by omega); have s7 := st 197 64 (by omega)
  rw [e0] at s0; rw [e1] at s1; rw [e2] at s2; rw [e3] at s3; rw [e4] at s4; rw [e5] at s5; rw [e6] at s6; rw [e7] at s7
  try simp only [Nat.zero_add, Nat.reduceAdd, List.drop_zero] at s0
  try simp only [Nat.zero_add, Nat.reduceAdd, List.drop_zero] at s1
  try simp only [Nat.zero_add, Nat.reduceAdd, List.drop_zero] at s2
  try simp only [Nat.zero_add, Nat.reduceAdd, List.drop_zero] at s3
  try simp only [Nat.zero_add, Nat.reduceAdd, List.drop_zero] at s4
  try simp only [Nat.zero_add, Nat.reduceAdd, List.drop_zero] at s5
  try simp only [Nat.zero_add, Nat.reduceAdd, List.drop_zero] at s6
  try simp only [Nat.zero_add, Nat.reduceAdd, List.drop_zero] at s7
  have s8 : cs.drop 261 = [] := List.drop_of_length_le (by omega)
  rw [s0, s1, s2, s3, s4, s5, s6, s7, s8]
  simp only [Mg.cells, Mg.st, scs, List.toList_toArray, List.cons_append, List.nil_append, List.append_nil, hEL, hWL]
end
theorem typesMg : (Tryd.prog.cellTypes Tryd.prog.depth 29).map (fun ts => (ts.length, ts[131]?, ts[196]?)) = some (261, some 24, some 25) := by kernel_rfl
/-- a message that came in -/
theorem open_msg {H : Type} {enc : TypeId × Value → H} {W : World} {base : Nat} {v : Value} {d : DataW H} {ps : List MemPlace} (hv : Value.okWide Tryd.prog W .any base 29 v)
    (h : DataW.Trod enc Tryd.prog W 0 (fun _ => true) true 29 v d ps) : ∃ (m : Mg), v = .agg m.cells.toArray ∧ EvsAt W m.ep m.E ∧ WrsAt W m.sp m.L ∧ (m.E.length ≤ m.ec ∧ (∀ a, m.ep = some a → ∃ b o, a = ⟨b, o, none⟩) ∧ (∀ a, m.sp = some a → ∃ b o, a = ⟨b, o, none⟩)) := by
  obtain ⟨fuel, hf⟩ := h
  obtain ⟨m, hcs, hE, hle, hW⟩ := trod_msg Tryd.underlying29 vecI Tryd.underlying3 (by kernel_rfl) (by kernel_rfl) Tryd.underlying24 (by kernel_rfl) (by kernel_rfl) Tryd.underlying27 Tryd.underlying25 (by kernel_rfl) (by kernel_rfl) (by kernel_rfl) (by kernel_rfl)
    ⟨rfl, rfl⟩ ⟨rfl, rfl⟩ ⟨rfl, rfl⟩ ⟨rfl, rfl⟩ ⟨rfl, rfl⟩ ⟨rfl, rfl⟩ ⟨rfl, rfl⟩ ⟨rfl, rfl⟩ ⟨rfl, rfl⟩ ⟨rfl, rfl⟩
    (fun n cs x h => trod_event Tryd.underlying55 Tryd.underlying52 Tryd.underlying3 Tryd.underlying9 Tryd.underlying53 (by kernel_rfl) (by kernel_rfl) (by kernel_rfl) (by kernel_rfl) (by kernel_rfl) ⟨rfl, rfl⟩ ⟨rfl, rfl⟩ ⟨rfl, rfl⟩ ⟨rfl, rfl⟩ ⟨rfl, rfl⟩ ⟨rfl, rfl⟩ ⟨rfl, rfl⟩ ⟨rfl, rfl⟩ ⟨rfl, rfl⟩ h)
    (fun n cs x h => trod_write Tryd.underlying60 Tryd.underlying52 Tryd.underlying3 Tryd.underlying9 (by kernel_rfl) (by kernel_rfl) (by kernel_rfl) (by kernel_rfl) ⟨rfl, rfl⟩ ⟨rfl, rfl⟩ ⟨rfl, rfl⟩ ⟨rfl, rfl⟩ ⟨rfl, rfl⟩ ⟨rfl, rfl⟩ ⟨rfl, rfl⟩ h) hf
  simp only [Value.okWide, Tryd.underlying29] at hv
  obtain ⟨xs, rfl, hxs, ts, hts, _, hrow⟩ := hv
  simp only [Value.cells] at hcs
  have hx : xs = m.cells.toArray := by
    apply Array.toList_inj.1
    rw [hcs, List.toList_toArray]
  subst hx
  have hT := typesMg
  rw [hts] at hT
  simp only [Option.map_some, Option.some.injEq, Prod.mk.injEq] at hT
  have c131 : m.cells.toArray[131]? = some (.slice m.ep m.E.length m.ec) := by
    rw [List.getElem?_toArray]
    unfold Mg.cells
    rw [List.getElem?_append_right (by simp), List.getElem?_append_right (by simp [vf_size]), List.getElem?_append_right (by simp [vf_size])]
    simp [vf_size]
  have c196 : m.cells.toArray[196]? = some (.slice m.sp m.L.length m.sc) := by
    rw [List.getElem?_toArray]
    unfold Mg.cells
    rw [List.getElem?_append_right (by simp), List.getElem?_append_right (by simp [vf_size]), List.getElem?_append_right (by simp [vf_size]), List.getElem?_append_right (by simp [vf_size]), List.getElem?_append_left (by simp [vf_size, Mg.st_size])]
    have := scs_slot m.seen (.slice m.sp m.L.length m.sc)
    simpa [vf_size, Mg.st] using this
  refine ⟨m, rfl, hE, hW, hle, fun a e => ?_, fun a e => ?_⟩
  · obtain ⟨u, hu, hok⟩ := hrow 131 _ c131
    rw [hT.1, show 131 % 261 = 131 from rfl, hT.2.1] at hu
    obtain rfl := Option.some.inj hu
    rw [e] at hok
    simp only [Cell.okWide, Tryd.underlying24, Cell.ok, World.has] at hok
    obtain ⟨b, o, spot⟩ := a
    obtain rfl : spot = none := hok.2.2.2.1
    exact ⟨b, o, rfl⟩
  · obtain ⟨u, hu, hok⟩ := hrow 196 _ c196
    rw [hT.1, show 196 % 261 = 196 from rfl, hT.2.2] at hu
    obtain rfl := Option.some.inj hu
    rw [e] at hok
    simp only [Cell.okWide, Tryd.underlying25, Cell.ok, World.has] at hok
    obtain ⟨b, o, spot⟩ := a
    obtain rfl : spot = none := hok.2.2.2.1
    exact ⟨b, o, rfl⟩
/-- a message with nothing in it -/
def msgNil : Value := .agg (#[.int .i64 0, .int .i64 0, .int .i64 0] ++ Array.replicate 128 (Value.int .i64 0) ++ #[Value.slice none 0 0] ++ Array.replicate 64 (Value.int .i64 0) ++ #[Value.slice none 0 0] ++ Array.replicate 64 (Value.int .i64 0))
def msgNilD {H : Type} : DataW H := .agg [.lit (.int .i64 0), .lit (.int .i64 0), .lit (.int .i64 0), .agg (List.replicate 64 (.lit (.int .i64 0))), .agg (List.replicate 64 (.lit (.int .i64 0))), .nil, .agg [.agg (List.replicate 64 (.lit (.int .i64 0))), .nil], .agg (List.replicate 64 (.lit (.int .i64 0)))]
end Go.Proofs.YtapbeokocfmlpaaDoor
