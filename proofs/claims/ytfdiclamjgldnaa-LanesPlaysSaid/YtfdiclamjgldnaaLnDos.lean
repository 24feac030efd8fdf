/- The list of what befalls messages that came in. -/
import Derived.Test.YtfdiclamjgldnaaThings
import Derived.Test.YtfdiclamjgldnaaMemInts
namespace Go.Proofs.Ytfdiclamjgldnaa
open Go Go.ChangeShapes Go.WideShapes Go.ChangeAt Go.RowKit
set_option linter.unusedVariables false

structure LDo where
  op : Int
  fr : Int
  to : Int
  k : Int
  at_ : Int
  by_ : UInt8
  bp : Option Addr
  bc : Nat
  bs : List UInt8
def LDo.cs (v : LDo) : List Value := [.int .i64 v.op, .int .i64 v.fr, .int .i64 v.to, .int .i64 v.k, .int .i64 v.at_, .int .u8 (v.by_.toNat : Int), .slice v.bp v.bs.length v.bc]
structure LDo.Ok (W : World) (v : LDo) : Prop where
  op : -9223372036854775808 ≤ v.op ∧ v.op ≤ 9223372036854775807
  k : -9223372036854775808 ≤ v.k ∧ v.k ≤ 9223372036854775807
  at_ : -9223372036854775808 ≤ v.at_ ∧ v.at_ ≤ 9223372036854775807
  b : Lies W v.bp v.bs
  bc : v.bs.length ≤ v.bc
  bn : v.bp = none → v.bs = []
def LDosLie (W : World) (p : Option Addr) (vs : List LDo) : Prop :=
  (∀ v ∈ vs, v.Ok W) ∧ (vs ≠ [] → ∃ b o, p = some ⟨b, o, none⟩ ∧ b < W.heap.size ∧ ∀ (j : Nat) v, vs[j]? = some v → W.rangeAt b (o + j * 7) v.cs)
section
variable {H : Type} {enc : TypeId × Value → H} {P : Program} {w : World} {base : Nat} {held : Bool} {fuel : Nat} {t e i bt u kt : TypeId} {cs : List Value} {x : DataW H × List MemPlace}
theorem leaf_bytes (ht : P.underlying t = some (.slice e)) (he : P.underlying e = some (.int .u8)) (hc : P.cellsOf e = 1) (h : DataW.trod enc P w base (fun _ => true) held fuel t cs = some x) :
    ∃ p c l, cs = [.slice p l.length c] ∧ Lies w p l ∧ l.length ≤ c ∧ (p = none → l = []) := by
  rcases open_ints ht he hc h with ⟨hcs, _⟩ | ⟨a, len, cap, zs, hcs, _, hl, hmx, hz, hx, hcell, hwz⟩
  · exact ⟨none, 0, [], hcs, Lies.nil _ _, Nat.le_refl _, fun _ => rfl⟩
  · simp only [if_true] at hz
    have hlen : ((zs.take len).map fun z => UInt8.ofNat z.toNat).length = len := by simp; omega
    refine ⟨some a, cap, (zs.take len).map fun z => UInt8.ofNat z.toNat, by rw [hcs, hlen], ?_, by rw [hlen]; exact hl, fun q => by cases q⟩
    intro h0
    have hpos : 0 < len := by
      rcases Nat.eq_zero_or_pos len with e | e
      · subst e; simp at h0
      · exact e
    obtain ⟨b, off, spot⟩ := a
    have hsp : spot = none := by simpa [Addr.add] using World.cell?_spot (hcell 0 (by omega))
    subst hsp
    refine ⟨b, off, rfl, fun i hi => ?_⟩
    rw [hlen] at hi
    have h1 := hcell i (by omega)
    rw [Addr.add_lit] at h1
    rw [h1]
    have hget : zs.getD i 0 = zs[i]'(by omega) := by simp [List.getD, List.getElem?_eq_getElem (show i < zs.length by omega)]
    have hw := hwz (zs[i]'(by omega)) (List.getElem_mem _)
    have hr : 0 ≤ zs[i]'(by omega) ∧ zs[i]'(by omega) < 256 := by
      simp [Lit.wf, IntKind.min, IntKind.max, IntKind.bits, IntKind.signed] at hw
      omega
    have e2 : ((zs.take len).map fun z => UInt8.ofNat z.toNat).getD i 0 = UInt8.ofNat (zs[i]'(by omega)).toNat := by
      simp [List.getD, hi, List.getElem?_eq_getElem (show i < zs.length by omega)]
    rw [hget, e2, UInt8.toNat_ofNat']
    congr 2
    omega
theorem wf_u8 {z : Int} (h : (Lit.int .u8 z).wf = true) : ∃ b : UInt8, z = (b.toNat : Int) := by
  simp [Lit.wf, IntKind.min, IntKind.max, IntKind.bits, IntKind.signed] at h
  refine ⟨UInt8.ofNat z.toNat, ?_⟩
  rw [UInt8.toNat_ofNat']; omega
/-- the cells of one -/
def IsLDo (W : World) (cs : List Value) : Prop := ∃ v : LDo, cs = v.cs ∧ v.Ok W
theorem trod_ldo {f0 f1 f2 f3 f4 f5 f6 : Field} (ht : P.underlying t = some (.struct #[f0, f1, f2, f3, f4, f5, f6])) (hi : P.underlying i = some (.int .i64)) (hb : P.underlying bt = some (.slice u)) (hu : P.underlying u = some (.int .u8))
    (hc : P.cellsOf t = 7) (hci : P.cellsOf i = 1) (hcu : P.cellsOf u = 1) (hcb : P.cellsOf bt = 1)
    (h0 : f0.type = i ∧ f0.offset = 0) (h1 : f1.type = i ∧ f1.offset = 1) (h2 : f2.type = i ∧ f2.offset = 2) (h3 : f3.type = i ∧ f3.offset = 3) (h4 : f4.type = i ∧ f4.offset = 4) (h5 : f5.type = u ∧ f5.offset = 5) (h6 : f6.type = bt ∧ f6.offset = 6)
    (h : DataW.trod enc P w base (fun _ => true) held fuel t cs = some x) : IsLDo w cs := by
  obtain ⟨ys, n, _, _, hl, hn, hg⟩ := DataW.trod_struct ht h
  rw [hc] at hl
  simp at hn
  have k0 := hg 0 f0 rfl
  rw [h0.1, h0.2, hci, List.getElem?_eq_getElem (by omega)] at k0
  obtain ⟨z0, e0, _, w0⟩ := DataW.trod_int hi k0
  have k1 := hg 1 f1 rfl
  rw [h1.1, h1.2, hci, List.getElem?_eq_getElem (by omega)] at k1
  obtain ⟨z1, e1, _, w1⟩ := DataW.trod_int hi k1
  have k2 := hg 2 f2 rfl
  rw [h2.1, h2.2, hci, List.getElem?_eq_getElem (by omega)] at k2
  obtain ⟨z2, e2, _, w2⟩ := DataW.trod_int hi k2
  have k3 := hg 3 f3 rfl
  rw [h3.1, h3.2, hci, List.getElem?_eq_getElem (by omega)] at k3
  obtain ⟨z3, e3, _, w3⟩ := DataW.trod_int hi k3
  have k4 := hg 4 f4 rfl
  rw [h4.1, h4.2, hci, List.getElem?_eq_getElem (by omega)] at k4
  obtain ⟨z4, e4, _, w4⟩ := DataW.trod_int hi k4
  have k5 := hg 5 f5 rfl
  rw [h5.1, h5.2, hcu, List.getElem?_eq_getElem (by omega)] at k5
  obtain ⟨z5, e5, _, w5⟩ := DataW.trod_int hu k5
  obtain ⟨y5, rfl⟩ := wf_u8 w5
  have k6 := hg 6 f6 rfl
  rw [h6.1, h6.2, hcb, List.getElem?_eq_getElem (by omega)] at k6
  obtain ⟨p6, c6, l6, e6, g6, m6, n6⟩ := leaf_bytes hb hu hcu k6
  have d0 := take_one e0
  have d1 := take_one e1
  have d2 := take_one e2
  have d3 := take_one e3
  have d4 := take_one e4
  have d5 := take_one e5
  have d6 := take_one e6
  refine ⟨⟨z0, z1, z2, z3, z4, y5, p6, c6, l6⟩, ?_, ⟨wide_wf w0, wide_wf w3, wide_wf w4, g6, m6, n6⟩⟩
  match cs, hl, d0, d1, d2, d3, d4, d5, d6 with
  | [a0, a1, a2, a3, a4, a5, a6], _, d0, d1, d2, d3, d4, d5, d6 =>
    simp at d0 d1 d2 d3 d4 d5 d6
    subst d0 d1 d2 d3 d4 d5 d6
    rfl
end
theorem ldos_lie {W : World} {p : Option Addr} {n c : Nat} {E : Nat → List Value} (h : CameR W p n c 7 (IsLDo W) E) : ∃ vs : List LDo, vs.length = n ∧ LDosLie W p vs ∧ vs.length ≤ 9223372036854775807 := by
  have each : ∀ j, ∃ v : LDo, j < n → E j = v.cs ∧ v.Ok W := fun j => by
    by_cases hj : j < n
    · obtain ⟨v, h1, h2⟩ := (h.each j hj).1
      exact ⟨v, fun _ => ⟨h1, h2⟩⟩
    · exact ⟨⟨0, 0, 0, 0, 0, 0, none, 0, []⟩, fun q => absurd q hj⟩
  obtain ⟨f, hf⟩ := Classical.axiomOfChoice each
  have hlen : ((List.range n).map f).length = n := by simp
  have hm := h.max
  have hle := h.le
  refine ⟨(List.range n).map f, hlen, ⟨fun v hv => ?_, fun h0 => ?_⟩, by rw [hlen]; unfold maxLen at hm; omega⟩
  · obtain ⟨j, hj, rfl⟩ := List.mem_map.1 hv
    exact (hf j (List.mem_range.1 hj)).2
  · have hpos : 0 < n := by
      rcases Nat.eq_zero_or_pos n with e | e
      · subst e; simp at h0
      · exact e
    obtain ⟨b, o, rfl, hb, hc⟩ := h.at hpos (by omega)
    refine ⟨b, o, rfl, hb, fun j v hv => ?_⟩
    have hj : j < n := by have := (List.getElem?_eq_some_iff.1 hv).1; rw [hlen] at this; exact this
    have hv2 : v = f j := by
      rw [List.getElem?_map, List.getElem?_range hj] at hv
      exact (Option.some.inj hv).symm
    subst hv2
    have hr := hc j hj
    rw [(hf j hj).1] at hr
    exact hr
end Go.Proofs.Ytfdiclamjgldnaa
