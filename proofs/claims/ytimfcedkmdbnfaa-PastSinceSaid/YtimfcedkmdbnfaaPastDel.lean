/- slices.DeleteFunc of events of one's own. -/
import Derived.Test.YtimfcedkmdbnfaaPastTrim2
import Derived.Lib.SliceRun
namespace Go.Proofs.Ytimfcedkmdbnfaa
open Go Go.RowKit
set_option linter.unusedVariables false

/-! Some cells of a row written at once -/
def setLL (xs : List Value) : Nat → List Value → List Value
  | _, [] => xs
  | o, v :: r => setLL (xs.set o v) (o + 1) r
theorem setLL_length : ∀ (vs : List Value) (xs : List Value) (o : Nat), (setLL xs o vs).length = xs.length
  | [], _, _ => rfl
  | v :: r, xs, o => by rw [setLL, setLL_length r]; simp
theorem setLL_get : ∀ (vs : List Value) (xs : List Value) (o : Nat) (hle : o + vs.length ≤ xs.length) (i : Nat), (setLL xs o vs)[i]? = if o ≤ i ∧ i < o + vs.length then vs[i - o]? else xs[i]?
  | [], xs, o, _, i => by
    have : ¬ (o ≤ i ∧ i < o + ([] : List Value).length) := by simp
    rw [if_neg this]; rfl
  | v :: r, xs, o, hle, i => by
    rw [List.length_cons] at hle ⊢
    rw [setLL, setLL_get r _ _ (by simp; omega)]
    by_cases h1 : o + 1 ≤ i ∧ i < o + 1 + r.length
    · rw [if_pos h1, if_pos (by omega), show i - o = (i - (o + 1)) + 1 from by omega, List.getElem?_cons_succ]
    · rw [if_neg h1]
      by_cases h2 : o = i
      · subst h2
        rw [if_pos (by omega), List.getElem?_set_self (by omega), Nat.sub_self]; rfl
      · rw [if_neg (by omega), List.getElem?_set_ne h2]
theorem own_setCells {B : Nat} {e : TypeId} {k n : Nat} {g c : Nat} : ∀ (vs : List Value) (w : World) (xs : List Value) (o : Nat), w.ownsRow B e k (.slice (some ⟨g, 0, none⟩) n c) n xs →
    (w.setCells g o vs).ownsRow B e k (.slice (some ⟨g, 0, none⟩) n c) n (setLL xs o vs)
  | [], _, _, _, h => h
  | v :: r, w, xs, o, h => by
    rw [World.setCells, setLL]
    exact own_setCells r _ _ _ (h.stored o v).1
theorem ecl_setLL (M : List EvP) (a : Nat) (ha : a < M.length) (y : EvP) : setLL (ecl M) (a * 8) y.cells = ecl (M.set a y) := by
  apply List.ext_getElem?
  intro i
  have hl := ecl_length M
  rw [setLL_get _ _ _ (by rw [EvP.cells_len, hl]; omega)]
  by_cases hi : i < M.length * 8
  · have h2 := flat_get EvP.cells_len (M.set a y) (i / 8) (by simp; omega) (i % 8) (by omega)
    have h1 := flat_get EvP.cells_len M (i / 8) (by omega) (i % 8) (by omega)
    rw [show i / 8 * 8 + i % 8 = i by omega] at h1 h2
    change (ecl M)[i]? = _ at h1
    change (ecl (M.set a y))[i]? = _ at h2
    rw [h1, h2, EvP.cells_len]
    by_cases he : a = i / 8
    · subst he
      rw [if_pos (by omega)]
      simp only [List.getElem_set_self]
      rw [show i - i / 8 * 8 = i % 8 by omega]
    · rw [if_neg (by omega), List.getElem_set_ne he]
  · rw [if_neg (by rw [EvP.cells_len]; omega), List.getElem?_eq_none (by omega), List.getElem?_eq_none (by rw [ecl_length]; simp; omega)]
set_option maxHeartbeats 4000000 in
set_option maxRecDepth 100000 in
theorem since_tell (A : Nat) (v : Nat → Int) (x : EvP) (w : World) (hA : InVec A v () w) : Calls Try.prog 19 #[.agg x.cells.toArray, .pointer (some ⟨A, 0, none⟩)] w (RetBool w (x.e.has v)) := by
  obtain ⟨⟨r, n, t, kd, d, fl, tx, gn⟩, gp, gc⟩ := x
  show Calls Try.prog 19 #[.agg #[.int .i64 r, .int .i64 n, .int .i64 t, .int .i64 kd, .string d, .int .i64 fl, .string tx, .slice gp gn.length gc], .pointer (some ⟨A, 0, none⟩)] w _
  have hb : Below w.heap.size w (w.alloc (.cells #[.int .i64 r, .int .i64 n, .int .i64 t, .int .i64 kd, .string d, .int .i64 fl, .string tx, .slice gp gn.length gc] 35)) := below_alloc _ _
  have HR := Lib.hid (Row.later hA hb); have HB := Lib.hid hb
  have HS := Lib.hid (has_is v r n (w.alloc (.cells #[.int .i64 r, .int .i64 n, .int .i64 t, .int .i64 kd, .string d, .int .i64 fl, .string tx, .slice gp gn.length gc] 35)))
  clear hb hA
  go_enter Try.func19, Try.ntmps19
  go_wp2_with (refine wpList_vload vecI rfl _ rfl A rfl _ _ HR.out ?_)
  refine HS.out.mono ?_
  rintro e w2 ⟨rfl, hb2⟩
  have HB2 := Lib.hid (thenBelow HB.out hb2)
  clear hb2
  go_wp2
  go_ret
  exact ⟨rfl, HB2.out⟩
theorem since_enter (args : Array Value) (w : World) : (callFunc 19 args).run Try.prog w = .ok (.enter 19 args) w := by kernel_rfl
/-- the first that goes -/
def IdxR (w : World) (v : Nat → Int) (L : List EvP) (e : Ending) (w' : World) : Prop :=
  ∃ i : Int, e = .returned (.int .i64 i) ∧ ((i = -1 ∧ ∀ x ∈ L, x.e.has v = false) ∨ (∃ k : Nat, i = k ∧ k < L.length ∧ (∀ y, L[k]? = some y → y.e.has v = true) ∧ ∀ x ∈ L.take k, x.e.has v = false)) ∧ Below w.heap.size w w'
set_option maxHeartbeats 8000000 in
set_option maxRecDepth 100000 in
theorem idxE_is (A : Nat) (v : Nat → Int) (p : Option Addr) (c : Nat) (L : List EvP) (w : World) (hA : InVec A v () w) (h : EvsAt w p L) (hn : L.length ≤ 1000) :
    Calls Try.prog 31 #[.slice p L.length c, .func (.func 19) #[] #[.pointer (some ⟨A, 0, none⟩)]] w (IdxR w v L) := by
  have EV := Lib.hid h; have HA := Lib.hid hA
  clear h hA
  go_enter Try.func31, Try.ntmps31
  go_wp2
  go_loopw [8] (fun i wr => ∃ j : Nat, j ≤ L.length ∧ i = .int .i64 j ∧ (∀ x ∈ L.take j, x.e.has v = false) ∧ Below w.heap.size w wr) (fun i _ => L.length - (intOf i).toNat)
  case atStart => exact ⟨0, Nat.zero_le _, rfl, fun x hx => by simp at hx, Below.refl _ _⟩
  case round =>
    obtain ⟨j, hj, rfl, hno, hb⟩ := hrel
    have BB := Lib.hid hb; have NO := Lib.hid hno
    clear hno
    by_cases hjl : j < L.length
    · have hjl' : (j : Int) < L.length := by omega
      obtain ⟨b, o, rfl, hlt, hr⟩ := (EV.out.below hb).at hjl
      obtain ⟨c0, c1, c2, c3, c4, c5, c6, c7⟩ := ev_cells hr
      have hget : Hid (L[j]? = some L[j]) := Lib.hid (List.getElem?_eq_getElem hjl)
      have TS : Hid (L.take (j + 1) = L.take j ++ [L[j]]) := Lib.hid (by rw [List.take_add_one, List.getElem?_eq_getElem hjl]; rfl)
      have TL := Lib.hid (since_tell A v L[j] wr (Row.later HA.out hb))
      clear hb hr hlt
      obtain ⟨y, hy⟩ : ∃ y, L[j] = y := ⟨_, rfl⟩
      rw [hy] at c0 c1 c2 c3 c4 c5 c6 c7 hget TS TL
      clear hy
      obtain ⟨⟨r, n, t, kd, d, fl, tx, gn⟩, gp, gc⟩ := y
      simp only [EvP.cells] at c0 c1 c2 c3 c4 c5 c6 c7 TL
      have he := since_enter
      go_wp2_with fail
      refine TL.out.mono ?_
      rintro e w2 ⟨rfl, hb2⟩
      have B2 := Lib.hid (thenBelow BB.out hb2)
      clear hb2 TL c0 c1 c2 c3 c4 c5 c6 c7
      cases hgo : Ev.has v ⟨r, n, t, kd, d, fl, tx, gn⟩ with
      | true =>
        have HGO := Lib.hid hgo
        clear hgo
        go_wp2
        go_ret
        exact ⟨_, rfl, .inr ⟨j, rfl, hjl, fun y hy => by rw [hget.out] at hy; obtain rfl := Option.some.inj hy; exact HGO.out, NO.out⟩, B2.out⟩
      | false =>
        have HGO := Lib.hid hgo
        clear hgo
        go_wp2
        go_roundw
        case rel =>
          refine ⟨j + 1, by omega, by go_num, fun x hx => ?_, B2.out⟩
          rw [TS.out] at hx
          rcases List.mem_append.1 hx with h | h
          · exact NO.out x h
          · rw [List.mem_singleton.1 h]; exact HGO.out
        case measure => simp [intOf]; omega
    · obtain rfl : j = L.length := by omega
      have hjl' : ¬ ((L.length : Nat) : Int) < L.length := by omega
      rw [List.take_length] at NO
      go_wp2
      go_ret
      exact ⟨_, rfl, .inl ⟨rfl, NO.out⟩, BB.out⟩
theorem zeroEv : ∀ w : World, (zeroValue 35).run Try.prog w = .ok (.agg #[.int .i64 0, .int .i64 0, .int .i64 0, .int .i64 0, .string ByteArray.empty, .int .i64 0, .string ByteArray.empty, .slice none 0 0]) w := fun w => by kernel_rfl
theorem clear_any (w : World) (ty : TypeId) (b o n c : Nat) (hn : 0 < n) (z : Value) (hz : ∀ w : World, (zeroValue 35).run Try.prog w = .ok z w) (hl : (Builtin.zeroCells z.cells n).toList.length = n * 8) (h1 : ∀ u ∈ (Builtin.zeroCells z.cells n).toList, u.oneCell' = true)
    (hc : ∀ j, j < n * 8 → (w.cell? ⟨b, o + j, none⟩).isSome = true) (hf : ∀ j, j < n * 8 → w.frozen? ⟨b, o + j, none⟩ = false) :
    (Builtin.clear_ #[22] ty #[.slice (some ⟨b, o, none⟩) n c]).run Try.prog w = .ok (.tuple #[]) (w.setCells b o (Builtin.zeroCells z.cells n).toList) := by
  have hst := run_storeCells_cells (P := Try.prog) b o _ 0 w (by rw [hl]; simpa using hc) (by rw [hl]; simpa using hf) h1
  simp only [Nat.add_zero] at hst
  obtain ⟨m, rfl⟩ : ∃ m, n = m + 1 := ⟨n - 1, by omega⟩
  have hu : Try.prog.underlying 22 = some (.slice 35) := Try.underlying22
  simp [Builtin.clear_, run_underlying hu, hz, hst]
theorem clearE (w : World) (ty : TypeId) (b o n c : Nat) (hn : 0 < n) (hc : ∀ j, j < n * 8 → (w.cell? ⟨b, o + j, none⟩).isSome = true) (hf : ∀ j, j < n * 8 → w.frozen? ⟨b, o + j, none⟩ = false) :
    ∃ vs : List Value, vs.length = n * 8 ∧ (Builtin.clear_ #[22] ty #[.slice (some ⟨b, o, none⟩) n c]).run Try.prog w = .ok (.tuple #[]) (w.setCells b o vs) := by
  refine ⟨(Builtin.zeroCells (Value.cells (.agg #[.int .i64 0, .int .i64 0, .int .i64 0, .int .i64 0, .string ByteArray.empty, .int .i64 0, .string ByteArray.empty, .slice none 0 0])) n).toList, by simp [Builtin.zeroCells, Value.cells], ?_⟩
  have hl : (Builtin.zeroCells (Value.cells (.agg #[.int .i64 0, .int .i64 0, .int .i64 0, .int .i64 0, .string ByteArray.empty, .int .i64 0, .string ByteArray.empty, .slice none 0 0])) n).toList.length = n * 8 := by simp [Builtin.zeroCells, Value.cells]
  have h1 : ∀ u ∈ (Builtin.zeroCells (Value.cells (.agg #[.int .i64 0, .int .i64 0, .int .i64 0, .int .i64 0, .string ByteArray.empty, .int .i64 0, .string ByteArray.empty, .slice none 0 0])) n).toList, u.oneCell' = true := by
    intro u hu
    simp only [Builtin.zeroCells, Array.toList_map, List.mem_map] at hu
    obtain ⟨i, _, rfl⟩ := hu
    have hi : i % 8 < 8 := Nat.mod_lt _ (by decide)
    change Value.oneCell' ((Value.cells (.agg #[.int .i64 0, .int .i64 0, .int .i64 0, .int .i64 0, .string ByteArray.empty, .int .i64 0, .string ByteArray.empty, .slice none 0 0]))[i % 8]!) = true
    generalize i % 8 = j at hi
    match j, hi with
    | 0, _ => rfl
    | 1, _ => rfl
    | 2, _ => rfl
    | 3, _ => rfl
    | 4, _ => rfl
    | 5, _ => rfl
    | 6, _ => rfl
    | 7, _ => rfl
  exact clear_any w ty b o n c hn _ zeroEv hl h1 hc hf
end Go.Proofs.Ytimfcedkmdbnfaa
