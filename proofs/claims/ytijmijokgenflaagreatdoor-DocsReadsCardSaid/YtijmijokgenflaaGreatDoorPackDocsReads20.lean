/- The statement DocsReads, proved for every input that its row reads: part 20 of 54. -/
import Derived.Test.YtijmijokgenflaaGreatDoorPackDocsReads8
import Derived.Test.YtijmijokgenflaaGreatDoorPackDocsReads10
import Derived.Lib.SliceRun
import Derived.Test.YtijmijokgenflaaGreatDoorPackDocsReads19
/- Writes: how they lie; slices.Clone of them. -/
namespace Go.Proofs
open Go.Shelf
def Tryz.laysCloneW_ren : Go.Shelf.Ren := ⟨fun | 41 => 36 | n => n, fun | 22 => 24 | 23 => 39 | 4 => 4 | n => n, fun | n => n⟩
theorem Tryz.laysCloneW : Go.Proofs.SlLaysE0.n41 Tryz.prog Tryz.laysCloneW_ren := {
  mixed := by kernel_rfl
  f41 := ⟨Tryz.f36.name, by decide, Tryz.func36.trans (congrArg some (by kernel_rfl))⟩
  t4 := Tryz.underlying4
  a4 := Tryz.isAgg4
  z4 := Tryz.sizeOf4
  v4 := Tryz.zeroValue4
  t22 := Tryz.underlying24
  a22 := Tryz.isAgg24
  z22 := Tryz.sizeOf24
  v22 := Tryz.zeroValue24 }
end Go.Proofs
namespace Go.Proofs.YtijmijokgenflaaGreatDoor
open Go Go.RowKit
set_option linter.unusedVariables false
set_option maxRecDepth 1000000

/-- a write -/
structure Wr where
  rep : Int
  n : Int
  time : Int
  doc : ByteArray
  field : Int
  text : ByteArray
def Wr.cells (x : Wr) : List Value := [.int .i64 x.rep, .int .i64 x.n, .int .i64 x.time, .string x.doc, .int .i64 x.field, .string x.text]
theorem Wr.cells_len (x : Wr) : x.cells.length = 6 := rfl
theorem Wr.cells_one (x : Wr) : ∀ u ∈ x.cells, u.oneCell' = true := by
  intro u hu
  simp [Wr.cells] at hu
  rcases hu with rfl | rfl | rfl | rfl | rfl | rfl <;> rfl
def Wr.dot (x : Wr) : Dt := (x.rep, x.n)
def wcl (L : List Wr) : List Value := L.flatMap Wr.cells
theorem wcl_length (L : List Wr) : (wcl L).length = L.length * 6 := flat_len Wr.cells_len L
theorem wcl_append (a b : List Wr) : wcl (a ++ b) = wcl a ++ wcl b := by simp [wcl]
theorem wcl_one (L : List Wr) : ∀ u ∈ wcl L, u.oneCell' = true := by
  intro u hu
  obtain ⟨x, _, h⟩ := List.mem_flatMap.1 hu
  exact x.cells_one u h
theorem wcl_take : ∀ (L : List Wr) (k : Nat), wcl (L.take k) = (wcl L).take (k * 6)
  | [], k => by simp [wcl]
  | x :: L, 0 => by simp [wcl]
  | x :: L, k + 1 => by
    have h := wcl_take L k
    rw [List.take_succ_cons, show wcl (x :: L.take k) = x.cells ++ wcl (L.take k) from rfl, show wcl (x :: L) = x.cells ++ wcl L from rfl, h, show (k + 1) * 6 = x.cells.length + k * 6 by rw [Wr.cells_len]; omega, List.take_length_add_append]
/-- writes that lie at p -/
structure WrsAt (w : World) (p : Option Addr) (L : List Wr) : Prop where
  row : L ≠ [] → ∃ b o, p = some ⟨b, o, none⟩ ∧ w.rangeAt b o (wcl L)
  none : p = none → L = []
theorem WrsAt.below {w w' : World} {p : Option Addr} {L : List Wr} (h : WrsAt w p L) (hb : Below w.heap.size w w') : WrsAt w' p L :=
  ⟨fun hn => by
    obtain ⟨b, o, rfl, hr⟩ := h.row hn
    exact ⟨b, o, rfl, range_below hr hb⟩, h.none⟩
theorem WrsAt.at {w : World} {p : Option Addr} {L : List Wr} (h : WrsAt w p L) {i : Nat} (hi : i < L.length) :
    ∃ b o, p = some ⟨b, o, Option.none⟩ ∧ b < w.heap.size ∧ w.rangeAt b (o + i * 6) L[i].cells := by
  obtain ⟨b, o, rfl, hr⟩ := h.row (by intro e; subst e; simp at hi)
  have hr2 : w.rangeAt b (o + i * 6) L[i].cells := fun j u hu => by
    have hj : j < 6 := (List.getElem?_eq_some_iff.1 hu).1
    have := hr (i * 6 + j) u (by rw [show wcl L = L.flatMap Wr.cells from rfl, flat_get Wr.cells_len L i hi j hj]; exact hu)
    rw [Nat.add_assoc]; exact this
  exact ⟨b, o, rfl, World.block_lt_of_cell? w _ (hr2 0 _ rfl), hr2⟩
theorem wr_cells {w : World} {b o : Nat} {x : Wr} (h : w.rangeAt b o x.cells) :
    w.cell? ⟨b, o, none⟩ = some (.int .i64 x.rep) ∧ w.cell? ⟨b, o + 1, none⟩ = some (.int .i64 x.n) ∧ w.cell? ⟨b, o + 2, none⟩ = some (.int .i64 x.time) ∧ w.cell? ⟨b, o + 3, none⟩ = some (.string x.doc) ∧ w.cell? ⟨b, o + 4, none⟩ = some (.int .i64 x.field) ∧ w.cell? ⟨b, o + 5, none⟩ = some (.string x.text) :=
  ⟨h 0 _ rfl, h 1 _ rfl, h 2 _ rfl, h 3 _ rfl, h 4 _ rfl, h 5 _ rfl⟩
theorem infoWr : (Tryz.prog.info? 39).map (fun i => (i.zero, i.size, i.bytes)) = some (some (.agg #[.int .i64 0, .int .i64 0, .int .i64 0, .string ByteArray.empty, .int .i64 0, .string ByteArray.empty]), 6, 64) := by kernel_rfl
theorem sizeWr (x : Wr) : (Tryz.prog.info? 39).map (·.size) = some x.cells.length := by rw [Wr.cells_len]; kernel_rfl
/-- slices.Clone of writes -/
theorem cloneW_is (p : Option Addr) (c : Nat) (L : List Wr) (w : World) (h : WrsAt w p L) (ho : ∀ a, p = some a → ∃ b o, a = ⟨b, o, none⟩) (hbig : L.length ≤ 10000) :
    Calls Tryz.prog 36 #[.slice p L.length c] w fun e w' => ∃ v, e = .returned v ∧ w'.ownsRow w.heap.size 39 6 v L.length (wcl L) ∧ Below w.heap.size w w' := by
  cases p with
  | none =>
    obtain rfl := h.none rfl
    exact (AnyE.slices_Clone_nil Tryz.laysCloneW 0 c w).mono fun e w' ⟨h1, h2⟩ => ⟨_, h1, h2 ▸ ⟨rfl, .inl ⟨rfl, rfl⟩⟩, h2 ▸ Below.refl _ _⟩
  | some a =>
    obtain ⟨b, o, rfl⟩ := ho a rfl
    obtain ⟨i0, hi, hz0, hz1, hz2⟩ := info_parts infoWr
    refine (AnyE.slices_Clone Tryz.laysCloneW i0 _ 6 64 hi hz0 hz1 hz2 rfl (by decide) Tryz.sizeOf39 b o L.length c (wcl L) w (wcl_length L) (by unfold maxLen; omega) (by omega) ?_ (wcl_one L)).mono fun e w' ⟨v, h1, h2, h3, h4⟩ => ⟨v, h1, h2, h4⟩
    intro j u hu
    by_cases hn : L = []
    · subst hn; simp [wcl] at hu
    · obtain ⟨b', o', e, hr⟩ := h.row hn
      cases e
      exact hr j u hu
/-- a row of writes of a call's own lies where it lies -/
theorem own_wat {w : World} {B : Nat} {v : Value} {L : List Wr} (hr : w.ownsRow B 39 6 v L.length (wcl L)) : ∃ p c, v = .slice p L.length c ∧ L.length ≤ c ∧ WrsAt w p L ∧ (∀ a, p = some a → ∃ b o, a = ⟨b, o, Option.none⟩) := by
  rcases hr.2 with ⟨rfl, h0⟩ | ⟨g, cap, cur, rfl, hB, hg, hc, hm, hs, ht⟩
  · have : L = [] := List.eq_nil_of_length_eq_zero h0
    subst this
    exact ⟨none, 0, rfl, Nat.le_refl _, ⟨fun hn => absurd rfl hn, fun _ => rfl⟩, fun a ha => by cases ha⟩
  · refine ⟨some ⟨g, 0, none⟩, cap, rfl, hc, ⟨fun _ => ⟨g, 0, rfl, fun j u hu => ?_⟩, fun e => by cases e⟩, fun a ha => by obtain rfl := Option.some.inj ha; exact ⟨g, 0, rfl⟩⟩
    have hj : j < L.length * 6 := by rw [← wcl_length]; exact (List.getElem?_eq_some_iff.1 hu).1
    have := hr.cellAt j hj
    rw [Nat.zero_add, this]; exact hu
/-- the first ones of a row of one's own -/
theorem own_front {w : World} {B n c g k i : Nat} {e : TypeId} {xs : List Value} (h : w.ownsRow B e k (.slice (some ⟨g, 0, none⟩) n c) n xs) (hi : i ≤ n) : w.ownsRow B e k (.slice (some ⟨g, 0, none⟩) i c) i (xs.take (i * k)) := by
  have hx := h.1
  rcases h.2 with ⟨h1, _⟩ | ⟨g', cap, cur, h1, hB, hg, hc, hm, hs, ht⟩
  · cases h1
  · injection h1 with h1 _ h3
    injection h1 with h1
    injection h1 with h1 _ _
    subst h1; subst h3
    have hk : i * k ≤ n * k := Nat.mul_le_mul_right k hi
    refine ⟨by rw [List.length_take, hx]; omega, .inr ⟨g, c, cur, rfl, hB, hg, Nat.le_trans hi hc, hm, hs, ?_⟩⟩
    rw [← ht, List.take_take, Nat.min_eq_left hk]
set_option maxRecDepth 1000000

/-- a closure that tells of writes, one by one, in worlds that meet S -/
structure TellW (F : FuncId) (caps : Array Value) (goes : Wr → Bool) (B : Nat) (S : World → Prop) : Prop where
  enter : ∀ args w, (callFunc F args).run Tryz.prog w = .ok (.enter F args) w
  tell : ∀ (x : Wr) (w : World), S w → Calls Tryz.prog F (#[.agg x.cells.toArray] ++ caps) w (RetBool w (goes x))
  keep : ∀ w w', S w → Below B w w' → S w'
/-- the first that goes -/
def IdxW (w : World) (goes : Wr → Bool) (L : List Wr) (e : Ending) (w' : World) : Prop :=
  ∃ i : Int, e = .returned (.int .i64 i) ∧ ((i = -1 ∧ ∀ x ∈ L, goes x = false) ∨ (∃ k : Nat, i = k ∧ k < L.length ∧ (∀ y, L[k]? = some y → goes y = true) ∧ ∀ x ∈ L.take k, goes x = false)) ∧ Below w.heap.size w w'
set_option maxHeartbeats 8000000 in
theorem idxW_is (F : FuncId) (caps : Array Value) (goes : Wr → Bool) (B : Nat) (S : World → Prop) (TW : TellW F caps goes B S) (p : Option Addr) (c : Nat) (L : List Wr) (w : World) (hS : S w) (hB : B ≤ w.heap.size) (h : WrsAt w p L) (hn : L.length ≤ 10000) :
    Calls Tryz.prog 74 #[.slice p L.length c, .func (.func F) #[] caps] w (IdxW w goes L) := by
  have EV := Lib.hid h; have HS := Lib.hid hS; have HT := Lib.hid TW; have HB := Lib.hid hB
  clear h hS TW hB
  go_enter Tryz.func74, Tryz.ntmps74
  go_wp2
  go_loopw [8] (fun i wr => ∃ j : Nat, j ≤ L.length ∧ i = .int .i64 j ∧ (∀ x ∈ L.take j, goes x = false) ∧ Below w.heap.size w wr) (fun i _ => L.length - (intOf i).toNat)
  case atStart => exact ⟨0, Nat.zero_le _, rfl, fun x hx => by simp at hx, Below.refl _ _⟩
  case round =>
    obtain ⟨j, hj, rfl, hno, hb⟩ := hrel
    have BB := Lib.hid hb; have NO := Lib.hid hno
    clear hno
    by_cases hjl : j < L.length
    · have hjl' : (j : Int) < L.length := by omega
      obtain ⟨b, o, rfl, hlt, hr⟩ := (EV.out.below hb).at hjl
      obtain ⟨c0, c1, c2, c3, c4, c5⟩ := wr_cells hr
      have hget : Hid (L[j]? = some L[j]) := Lib.hid (List.getElem?_eq_getElem hjl)
      have TS : Hid (L.take (j + 1) = L.take j ++ [L[j]]) := Lib.hid (by rw [List.take_add_one, List.getElem?_eq_getElem hjl]; rfl)
      have TL := Lib.hid (HT.out.tell L[j] wr (HT.out.keep _ _ HS.out (hb.mono HB.out)))
      clear hb hr hlt
      obtain ⟨y, hy⟩ : ∃ y, L[j] = y := ⟨_, rfl⟩
      rw [hy] at c0 c1 c2 c3 c4 c5 hget TS TL
      clear hy
      obtain ⟨gy, hgy⟩ : ∃ gy, goes y = gy := ⟨_, rfl⟩
      rw [hgy] at TL
      have HGY := Lib.hid hgy
      clear hgy
      obtain ⟨r, n, t, d, fl, tx⟩ := y
      simp only [Wr.cells] at c0 c1 c2 c3 c4 c5 TL
      have he := HT.out.enter
      go_wp2_with fail
      refine TL.out.mono ?_
      rintro e w2 ⟨rfl, hb2⟩
      have B2 := Lib.hid (thenBelow BB.out hb2)
      clear hb2 TL c0 c1 c2 c3 c4 c5 he
      cases gy with
      | true =>
        go_wp2
        go_ret
        exact ⟨_, rfl, .inr ⟨j, rfl, hjl, fun y hy => by rw [hget.out] at hy; obtain rfl := Option.some.inj hy; exact HGY.out, NO.out⟩, B2.out⟩
      | false =>
        go_wp2
        go_roundw
        case rel =>
          refine ⟨j + 1, by omega, by go_num, fun x hx => ?_, B2.out⟩
          rw [TS.out] at hx
          rcases List.mem_append.1 hx with h | h
          · exact NO.out x h
          · rw [List.mem_singleton.1 h]; exact HGY.out
        case measure => simp [intOf]; omega
    · obtain rfl : j = L.length := by omega
      have hjl' : ¬ ((L.length : Nat) : Int) < L.length := by omega
      rw [List.take_length] at NO
      go_wp2
      go_ret
      exact ⟨_, rfl, .inl ⟨rfl, NO.out⟩, BB.out⟩
set_option maxRecDepth 1000000

/-! Some cells of a row written at once -/
def setLL (xs : List Value) : Nat → List Value → List Value
  | _, [] => xs
  | o, v :: r => setLL (xs.set o v) (o + 1) r
theorem setLL_length : ∀ (vs : List Value) (xs : List Value) (o : Nat), (setLL xs o vs).length = xs.length
  | [], _, _ => rfl
  | v :: r, xs, o => by rw [setLL, setLL_length r]; simp
theorem setLL_get : ∀ (vs : List Value) (xs : List Value) (o : Nat) (hle : o + vs.length ≤ xs.length) (i : Nat), (setLL xs o vs)[i]? = if o ≤ i ∧ i < o + vs.length then vs[i - o]? else xs[i]?
  | [], xs, o, _, i => by
    have : ¬ (o ≤ i ∧ i < o + ([] : List Value).length) := by simp
    rw [if_neg this]; rfl
  | v :: r, xs, o, hle, i => by
    rw [List.length_cons] at hle ⊢
    rw [setLL, setLL_get r _ _ (by simp; omega)]
    by_cases h1 : o + 1 ≤ i ∧ i < o + 1 + r.length
    · rw [if_pos h1, if_pos (by omega), show i - o = (i - (o + 1)) + 1 from by omega, List.getElem?_cons_succ]
    · rw [if_neg h1]
      by_cases h2 : o = i
      · subst h2
        rw [if_pos (by omega), List.getElem?_set_self (by omega), Nat.sub_self]; rfl
      · rw [if_neg (by omega), List.getElem?_set_ne h2]
theorem own_setCells {B : Nat} {e : TypeId} {k n : Nat} {g c : Nat} : ∀ (vs : List Value) (w : World) (xs : List Value) (o : Nat), w.ownsRow B e k (.slice (some ⟨g, 0, none⟩) n c) n xs →
    (w.setCells g o vs).ownsRow B e k (.slice (some ⟨g, 0, none⟩) n c) n (setLL xs o vs)
  | [], _, _, _, h => h
  | v :: r, w, xs, o, h => by
    rw [World.setCells, setLL]
    exact own_setCells r _ _ _ (h.stored o v).1
theorem wcl_setLL (M : List Wr) (a : Nat) (ha : a < M.length) (y : Wr) : setLL (wcl M) (a * 6) y.cells = wcl (M.set a y) := by
  apply List.ext_getElem?
  intro i
  have hl := wcl_length M
  rw [setLL_get _ _ _ (by rw [Wr.cells_len, hl]; omega)]
  by_cases hi : i < M.length * 6
  · have h2 := flat_get Wr.cells_len (M.set a y) (i / 6) (by simp; omega) (i % 6) (by omega)
    have h1 := flat_get Wr.cells_len M (i / 6) (by omega) (i % 6) (by omega)
    rw [show i / 6 * 6 + i % 6 = i by omega] at h1 h2
    change (wcl M)[i]? = _ at h1
    change (wcl (M.set a y))[i]? = _ at h2
    rw [h1, h2, Wr.cells_len]
    by_cases he : a = i / 6
    · subst he
      rw [if_pos (by omega)]
      simp only [List.getElem_set_self]
      rw [show i - i / 6 * 6 = i % 6 by omega]
    · rw [if_neg (by omega), List.getElem_set_ne he]
  · rw [if_neg (by rw [Wr.cells_len]; omega), List.getElem?_eq_none (by omega), List.getElem?_eq_none (by rw [wcl_length]; simp; omega)]
theorem zeroWr : ∀ w : World, (zeroValue 39).run Tryz.prog w = .ok (.agg #[.int .i64 0, .int .i64 0, .int .i64 0, .string ByteArray.empty, .int .i64 0, .string ByteArray.empty]) w := fun w => by kernel_rfl
theorem clear_anyW (w : World) (ty : TypeId) (b o n c : Nat) (hn : 0 < n) (z : Value) (hz : ∀ w : World, (zeroValue 39).run Tryz.prog w = .ok z w) (hl : (Builtin.zeroCells z.cells n).toList.length = n * 6) (h1 : ∀ u ∈ (Builtin.zeroCells z.cells n).toList, u.oneCell' = true)
    (hc : ∀ j, j < n * 6 → (w.cell? ⟨b, o + j, none⟩).isSome = true) (hf : ∀ j, j < n * 6 → w.frozen? ⟨b, o + j, none⟩ = false) :
    (Builtin.clear_ #[24] ty #[.slice (some ⟨b, o, none⟩) n c]).run Tryz.prog w = .ok (.tuple #[]) (w.setCells b o (Builtin.zeroCells z.cells n).toList) := by
  have hst := run_storeCells_cells (P := Tryz.prog) b o _ 0 w (by rw [hl]; simpa using hc) (by rw [hl]; simpa using hf) h1
  simp only [Nat.add_zero] at hst
  obtain ⟨m, rfl⟩ : ∃ m, n = m + 1 := ⟨n - 1, by omega⟩
  have hu : Tryz.prog.underlying 24 = some (.slice 39) := Tryz.underlying24
  simp [Builtin.clear_, run_underlying hu, hz, hst]
theorem clearW (w : World) (ty : TypeId) (b o n c : Nat) (hn : 0 < n) (hc : ∀ j, j < n * 6 → (w.cell? ⟨b, o + j, none⟩).isSome = true) (hf : ∀ j, j < n * 6 → w.frozen? ⟨b, o + j, none⟩ = false) :
    ∃ vs : List Value, vs.length = n * 6 ∧ (Builtin.clear_ #[24] ty #[.slice (some ⟨b, o, none⟩) n c]).run Tryz.prog w = .ok (.tuple #[]) (w.setCells b o vs) := by
  refine ⟨(Builtin.zeroCells (Value.cells (.agg #[.int .i64 0, .int .i64 0, .int .i64 0, .string ByteArray.empty, .int .i64 0, .string ByteArray.empty])) n).toList, by simp [Builtin.zeroCells, Value.cells], ?_⟩
  have hl : (Builtin.zeroCells (Value.cells (.agg #[.int .i64 0, .int .i64 0, .int .i64 0, .string ByteArray.empty, .int .i64 0, .string ByteArray.empty])) n).toList.length = n * 6 := by simp [Builtin.zeroCells, Value.cells]
  have h1 : ∀ u ∈ (Builtin.zeroCells (Value.cells (.agg #[.int .i64 0, .int .i64 0, .int .i64 0, .string ByteArray.empty, .int .i64 0, .string ByteArray.empty])) n).toList, u.oneCell' = true := by
    intro u hu
    simp only [Builtin.zeroCells, Array.toList_map, List.mem_map] at hu
    obtain ⟨i, _, rfl⟩ := hu
    have hi : i % 6 < 6 := Nat.mod_lt _ (by decide)
    change Value.oneCell' ((Value.cells (.agg #[.int .i64 0, .int .i64 0, .int .i64 0, .string ByteArray.empty, .int .i64 0, .string ByteArray.empty]))[i % 6]!) = true
    generalize i % 6 = j at hi
    match j, hi with
    | 0, _ => rfl
    | 1, _ => rfl
    | 2, _ => rfl
    | 3, _ => rfl
    | 4, _ => rfl
    | 5, _ => rfl
  exact clear_anyW w ty b o n c hn _ zeroWr hl h1 hc hf
section
variable {ops : Array Oper} {rest : List Oper} {o : Oper} {a : Act} {Q : Exit → Act → World → Prop}
/-- a write written over another of a row -/
theorem wpList_wset {w : World} (hg : o.guard = none) (x y : Operand) (ho : o.op = .store 39 x y) (g j : Nat) (hx : a.eval x = .pointer (some ⟨g, j * 6, none⟩)) (X : Wr) (hy : a.eval y = .agg X.cells.toArray)
    (B n c : Nat) (M : List Wr) (hO : w.ownsRow B 39 6 (.slice (some ⟨g, 0, none⟩) n c) n (wcl M)) (hM : M.length = n) (hj : j < n)
    (h : ∀ w', w'.ownsRow B 39 6 (.slice (some ⟨g, 0, none⟩) n c) n (wcl (M.set j X)) → w.grownBy w' (some g) → wpList Tryz.prog ops Q rest (a.put o.dst undef) w') : wpList Tryz.prog ops Q (o :: rest) a w := by
  have ht : w.there g (j * 6) 6 := fun i hi => by
    have hj2 : j * 6 + i < n * 6 := by omega
    refine ⟨?_, hO.frozenAt (j * 6 + i)⟩
    rw [hO.cellAt (j * 6 + i) hj2, List.getElem?_eq_getElem (by rw [wcl_length, hM]; exact hj2)]
    rfl
  have h1 := own_setCells X.cells w _ (j * 6) hO
  rw [wcl_setLL M j (by omega)] at h1
  exact wpList_store_mid hg 39 x y ho g (j * 6) X.cells.toArray hx hy ht (by rw [List.size_toArray]; exact sizeWr X) (Array.all_eq_true_iff_forall_mem.2 (fun u hu => X.cells_one u (by simpa using hu))) (h _ h1 (grown_setCells g _ _ _))
end
/-- what is left -/
def DelW (B : Nat) (goes : Wr → Bool) (K : List Wr) (w : World) (e : Ending) (w' : World) : Prop :=
  ∃ v K', e = .returned v ∧ w'.ownsRow B 39 6 v K'.length (wcl K') ∧ K' = K.filter (fun x => !goes x) ∧ Below B w w'
set_option maxHeartbeats 20000000 in
theorem delW_is (F : FuncId) (caps : Array Value) (goes : Wr → Bool) (B : Nat) (S : World → Prop) (TW : TellW F caps goes B S) (q : Option Addr) (cq : Nat) (K : List Wr) (w : World) (hS : S w) (hO : w.ownsRow B 39 6 (.slice q K.length cq) K.length (wcl K)) (hn : K.length ≤ 10000) (hB : B ≤ w.heap.size) :
    Calls Tryz.prog 55 #[.slice q K.length cq, .func (.func F) #[] caps] w (DelW B goes K w) := by
  obtain ⟨q0, c0', e1, hcap, hat, hoff⟩ := own_wat hO
  injection e1 with e1 _ e2
  subst e1; subst e2
  have IX := Lib.hid (idxW_is F caps goes B S TW q cq K w hS hB hat hn)
  have HS := Lib.hid hS; have OO := Lib.hid hO; have HT := Lib.hid TW
  clear hS hO hat hoff TW
  go_enter Tryz.func55, Tryz.ntmps55
  go_wp2_with fail
  refine IX.out.mono ?_
  rintro e w1 ⟨i, rfl, hcase, hb1⟩
  have B1 := Lib.hid (hb1.mono hB)
  have O1 := Lib.hid (own_later OO.out hb1)
  clear IX hb1
  rcases hcase with ⟨rfl, hall⟩ | ⟨k, rfl, hk, hgo, hno⟩
  · have HAL : Hid (K = K.filter (fun x => !goes x)) := Lib.hid (List.filter_eq_self.2 fun x hx => by rw [hall x hx]; rfl).symm
    clear hall
    go_wp2
    go_ret
    exact ⟨_, K, rfl, O1.out, HAL.out, B1.out⟩
  · obtain ⟨g, rfl⟩ : ∃ g, q = some ⟨g, 0, none⟩ := by
      rcases OO.out.2 with ⟨h1, h0⟩ | ⟨g, cap, cur, e1, _⟩
      · omega
      · injection e1 with e1 _ _
        exact ⟨g, e1⟩
    have hgB : B ≤ g := (O1.out.lt g rfl).1
    have HNO := Lib.hid hno
    have hF0 : Hid (K.take k = (K.take (k + 1)).filter (fun x => !goes x)) := Lib.hid (by
      rw [List.take_succ_eq_append_getElem hk, List.filter_append]
      have h1 : (K.take k).filter (fun x => !goes x) = K.take k := List.filter_eq_self.2 fun x hx => by
        rw [hno x hx]; rfl
      have h2 : goes K[k] = true := hgo _ (List.getElem?_eq_getElem hk)
      rw [h1, List.filter_cons_of_neg (by simp [h2]), List.filter_nil, List.append_nil])
    clear hgo hno
    have hkm : ((k : Int) == -1) = false := by rw [beq_eq_false_iff_ne]; omega
    go_wp2_with fail
    clear hkm
    go_loopw [5, 6] (fun i5 i6 wr => ∃ (a b : Nat) (M : List Wr), a < b ∧ b ≤ K.length ∧ i5 = .int .i64 a ∧ i6 = .int .i64 b ∧ Hid (M.length = K.length) ∧ wr.ownsRow B 39 6 (.slice (some ⟨g, 0, none⟩) K.length cq) K.length (wcl M) ∧
        M.take a = (K.take b).filter (fun x => !goes x) ∧ (∀ m, b ≤ m → M[m]? = K[m]?) ∧ Below B w wr) (fun _ i6 _ => K.length - (intOf i6).toNat)
    case atStart => exact ⟨k, k + 1, K, by omega, by omega, rfl, by go_num, Lib.hid rfl, O1.out, hF0.out, fun m _ => rfl, B1.out⟩
    case round =>
      obtain ⟨a, b, M, hab, hbl, rfl, rfl, HML, hown, hfil, hsame, hbel⟩ := hrel
      have OW := Lib.hid hown; have FI := Lib.hid hfil; have SM := Lib.hid hsame; have BW := Lib.hid hbel
      clear hown hfil hsame hbel
      have hgw : g < wr.heap.size := (OW.out.lt g rfl).2
      by_cases hb : b < K.length
      · have hb' : (b : Int) < K.length := by omega
        have hbM : b < M.length := by rw [HML.out]; exact hb
        have hr : wr.rangeAt g (b * 6) M[b].cells := fun j u hu => by
          have hj : j < 6 := (List.getElem?_eq_some_iff.1 hu).1
          rw [OW.out.cellAt (b * 6 + j) (by omega), show wcl M = M.flatMap Wr.cells from rfl, flat_get Wr.cells_len M b hbM j hj]
          exact hu
        obtain ⟨c0, c1, c2, c3, c4, c5⟩ := wr_cells hr
        have hMK : M[b] = K[b] := by
          have := SM.out b (Nat.le_refl _)
          rw [List.getElem?_eq_getElem hbM, List.getElem?_eq_getElem hb] at this
          exact Option.some.inj this
        have TS := Lib.hid (List.take_succ_eq_append_getElem hb)
        rw [hMK] at c0 c1 c2 c3 c4 c5
        have D6 := Lib.hid (heap_alloc_new wr (.cells K[b].cells.toArray 39))
        have b6 : Below wr.heap.size wr (wr.alloc (.cells K[b].cells.toArray 39)) := below_alloc _ _
        have B6 := Lib.hid b6
        have TL := Lib.hid (HT.out.tell K[b] _ (HT.out.keep _ _ HS.out (BW.out.trans (b6.mono (Nat.le_trans hB BW.out.size)))))
        clear hr hMK b6
        obtain ⟨y, hy⟩ : ∃ y, K[b] = y := ⟨_, rfl⟩
        rw [hy] at c0 c1 c2 c3 c4 c5 TS D6 TL B6
        clear hy
        obtain ⟨gy, hgy⟩ : ∃ gy, goes y = gy := ⟨_, rfl⟩
        rw [hgy] at TL
        have HGY := Lib.hid hgy
        clear hgy
        have YC := Lib.hid (rfl : y = y)
        obtain ⟨r, n, t, d, fl, tx⟩ := y
        simp only [Wr.cells] at c0 c1 c2 c3 c4 c5 D6 TL B6
        have he := HT.out.enter
        go_wp2_with fail
        generalize wr.alloc (.cells #[.int .i64 r, .int .i64 n, .int .i64 t, .string d, .int .i64 fl, .string tx] 39) = w6 at D6 TL B6 ⊢
        refine TL.out.mono ?_
        rintro e w7 ⟨rfl, hb7⟩
        have B7 := Lib.hid (thenBelow B6.out hb7)
        have D7 := Lib.hid ((hb7.block _ (Array.getElem?_eq_some_iff.1 D6.out).1).trans D6.out)
        have O7 := Lib.hid (own_later OW.out B7.out)
        have BW7 := Lib.hid (BW.out.trans (B7.out.mono (Nat.le_trans hB BW.out.size)))
        clear hb7 TL D6 B6 c0 c1 c2 c3 c4 c5 he YC
        cases gy with
        | true =>
          have FN : Hid (M.take a = (K.take (b + 1)).filter (fun x => !goes x)) := Lib.hid (by
            rw [TS.out, List.filter_append, ← FI.out, List.filter_cons_of_neg (by simp [HGY.out]), List.filter_nil, List.append_nil])
          go_wp2
          go_roundw
          case rel => exact ⟨a, b + 1, M, by omega, by omega, rfl, by go_num, HML, O7.out, FN.out, fun m hm => SM.out m (by omega), BW7.out⟩
          case measure => simp [intOf]; omega
        | false =>
          have hgof : (!goes ⟨r, n, t, d, fl, tx⟩) = true := by rw [HGY.out]; rfl
          have haM : a < M.length := by rw [HML.out]; omega
          have FN : Hid ((M.set a ⟨r, n, t, d, fl, tx⟩).take (a + 1) = (K.take (b + 1)).filter (fun x => !goes x)) := Lib.hid (by
            rw [TS.out, List.filter_append, ← FI.out, List.filter_cons_of_pos (p := fun e : Wr => !goes e) hgof, List.filter_nil, List.take_succ_eq_append_getElem (by simpa using haM)]
            simp only [List.getElem_set_self]
            rw [List.take_set_of_le (Nat.le_refl _)])
          have k0 := (cell_of_row w7 wr.heap.size 0 _ _ _ D7.out).trans (show _ = some (Value.int .i64 r) from rfl)
          have k1 := (cell_of_row w7 wr.heap.size 1 _ _ _ D7.out).trans (show _ = some (Value.int .i64 n) from rfl)
          have k2 := (cell_of_row w7 wr.heap.size 2 _ _ _ D7.out).trans (show _ = some (Value.int .i64 t) from rfl)
          have k3 := (cell_of_row w7 wr.heap.size 3 _ _ _ D7.out).trans (show _ = some (Value.string d) from rfl)
          have k4 := (cell_of_row w7 wr.heap.size 4 _ _ _ D7.out).trans (show _ = some (Value.int .i64 fl) from rfl)
          have k5 := (cell_of_row w7 wr.heap.size 5 _ _ _ D7.out).trans (show _ = some (Value.string tx) from rfl)
          have hal' : (a : Int) < K.length := by omega
          have HM2 : Hid ((M.set a ⟨r, n, t, d, fl, tx⟩).length = K.length) := Lib.hid (by simpa using HML.out)
          clear hgof D7
          go_wp2_with (refine wpList_wset rfl _ _ rfl g a rfl ⟨r, n, t, d, fl, tx⟩ rfl B K.length cq M O7.out HML.out (by omega) ?_)
          intro w8 o8 g8
          have OS := Lib.hid o8
          have BW8 := Lib.hid (BW7.out.trans (grown_below g8 (Nat.le_trans hB BW7.out.size) hgB))
          clear o8 g8 O7 BW7 k0 k1 k2 k3 k4 k5
          go_wp2
          go_roundw
          case rel =>
            refine ⟨a + 1, b + 1, M.set a ⟨r, n, t, d, fl, tx⟩, by omega, by omega, by go_num, by go_num, HM2, OS.out, FN.out, fun m hm => ?_, BW8.out⟩
            rw [List.getElem?_set_ne (by omega)]; exact SM.out m (by omega)
          case measure => simp [intOf]; omega
      · obtain rfl : b = K.length := by omega
        have hb' : ¬ ((K.length : Nat) : Int) < K.length := by omega
        have ham : a < K.length := hab
        obtain ⟨vs, hvl, hcl⟩ := clearW wr 0 g (a * 6) (K.length - a) (cq - a) (by omega) (fun j hj => by
          have hj2 : a * 6 + j < K.length * 6 := by omega
          rw [OW.out.cellAt (a * 6 + j) hj2, List.getElem?_eq_getElem (by rw [wcl_length, HML.out]; exact hj2)]; rfl) (fun j hj => OW.out.frozenAt (a * 6 + j))
        have O9 := Lib.hid (own_setCells vs wr _ (a * 6) OW.out)
        have BW9 := Lib.hid (BW.out.trans (grown_below (grown_setCells g vs wr (a * 6)) (Nat.le_trans hB BW.out.size) hgB))
        have FR : Hid ((setLL (wcl M) (a * 6) vs).take (a * 6) = wcl (M.take a)) := Lib.hid (by
          rw [wcl_take]
          apply List.ext_getElem?
          intro i
          by_cases hi : i < a * 6
          · rw [List.getElem?_take_of_lt hi, List.getElem?_take_of_lt hi, setLL_get _ _ _ (by rw [hvl, wcl_length, HML.out]; omega), if_neg (by omega)]
          · rw [List.getElem?_eq_none (by rw [List.length_take]; omega), List.getElem?_eq_none (by rw [List.length_take]; omega)])
        have HMT : Hid ((M.take a).length = a) := Lib.hid (by rw [List.length_take, HML.out]; omega)
        have OF := Lib.hid (own_front O9.out (Nat.le_of_lt ham))
        rw [FR.out] at OF
        have HK : Hid (M.take a = K.filter (fun x => !goes x)) := Lib.hid (by rw [FI.out, List.take_length])
        clear OW O9 FR FI
        generalize wr.setCells g (a * 6) vs = w9 at hcl BW9 OF
        have hal : (a : Int) ≤ K.length := by omega
        have hacq : (a : Int) ≤ cq := by omega
        clear HML SM HS
        go_wp2
        go_ret
        refine ⟨.slice (some ⟨g, 0, none⟩) a cq, M.take a, rfl, ?_, HK.out, BW9.out⟩
        rw [HMT.out]; exact OF.out
end Go.Proofs.YtijmijokgenflaaGreatDoor
/- docs: without; which dots an event takes away. -/
namespace Go.Proofs.YtijmijokgenflaaGreatDoor
open Go Go.RowKit
set_option linter.unusedVariables false
set_option maxRecDepth 1000000

/-- what is left, in new memory -/
def LeftW (w : World) (K' : List Wr) (e : Ending) (w' : World) : Prop := ∃ v, e = .returned v ∧ w'.ownsRow w.heap.size 39 6 v K'.length (wcl K') ∧ Below w.heap.size w w'
set_option maxHeartbeats 4000000 in
theorem withoutW_is (F : FuncId) (caps : Array Value) (goes : Wr → Bool) (S : World → Prop) (p : Option Addr) (c : Nat) (L : List Wr) (w : World) (TW : TellW F caps goes w.heap.size S) (hS : S w) (h : WrsAt w p L) (ho : ∀ a, p = some a → ∃ b o, a = ⟨b, o, none⟩) (hn : L.length ≤ 10000) :
    Calls Tryz.prog 27 #[.slice p L.length c, .func (.func F) #[] caps] w (LeftW w (L.filter (fun x => !goes x))) := by
  have CL := Lib.hid (cloneW_is p c L w h ho hn)
  have HT := Lib.hid TW; have HS := Lib.hid hS
  clear TW hS h ho
  go_enter Tryz.func27, Tryz.ntmps27
  go_wp2_with fail
  refine CL.out.mono ?_
  rintro e w1 ⟨v, rfl, ho, hb⟩
  obtain ⟨p1, c1, rfl, _, _, _⟩ := own_wat ho
  have DL := Lib.hid (delW_is F caps goes w.heap.size S HT.out p1 c1 L w1 (HT.out.keep _ _ HS.out hb) ho hn hb.size)
  have B1 := Lib.hid hb
  clear ho hb CL
  go_wp2_with fail
  refine DL.out.mono ?_
  rintro e w2 ⟨v2, K', rfl, ho2, hK, hb2⟩
  subst hK
  have O2 := Lib.hid ho2; have B2 := Lib.hid (B1.out.trans hb2)
  clear ho2 hb2 DL
  go_wp2
  go_ret
  exact ⟨_, rfl, O2.out, B2.out⟩
set_option maxHeartbeats 4000000 in
theorem indexD_is (p : Option Addr) (c : Nat) (l : List Dt) (y1 y2 : Int) (w : World) (h : DRow w p l) (hn : l.length ≤ 1000000) :
    Calls Tryz.prog 71 #[.slice p l.length c, .agg (dcs y1 y2)] w fun e w' => ∃ i : Int, e = .returned (.int .i64 i) ∧ ((y1, y2) ∈ l ↔ 0 ≤ i) ∧ Below w.heap.size w w' := by
  have H := Lib.hid h; clear h
  go_enter Tryz.func71, Tryz.ntmps71
  go_wp2_with (refine wpList_gbox rfl _ rfl (dcs y1 y2) rfl ?_)
  intro g3 w1 l3 h3 hb1
  have B1 := Lib.hid hb1
  have Y1 := Lib.hid (range_of_block h3)
  clear hb1 h3
  go_wp2
  go_loopw [8] (fun i wr => ∃ k : Nat, k ≤ l.length ∧ i = .int .i64 k ∧ (∀ i (h : i < l.length), i < k → l[i] ≠ (y1, y2)) ∧ Below w1.heap.size w1 wr) (fun i _ => l.length - (intOf i).toNat)
  case atStart => exact ⟨0, Nat.zero_le _, rfl, fun i _ h => by omega, Below.refl _ _⟩
  case round =>
    obtain ⟨k, hk, rfl, hall, hb⟩ := hrel
    have BB := Lib.hid hb; have HA := Lib.hid hall
    clear hall hb
    by_cases hkl : k < l.length
    · have hkl' : (k : Int) < l.length := by omega
      have hr := thenBelow B1.out BB.out
      obtain ⟨b1, o1, rfl, q1⟩ := drow_at (H.out.below (to_drew hr)) hkl
      have y1' := range_below Y1.out (to_drew BB.out)
      have m0 := And.intro q1 y1'
      have HR := Lib.hid (to_drew hr)
      have BD := Lib.hid (to_drew BB.out)
      clear hr q1 y1'
      obtain ⟨⟨x1, x2⟩, hx⟩ : ∃ x, l[k] = x := ⟨_, rfl⟩
      have HX := Lib.hid hx
      rw [hx] at m0
      have M0 := Lib.hid m0
      clear hx m0
      obtain ⟨q, hq⟩ : ∃ q, eqDt (y1, y2) (x1, x2) = q := ⟨_, rfl⟩
      have EQ := Lib.hid hq
      clear hq
      have SZ : ∀ z1 z2 : Int, (Tryz.prog.info? 37).map (·.size) = some [Value.int .i64 z1, .int .i64 z2].length := fun z1 z2 => by kernel_rfl
      go_wp2_with fail
      rename_i K2 hK2
      have KE : K2 { tmps := #[.slice (some ⟨b1, o1, none⟩) l.length c, .agg (dcs y1 y2), undef, .pointer (some ⟨g3, 0, none⟩), u4, .int .i64 (k : Int), .slice (some ⟨b1, o1, none⟩) l.length c, .int .i64 (l.length : Int), .int .i64 (k : Int), .bool true, .int .i64 (k : Int), .agg #[.int .i64 y1, .int .i64 y2], .slice (some ⟨b1, o1, none⟩) l.length c, .int .i64 (k : Int), .pointer (some ⟨b1, o1 + k * 2, none⟩), .agg #[.int .i64 x1, .int .i64 x2], .bool q, u17, u18], defers := [] } wr.drew := by
        refine hK2 _ _ ?_
        clear hK2 M0
        cases q with
        | true =>
          have YES : Hid ((y1, y2) ∈ l ↔ (0 : Int) ≤ k) := Lib.hid ⟨fun _ => by omega, fun _ => by
            rw [(eqDt_iff _ _).1 EQ.out, ← HX.out]; exact List.getElem_mem hkl⟩
          go_wp2
          go_ret
          exact ⟨(k : Int), rfl, YES.out, HR.out⟩
        | false =>
          have NA : Hid (∀ i (h : i < l.length), i < k + 1 → l[i] ≠ (y1, y2)) := Lib.hid fun i h hi => by
            rcases Nat.lt_or_ge i k with h3 | h3
            · exact HA.out i h h3
            · obtain rfl : i = k := by omega
              intro e
              rw [HX.out] at e
              have h4 := EQ.out
              rw [(eqDt_iff _ _).2 e.symm] at h4
              cases h4
          go_wp2
          go_roundw
          case rel => exact ⟨k + 1, by omega, by go_num, NA.out, BD.out⟩
          case measure => simp [intOf]; omega
      refine rg_calm (by kernel_rfl) rfl (S := fun U => U.rangeAt b1 (o1 + k * 2) [.int .i64 x1, .int .i64 x2] ∧ U.rangeAt g3 0 [.int .i64 y1, .int .i64 y2]) ?_
      refine rgd_pureS 0 (some 11) rfl rfl (.agg #[.int .i64 y1, .int .i64 y2]) (by kernel_rfl) (by kernel_rfl) (by kernel_rfl) (fun _ _ _ _ h => h) (by kernel_rfl) (fun U hU => exec_gload 37 _ rfl g3 (0) (by kernel_rfl) _ hU.2 Tryz.underlying37 rfl (SZ y1 y2)) M0.out ?_
      refine rgd_pure 1 (some 12) rfl rfl (.slice (some ⟨b1, o1, none⟩) l.length c) (by kernel_rfl) (by kernel_rfl) (by kernel_rfl) (fun _ _ _ _ h => h) (by kernel_rfl) (fun w => by kernel_rfl) M0.out ?_
      refine rgd_pure 2 (some 13) rfl rfl (.int .i64 (k : Int)) (by kernel_rfl) (by kernel_rfl) (by kernel_rfl) (fun _ _ _ _ h => h) (by kernel_rfl) (fun w => by kernel_rfl) M0.out ?_
      refine rgd_pure 3 (some 14) rfl rfl (.pointer (some ⟨b1, o1 + k * 2, none⟩)) (by kernel_rfl) (by kernel_rfl) (by kernel_rfl) (fun _ _ _ _ h => h) (by kernel_rfl) (exec_idxD _ _ rfl b1 o1 l.length c k (by kernel_rfl) (by kernel_rfl) hkl) M0.out ?_
      refine rgd_pureS 4 (some 15) rfl rfl (.agg #[.int .i64 x1, .int .i64 x2]) (by kernel_rfl) (by kernel_rfl) (by kernel_rfl) (fun _ _ _ _ h => h) (by kernel_rfl) (fun U hU => exec_gload 37 _ rfl b1 (o1 + k * 2) (by kernel_rfl) _ hU.1 Tryz.underlying37 rfl (SZ x1 x2)) M0.out ?_
      refine rgd_pure 5 (some 16) rfl rfl (.bool q) (by kernel_rfl) (by kernel_rfl) (by kernel_rfl) (fun _ _ _ _ h => h) (by kernel_rfl) (exec_eqlE _ _ _ rfl (y1, y2) (x1, x2) q EQ.out (by kernel_rfl) (by kernel_rfl)) M0.out ?_
      exact wpAnyH_done (by kernel_rfl) (Eq.mp (by kernel_rfl) KE) _
    · obtain rfl : k = l.length := by omega
      have hkl' : ¬ ((l.length : Nat) : Int) < l.length := by omega
      have NO : Hid ((y1, y2) ∈ l ↔ (0 : Int) ≤ -1) := Lib.hid ⟨fun h => by
        obtain ⟨i, hi, e⟩ := List.getElem_of_mem h
        exact absurd e (HA.out i hi hi), fun h => by omega⟩
      go_wp2
      go_ret
      exact ⟨-1, rfl, NO.out, thenBelow B1.out BB.out⟩
theorem contains_is (p : Option Addr) (c : Nat) (l : List Dt) (y1 y2 : Int) (w : World) (h : DRow w p l) (hn : l.length ≤ 1000000) :
    Calls Tryz.prog 51 #[.slice p l.length c, .agg #[.int .i64 y1, .int .i64 y2]] w (RetBool w (decide ((y1, y2) ∈ l))) := by
  have H := Lib.hid h; clear h
  obtain ⟨b, hb⟩ : ∃ b, decide ((y1, y2) ∈ l) = b := ⟨_, rfl⟩
  rw [hb]
  have HB := Lib.hid hb
  clear hb
  go_enter Tryz.func51, Tryz.ntmps51
  have b1 := below_alloc w (.cells #[.int .i64 y1, .int .i64 y2] 37)
  have IX := Lib.hid (indexD_is p c l y1 y2 _ (H.out.below b1) hn)
  have B1 := Lib.hid b1
  clear b1
  go_wp2_with fail
  refine IX.out.mono ?_
  rintro e w2 ⟨i, rfl, hi, hb2⟩
  have B2 := Lib.hid (thenBelow B1.out hb2)
  clear hb2 IX
  by_cases h0 : 0 ≤ i
  · have ht : b = true := by rw [← HB.out]; exact decide_eq_true (hi.2 h0)
    subst ht
    clear hi
    go_wp2
    go_ret
    exact ⟨rfl, B2.out⟩
  · have hf : b = false := by rw [← HB.out]; exact decide_eq_false (fun h => h0 (hi.1 h))
    subst hf
    clear hi
    go_wp2
    go_ret
    exact ⟨ret_bool (decide_eq_false (by omega)), B2.out⟩
/-- an event in a variable of its own, its dots there, below B -/
def EvIn (G : Nat) (x : EvP) (w : World) : Prop := w.rangeAt G 0 x.cells ∧ x.Ok w
def goneW (x : EvP) (y : Wr) : Bool := decide (y.dot ∈ x.e.gone)
set_option maxHeartbeats 4000000 in
theorem apply_tell (G : Nat) (x : EvP) (y : Wr) (w : World) (h : EvIn G x w) (hn : x.e.gone.length ≤ 1000) : Calls Tryz.prog 50 #[.agg y.cells.toArray, .pointer (some ⟨G, 0, none⟩)] w (RetBool w (goneW x y)) := by
  obtain ⟨r, n, t, d, fl, tx⟩ := y
  show Calls Tryz.prog 50 #[.agg #[.int .i64 r, .int .i64 n, .int .i64 t, .string d, .int .i64 fl, .string tx], .pointer (some ⟨G, 0, none⟩)] w _
  have hb : Below w.heap.size w (w.alloc (.cells #[.int .i64 r, .int .i64 n, .int .i64 t, .string d, .int .i64 fl, .string tx] 39)) := below_alloc _ _
  have c7 := (ev_cells (range_below h.1 hb)).2.2.2.2.2.2.2
  have HB := Lib.hid hb
  have CT := Lib.hid (contains_is x.p x.c x.e.gone r n _ (h.2.1.below hb) (by omega))
  obtain ⟨b, hbb⟩ : ∃ b, goneW x ⟨r, n, t, d, fl, tx⟩ = b := ⟨_, rfl⟩
  have hbb' : decide ((r, n) ∈ x.e.gone) = b := hbb
  rw [hbb]
  rw [hbb'] at CT
  simp only [Nat.zero_add] at c7
  clear hb h hbb hbb'
  obtain ⟨⟨r0, n0, t0, k0, d0, f0, x0, gn⟩, gp, gc⟩ := x
  simp only at c7 CT
  go_enter Tryz.func50, Tryz.ntmps50
  go_wp2_with fail
  refine CT.out.mono ?_
  rintro e w2 ⟨rfl, hb2⟩
  have B2 := Lib.hid (thenBelow HB.out hb2)
  clear hb2
  go_wp2
  go_ret
  exact ⟨rfl, B2.out⟩
theorem apply_enter (args : Array Value) (w : World) : (callFunc 50 args).run Tryz.prog w = .ok (.enter 50 args) w := by kernel_rfl
/-- what of Apply's closure is known, in worlds that are as w0 below B -/
theorem apply_tells (G : Nat) (x : EvP) (B : Nat) (w0 : World) (hn : x.e.gone.length ≤ 1000) (h : EvIn G x w0) (hB : B = w0.heap.size) : TellW 50 #[.pointer (some ⟨G, 0, none⟩)] (goneW x) B (fun w => Below B w0 w) where
  enter := apply_enter
  tell := fun y w hw => apply_tell G x y w (by subst hB; exact ⟨range_below h.1 hw, ⟨h.2.1.below hw, h.2.2⟩⟩) hn
  keep := fun w w' h1 h2 => h1.trans h2
end Go.Proofs.YtijmijokgenflaaGreatDoor
/- slices.Equal of the same things. -/
namespace Go.Proofs.YtijmijokgenflaaGreatDoor
open Go Go.RowKit
set_option linter.unusedVariables false
set_option maxRecDepth 1000000

theorem sizeDtE (r n : Int) : (Tryz.prog.info? 37).map (·.size) = some ([.int .i64 r, .int .i64 n] : List Value).length := by kernel_rfl
set_option maxHeartbeats 1000000 in
theorem equalDt_is (p q : Option Addr) (c d : Nat) (T : List Dt) (w : World) (h1 : DRow w p T) (h2 : DRow w q T) (hn : T.length ≤ 100000) :
    Calls Tryz.prog 11 #[.slice p T.length c, .slice q T.length d] w (RetBool w true) := by
  have H1 := Lib.hid h1; have H2 := Lib.hid h2
  clear h1 h2
  go_enter Tryz.func11, Tryz.ntmps11
  go_wp2
  go_loopw [13] (fun i wr => ∃ k : Nat, k ≤ T.length ∧ i = .int .i64 k ∧ Below w.heap.size w wr) (fun i _ => T.length - (RowKit.intOf i).toNat)
  case atStart => exact ⟨0, Nat.zero_le _, rfl, Below.refl _ _⟩
  case round =>
    obtain ⟨k, hk, rfl, hb⟩ := hrel
    have BR := Lib.hid hb
    clear hb
    by_cases hkl : k < T.length
    · have hkl' : (k : Int) < T.length := by omega
      obtain ⟨b1, o1, rfl, r1⟩ := drow_at (H1.out.below BR.out) hkl
      obtain ⟨b2, o2, rfl, r2⟩ := drow_at (H2.out.below BR.out) hkl
      obtain ⟨⟨t1, t2⟩, hy⟩ : ∃ y, T[k] = y := ⟨_, rfl⟩
      rw [hy] at r1 r2
      have R1 : Hid (wr.rangeAt b1 (o1 + k * 2) [.int .i64 t1, .int .i64 t2]) := Lib.hid r1
      have R2 : Hid (wr.rangeAt b2 (o2 + k * 2) [.int .i64 t1, .int .i64 t2]) := Lib.hid r2
      clear r1 r2 hy
      go_wp2_with fail
      have m0 : wr.drew.rangeAt b1 (o1 + k * 2) [.int .i64 t1, .int .i64 t2] ∧ wr.drew.rangeAt b2 (o2 + k * 2) [.int .i64 t1, .int .i64 t2] := ⟨R1.out, R2.out⟩
      refine rg_calm (by kernel_rfl) rfl (S := fun U => U.rangeAt b1 (o1 + k * 2) [.int .i64 t1, .int .i64 t2] ∧ U.rangeAt b2 (o2 + k * 2) [.int .i64 t1, .int .i64 t2]) ?_
      refine rgd_pure 0 (some 16) rfl rfl (.slice (some ⟨b1, o1, none⟩) T.length c) (by kernel_rfl) (by kernel_rfl) (by kernel_rfl) (fun _ _ _ _ h => h) (by kernel_rfl) (fun w => by kernel_rfl) m0 ?_
      refine rgd_pure 1 (some 17) rfl rfl (.int .i64 k) (by kernel_rfl) (by kernel_rfl) (by kernel_rfl) (fun _ _ _ _ h => h) (by kernel_rfl) (fun w => by kernel_rfl) m0 ?_
      refine rgd_pure 2 (some 18) rfl rfl (.pointer (some ⟨b1, o1 + k * 2, none⟩)) (by kernel_rfl) (by kernel_rfl) (by kernel_rfl) (fun _ _ _ _ h => h) (by kernel_rfl) (fun w => exec_idxD _ _ rfl b1 o1 T.length c k (by kernel_rfl) (by kernel_rfl) hkl w) m0 ?_
      refine rgd_pureS 3 (some 19) rfl rfl (.agg #[.int .i64 t1, .int .i64 t2]) (by kernel_rfl) (by kernel_rfl) (by kernel_rfl) (fun _ _ _ _ h => h) (by kernel_rfl) (fun U hU => exec_gload 37 _ rfl b1 (o1 + k * 2) (by kernel_rfl) [.int .i64 t1, .int .i64 t2] hU.1 Tryz.underlying37 rfl (sizeDtE t1 t2)) m0 ?_
      refine rgd_pure 4 (some 20) rfl rfl (.slice (some ⟨b2, o2, none⟩) T.length d) (by kernel_rfl) (by kernel_rfl) (by kernel_rfl) (fun _ _ _ _ h => h) (by kernel_rfl) (fun w => by kernel_rfl) m0 ?_
      refine rgd_pure 5 (some 21) rfl rfl (.int .i64 k) (by kernel_rfl) (by kernel_rfl) (by kernel_rfl) (fun _ _ _ _ h => h) (by kernel_rfl) (fun w => by kernel_rfl) m0 ?_
      refine rgd_pure 6 (some 22) rfl rfl (.pointer (some ⟨b2, o2 + k * 2, none⟩)) (by kernel_rfl) (by kernel_rfl) (by kernel_rfl) (fun _ _ _ _ h => h) (by kernel_rfl) (fun w => exec_idxD _ _ rfl b2 o2 T.length d k (by kernel_rfl) (by kernel_rfl) hkl w) m0 ?_
      refine rgd_pureS 7 (some 23) rfl rfl (.agg #[.int .i64 t1, .int .i64 t2]) (by kernel_rfl) (by kernel_rfl) (by kernel_rfl) (fun _ _ _ _ h => h) (by kernel_rfl) (fun U hU => exec_gload 37 _ rfl b2 (o2 + k * 2) (by kernel_rfl) [.int .i64 t1, .int .i64 t2] hU.2 Tryz.underlying37 rfl (sizeDtE t1 t2)) m0 ?_
      refine rgd_pure 8 (some 24) rfl rfl (.bool false) (by kernel_rfl) (by kernel_rfl) (by kernel_rfl) (fun _ _ _ _ h => h) (by kernel_rfl) (fun w => exec_neqD _ _ _ rfl (t1, t2) (by kernel_rfl) (by kernel_rfl) w) m0 ?_
      have BF := Lib.hid (to_drew BR.out)
      clear m0 R1 R2 BR
      generalize wr.drew = V2 at BF ⊢
      refine wpAnyH_done (by kernel_rfl) ?_ _
      have key : ∀ X Y : Act, X = Y → ∀ K : Act → World → Prop, K Y V2 → K X V2 := fun X Y e K h => e ▸ h
      refine key _ { tmps := #[.slice (some ⟨b1, o1, none⟩) T.length c, .slice (some ⟨b2, o2, none⟩) T.length d, undef, undef, u4, .int .i64 k, .slice (some ⟨b1, o1, none⟩) T.length c, .int .i64 T.length, .slice (some ⟨b2, o2, none⟩) T.length d, .int .i64 T.length, .bool false, .slice (some ⟨b1, o1, none⟩) T.length c, .int .i64 T.length, .int .i64 k, .bool true, .int .i64 k, .slice (some ⟨b1, o1, none⟩) T.length c, .int .i64 k, .pointer (some ⟨b1, o1 + k * 2, none⟩), .agg #[.int .i64 t1, .int .i64 t2], .slice (some ⟨b2, o2, none⟩) T.length d, .int .i64 k, .pointer (some ⟨b2, o2 + k * 2, none⟩), .agg #[.int .i64 t1, .int .i64 t2], .bool false, u25], defers := [] } (by kernel_rfl) _ ?_
      simp only [Exit.then, Exit.inBlock]
      go_wp2
      go_roundw
      case rel => exact ⟨k + 1, by omega, by go_num, BF.out⟩
      case measure => simp [RowKit.intOf]; omega
    · obtain rfl : k = T.length := by omega
      have hkl' : ¬ ((T.length : Nat) : Int) < T.length := by omega
      go_wp2
      go_ret
      exact ⟨rfl, BR.out⟩
end Go.Proofs.YtijmijokgenflaaGreatDoor
