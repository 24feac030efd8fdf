/- The statement WireDecodes, proved for every input that its row reads: part 22 of 54. -/
import Derived.Test.YtapmbankpbiglaaGreatDoorPackWireDecodes8
import Derived.Test.YtapmbankpbiglaaGreatDoorPackWireDecodes10
import Derived.Lib.SliceRun
import Derived.Test.YtapmbankpbiglaaGreatDoorPackWireDecodes15
/- Writes: how they lie; slices.Clone of them. -/
namespace Go.Proofs
open Go.Shelf
end Go.Proofs
namespace Go.Proofs.YtapmbankpbiglaaGreatDoor
open Go Go.RowKit
set_option linter.unusedVariables false
set_option maxRecDepth 1000000

/-- a write -/
structure Wr where
  rep : Int
  n : Int
  time : Int
  doc : ByteArray
  field : Int
  text : ByteArray
def Wr.cells (x : Wr) : List Value := [.int .i64 x.rep, .int .i64 x.n, .int .i64 x.time, .string x.doc, .int .i64 x.field, .string x.text]
theorem Wr.cells_len (x : Wr) : x.cells.length = 6 := rfl
theorem Wr.cells_one (x : Wr) : ∀ u ∈ x.cells, u.oneCell' = true := by
  intro u hu
  simp [Wr.cells] at hu
  rcases hu with rfl | rfl | rfl | rfl | rfl | rfl <;> rfl
def Wr.dot (x : Wr) : Dt := (x.rep, x.n)
def wcl (L : List Wr) : List Value := L.flatMap Wr.cells
theorem wcl_length (L : List Wr) : (wcl L).length = L.length * 6 := flat_len Wr.cells_len L
theorem wcl_append (a b : List Wr) : wcl (a ++ b) = wcl a ++ wcl b := by simp [wcl]
theorem wcl_one (L : List Wr) : ∀ u ∈ wcl L, u.oneCell' = true := by
  intro u hu
  obtain ⟨x, _, h⟩ := List.mem_flatMap.1 hu
  exact x.cells_one u h
theorem wcl_take : ∀ (L : List Wr) (k : Nat), wcl (L.take k) = (wcl L).take (k * 6)
  | [], k => by simp [wcl]
  | x :: L, 0 => by simp [wcl]
  | x :: L, k + 1 => by
    have h := wcl_take L k
    rw [List.take_succ_cons, show wcl (x :: L.take k) = x.cells ++ wcl (L.take k) from rfl, show wcl (x :: L) = x.cells ++ wcl L from rfl, h, show (k + 1) * 6 = x.cells.length + k * 6 by rw [Wr.cells_len]; omega, List.take_length_add_append]
/-- writes that lie at p -/
structure WrsAt (w : World) (p : Option Addr) (L : List Wr) : Prop where
  row : L ≠ [] → ∃ b o, p = some ⟨b, o, none⟩ ∧ w.rangeAt b o (wcl L)
  none : p = none → L = []
theorem WrsAt.below {w w' : World} {p : Option Addr} {L : List Wr} (h : WrsAt w p L) (hb : Below w.heap.size w w') : WrsAt w' p L :=
  ⟨fun hn => by
    obtain ⟨b, o, rfl, hr⟩ := h.row hn
    exact ⟨b, o, rfl, range_below hr hb⟩, h.none⟩
theorem WrsAt.at {w : World} {p : Option Addr} {L : List Wr} (h : WrsAt w p L) {i : Nat} (hi : i < L.length) :
    ∃ b o, p = some ⟨b, o, Option.none⟩ ∧ b < w.heap.size ∧ w.rangeAt b (o + i * 6) L[i].cells := by
  obtain ⟨b, o, rfl, hr⟩ := h.row (by intro e; subst e; simp at hi)
  have hr2 : w.rangeAt b (o + i * 6) L[i].cells := fun j u hu => by
    have hj : j < 6 := (List.getElem?_eq_some_iff.1 hu).1
    have := hr (i * 6 + j) u (by rw [show wcl L = L.flatMap Wr.cells from rfl, flat_get Wr.cells_len L i hi j hj]; exact hu)
    rw [Nat.add_assoc]; exact this
  exact ⟨b, o, rfl, World.block_lt_of_cell? w _ (hr2 0 _ rfl), hr2⟩
theorem wr_cells {w : World} {b o : Nat} {x : Wr} (h : w.rangeAt b o x.cells) :
    w.cell? ⟨b, o, none⟩ = some (.int .i64 x.rep) ∧ w.cell? ⟨b, o + 1, none⟩ = some (.int .i64 x.n) ∧ w.cell? ⟨b, o + 2, none⟩ = some (.int .i64 x.time) ∧ w.cell? ⟨b, o + 3, none⟩ = some (.string x.doc) ∧ w.cell? ⟨b, o + 4, none⟩ = some (.int .i64 x.field) ∧ w.cell? ⟨b, o + 5, none⟩ = some (.string x.text) :=
  ⟨h 0 _ rfl, h 1 _ rfl, h 2 _ rfl, h 3 _ rfl, h 4 _ rfl, h 5 _ rfl⟩
theorem infoWr : (Tryz.prog.info? 83).map (fun i => (i.zero, i.size, i.bytes)) = some (some (.agg #[.int .i64 0, .int .i64 0, .int .i64 0, .string ByteArray.empty, .int .i64 0, .string ByteArray.empty]), 6, 64) := by kernel_rfl
theorem sizeWr (x : Wr) : (Tryz.prog.info? 83).map (·.size) = some x.cells.length := by rw [Wr.cells_len]; kernel_rfl
/-- a row of writes of a call's own lies where it lies -/
theorem own_wat {w : World} {B : Nat} {v : Value} {L : List Wr} (hr : w.ownsRow B 83 6 v L.length (wcl L)) : ∃ p c, v = .slice p L.length c ∧ L.length ≤ c ∧ WrsAt w p L ∧ (∀ a, p = some a → ∃ b o, a = ⟨b, o, Option.none⟩) := by
  rcases hr.2 with ⟨rfl, h0⟩ | ⟨g, cap, cur, rfl, hB, hg, hc, hm, hs, ht⟩
  · have : L = [] := List.eq_nil_of_length_eq_zero h0
    subst this
    exact ⟨none, 0, rfl, Nat.le_refl _, ⟨fun hn => absurd rfl hn, fun _ => rfl⟩, fun a ha => by cases ha⟩
  · refine ⟨some ⟨g, 0, none⟩, cap, rfl, hc, ⟨fun _ => ⟨g, 0, rfl, fun j u hu => ?_⟩, fun e => by cases e⟩, fun a ha => by obtain rfl := Option.some.inj ha; exact ⟨g, 0, rfl⟩⟩
    have hj : j < L.length * 6 := by rw [← wcl_length]; exact (List.getElem?_eq_some_iff.1 hu).1
    have := hr.cellAt j hj
    rw [Nat.zero_add, this]; exact hu
/-- the first ones of a row of one's own -/
theorem own_front {w : World} {B n c g k i : Nat} {e : TypeId} {xs : List Value} (h : w.ownsRow B e k (.slice (some ⟨g, 0, none⟩) n c) n xs) (hi : i ≤ n) : w.ownsRow B e k (.slice (some ⟨g, 0, none⟩) i c) i (xs.take (i * k)) := by
  have hx := h.1
  rcases h.2 with ⟨h1, _⟩ | ⟨g', cap, cur, h1, hB, hg, hc, hm, hs, ht⟩
  · cases h1
  · injection h1 with h1 _ h3
    injection h1 with h1
    injection h1 with h1 _ _
    subst h1; subst h3
    have hk : i * k ≤ n * k := Nat.mul_le_mul_right k hi
    refine ⟨by rw [List.length_take, hx]; omega, .inr ⟨g, c, cur, rfl, hB, hg, Nat.le_trans hi hc, hm, hs, ?_⟩⟩
    rw [← ht, List.take_take, Nat.min_eq_left hk]
set_option maxRecDepth 1000000

/-- a closure that tells of writes, one by one, in worlds that meet S -/
structure TellW (F : FuncId) (caps : Array Value) (goes : Wr → Bool) (B : Nat) (S : World → Prop) : Prop where
  enter : ∀ args w, (callFunc F args).run Tryz.prog w = .ok (.enter F args) w
  tell : ∀ (x : Wr) (w : World), S w → Calls Tryz.prog F (#[.agg x.cells.toArray] ++ caps) w (RetBool w (goes x))
  keep : ∀ w w', S w → Below B w w' → S w'
/-- the first that goes -/
def IdxW (w : World) (goes : Wr → Bool) (L : List Wr) (e : Ending) (w' : World) : Prop :=
  ∃ i : Int, e = .returned (.int .i64 i) ∧ ((i = -1 ∧ ∀ x ∈ L, goes x = false) ∨ (∃ k : Nat, i = k ∧ k < L.length ∧ (∀ y, L[k]? = some y → goes y = true) ∧ ∀ x ∈ L.take k, goes x = false)) ∧ Below w.heap.size w w'
/-! Some cells of a row written at once -/
def setLL (xs : List Value) : Nat → List Value → List Value
  | _, [] => xs
  | o, v :: r => setLL (xs.set o v) (o + 1) r
theorem setLL_length : ∀ (vs : List Value) (xs : List Value) (o : Nat), (setLL xs o vs).length = xs.length
  | [], _, _ => rfl
  | v :: r, xs, o => by rw [setLL, setLL_length r]; simp
theorem setLL_get : ∀ (vs : List Value) (xs : List Value) (o : Nat) (hle : o + vs.length ≤ xs.length) (i : Nat), (setLL xs o vs)[i]? = if o ≤ i ∧ i < o + vs.length then vs[i - o]? else xs[i]?
  | [], xs, o, _, i => by
    have : ¬ (o ≤ i ∧ i < o + ([] : List Value).length) := by simp
    rw [if_neg this]; rfl
  | v :: r, xs, o, hle, i => by
    rw [List.length_cons] at hle ⊢
    rw [setLL, setLL_get r _ _ (by simp; omega)]
    by_cases h1 : o + 1 ≤ i ∧ i < o + 1 + r.length
    · rw [if_pos h1, if_pos (by omega), show i - o = (i - (o + 1)) + 1 from by omega, List.getElem?_cons_succ]
    · rw [if_neg h1]
      by_cases h2 : o = i
      · subst h2
        rw [if_pos (by omega), List.getElem?_set_self (by omega), Nat.sub_self]; rfl
      · rw [if_neg (by omega), List.getElem?_set_ne h2]
theorem own_setCells {B : Nat} {e : TypeId} {k n : Nat} {g c : Nat} : ∀ (vs : List Value) (w : World) (xs : List Value) (o : Nat), w.ownsRow B e k (.slice (some ⟨g, 0, none⟩) n c) n xs →
    (w.setCells g o vs).ownsRow B e k (.slice (some ⟨g, 0, none⟩) n c) n (setLL xs o vs)
  | [], _, _, _, h => h
  | v :: r, w, xs, o, h => by
    rw [World.setCells, setLL]
    exact own_setCells r _ _ _ (h.stored o v).1
theorem wcl_setLL (M : List Wr) (a : Nat) (ha : a < M.length) (y : Wr) : setLL (wcl M) (a * 6) y.cells = wcl (M.set a y) := by
  apply List.ext_getElem?
  intro i
  have hl := wcl_length M
  rw [setLL_get _ _ _ (by rw [Wr.cells_len, hl]; omega)]
  by_cases hi : i < M.length * 6
  · have h2 := flat_get Wr.cells_len (M.set a y) (i / 6) (by simp; omega) (i % 6) (by omega)
    have h1 := flat_get Wr.cells_len M (i / 6) (by omega) (i % 6) (by omega)
    rw [show i / 6 * 6 + i % 6 = i by omega] at h1 h2
    change (wcl M)[i]? = _ at h1
    change (wcl (M.set a y))[i]? = _ at h2
    rw [h1, h2, Wr.cells_len]
    by_cases he : a = i / 6
    · subst he
      rw [if_pos (by omega)]
      simp only [List.getElem_set_self]
      rw [show i - i / 6 * 6 = i % 6 by omega]
    · rw [if_neg (by omega), List.getElem_set_ne he]
  · rw [if_neg (by rw [Wr.cells_len]; omega), List.getElem?_eq_none (by omega), List.getElem?_eq_none (by rw [wcl_length]; simp; omega)]
theorem zeroWr : ∀ w : World, (zeroValue 83).run Tryz.prog w = .ok (.agg #[.int .i64 0, .int .i64 0, .int .i64 0, .string ByteArray.empty, .int .i64 0, .string ByteArray.empty]) w := fun w => by kernel_rfl
theorem clear_anyW (w : World) (ty : TypeId) (b o n c : Nat) (hn : 0 < n) (z : Value) (hz : ∀ w : World, (zeroValue 83).run Tryz.prog w = .ok z w) (hl : (Builtin.zeroCells z.cells n).toList.length = n * 6) (h1 : ∀ u ∈ (Builtin.zeroCells z.cells n).toList, u.oneCell' = true)
    (hc : ∀ j, j < n * 6 → (w.cell? ⟨b, o + j, none⟩).isSome = true) (hf : ∀ j, j < n * 6 → w.frozen? ⟨b, o + j, none⟩ = false) :
    (Builtin.clear_ #[27] ty #[.slice (some ⟨b, o, none⟩) n c]).run Tryz.prog w = .ok (.tuple #[]) (w.setCells b o (Builtin.zeroCells z.cells n).toList) := by
  have hst := run_storeCells_cells (P := Tryz.prog) b o _ 0 w (by rw [hl]; simpa using hc) (by rw [hl]; simpa using hf) h1
  simp only [Nat.add_zero] at hst
  obtain ⟨m, rfl⟩ : ∃ m, n = m + 1 := ⟨n - 1, by omega⟩
  have hu : Tryz.prog.underlying 27 = some (.slice 83) := Tryz.underlying27
  simp [Builtin.clear_, run_underlying hu, hz, hst]
theorem clearW (w : World) (ty : TypeId) (b o n c : Nat) (hn : 0 < n) (hc : ∀ j, j < n * 6 → (w.cell? ⟨b, o + j, none⟩).isSome = true) (hf : ∀ j, j < n * 6 → w.frozen? ⟨b, o + j, none⟩ = false) :
    ∃ vs : List Value, vs.length = n * 6 ∧ (Builtin.clear_ #[27] ty #[.slice (some ⟨b, o, none⟩) n c]).run Tryz.prog w = .ok (.tuple #[]) (w.setCells b o vs) := by
  refine ⟨(Builtin.zeroCells (Value.cells (.agg #[.int .i64 0, .int .i64 0, .int .i64 0, .string ByteArray.empty, .int .i64 0, .string ByteArray.empty])) n).toList, by simp [Builtin.zeroCells, Value.cells], ?_⟩
  have hl : (Builtin.zeroCells (Value.cells (.agg #[.int .i64 0, .int .i64 0, .int .i64 0, .string ByteArray.empty, .int .i64 0, .string ByteArray.empty])) n).toList.length = n * 6 := by simp [Builtin.zeroCells, Value.cells]
  have h1 : ∀ u ∈ (Builtin.zeroCells (Value.cells (.agg #[.int .i64 0, .int .i64 0, .int .i64 0, .string ByteArray.empty, .int .i64 0, .string ByteArray.empty])) n).toList, u.oneCell' = true := by
    intro u hu
    simp only [Builtin.zeroCells, Array.toList_map, List.mem_map] at hu
    obtain ⟨i, _, rfl⟩ := hu
    have hi : i % 6 < 6 := Nat.mod_lt _ (by decide)
    change Value.oneCell' ((Value.cells (.agg #[.int .i64 0, .int .i64 0, .int .i64 0, .string ByteArray.empty, .int .i64 0, .string ByteArray.empty]))[i % 6]!) = true
    generalize i % 6 = j at hi
    match j, hi with
    | 0, _ => rfl
    | 1, _ => rfl
    | 2, _ => rfl
    | 3, _ => rfl
    | 4, _ => rfl
    | 5, _ => rfl
  exact clear_anyW w ty b o n c hn _ zeroWr hl h1 hc hf
section
variable {ops : Array Oper} {rest : List Oper} {o : Oper} {a : Act} {Q : Exit → Act → World → Prop}
/-- a write written over another of a row -/
theorem wpList_wset {w : World} (hg : o.guard = none) (x y : Operand) (ho : o.op = .store 83 x y) (g j : Nat) (hx : a.eval x = .pointer (some ⟨g, j * 6, none⟩)) (X : Wr) (hy : a.eval y = .agg X.cells.toArray)
    (B n c : Nat) (M : List Wr) (hO : w.ownsRow B 83 6 (.slice (some ⟨g, 0, none⟩) n c) n (wcl M)) (hM : M.length = n) (hj : j < n)
    (h : ∀ w', w'.ownsRow B 83 6 (.slice (some ⟨g, 0, none⟩) n c) n (wcl (M.set j X)) → w.grownBy w' (some g) → wpList Tryz.prog ops Q rest (a.put o.dst undef) w') : wpList Tryz.prog ops Q (o :: rest) a w := by
  have ht : w.there g (j * 6) 6 := fun i hi => by
    have hj2 : j * 6 + i < n * 6 := by omega
    refine ⟨?_, hO.frozenAt (j * 6 + i)⟩
    rw [hO.cellAt (j * 6 + i) hj2, List.getElem?_eq_getElem (by rw [wcl_length, hM]; exact hj2)]
    rfl
  have h1 := own_setCells X.cells w _ (j * 6) hO
  rw [wcl_setLL M j (by omega)] at h1
  exact wpList_store_mid hg 83 x y ho g (j * 6) X.cells.toArray hx hy ht (by rw [List.size_toArray]; exact sizeWr X) (Array.all_eq_true_iff_forall_mem.2 (fun u hu => X.cells_one u (by simpa using hu))) (h _ h1 (grown_setCells g _ _ _))
end
/-- what is left -/
def DelW (B : Nat) (goes : Wr → Bool) (K : List Wr) (w : World) (e : Ending) (w' : World) : Prop :=
  ∃ v K', e = .returned v ∧ w'.ownsRow B 83 6 v K'.length (wcl K') ∧ K' = K.filter (fun x => !goes x) ∧ Below B w w'
end Go.Proofs.YtapmbankpbiglaaGreatDoor
/- docs: without; which dots an event takes away. -/
namespace Go.Proofs.YtapmbankpbiglaaGreatDoor
open Go Go.RowKit
set_option linter.unusedVariables false
set_option maxRecDepth 1000000

/-- what is left, in new memory -/
def LeftW (w : World) (K' : List Wr) (e : Ending) (w' : World) : Prop := ∃ v, e = .returned v ∧ w'.ownsRow w.heap.size 83 6 v K'.length (wcl K') ∧ Below w.heap.size w w'
/-- an event in a variable of its own, its dots there, below B -/
def EvIn (G : Nat) (x : EvP) (w : World) : Prop := w.rangeAt G 0 x.cells ∧ x.Ok w
def goneW (x : EvP) (y : Wr) : Bool := decide (y.dot ∈ x.e.gone)
end Go.Proofs.YtapmbankpbiglaaGreatDoor
/- the program's sameEvent. -/
namespace Go.Proofs.YtapmbankpbiglaaGreatDoor
open Go Go.RowKit
set_option linter.unusedVariables false
set_option maxRecDepth 1000000

/-- what a call tells -/
def Tells (w : World) (P : Prop) (e : Ending) (w' : World) : Prop := ∃ b : Bool, e = .returned (.bool b) ∧ (b = true ↔ P) ∧ Below w.heap.size w w'
theorem beqI (x y : Int) (h : ¬ x = y) : (x == y) = false := by simp [h]
theorem neB (x y : ByteArray) (h : ¬ x = y) : ¬ x.toList = y.toList := fun e => h (ByteArray.ext (Array.toList_inj.1 (by rw [Lib.toList_data, Lib.toList_data] at e; exact e)))
theorem evs_get (L : List EvP) (j : Nat) (h : j < L.length) : (evs L)[j]? = some L[j].e := by simp [evs, h]
end Go.Proofs.YtapmbankpbiglaaGreatDoor
/- the document's SameEvents of any. -/
namespace Go.Proofs.YtapmbankpbiglaaGreatDoor
open Go Go.RowKit
set_option linter.unusedVariables false

theorem neJ (x y : Int) (h : ¬ x = y) : (x != y) = true := by simp [h]
set_option maxHeartbeats 40000000 in
set_option maxRecDepth 1000000 in
theorem refSameX_is (p : Option Addr) (c : Nat) (L : List EvP) (q : Option Addr) (c' : Nat) (M : List EvP) (w : World) (h : EvsAt w p L) (h2 : EvsAt w q M) (hn : L.length ≤ 2000) (hn2 : M.length ≤ 2000) (hg : ∀ x ∈ L, x.e.gone.length ≤ 1000) (hg2 : ∀ x ∈ M, x.e.gone.length ≤ 1000) :
    Calls Tryz.prog 25 #[.slice p L.length c, .slice q M.length c'] w (Tells w (evs L = evs M)) := by
  have E1 := Lib.hid h; have E2 := Lib.hid h2; have HG := Lib.hid hg; have HG2 := Lib.hid hg2
  clear h h2 hg hg2
  by_cases hl : M.length = L.length
  · have HL := Lib.hid hl
    rw [hl]
    go_enter Tryz.func25, Tryz.ntmps25
    go_wp2
    go_loopw [17] (fun i wr => ∃ j : Nat, j ≤ L.length ∧ i = .int .i64 j ∧ (∀ t, t < j → (evs L)[t]? = (evs M)[t]?) ∧ Below w.heap.size w wr) (fun i _ => L.length - (intOf i).toNat)
    case atStart => exact ⟨0, Nat.zero_le _, rfl, fun t h => by omega, Below.refl _ _⟩
    case round =>
      obtain ⟨j, hj, rfl, hall, hb⟩ := hrel
      have BB := Lib.hid hb; have HA := Lib.hid hall
      clear hall
      by_cases hjl : j < L.length
      · have hjl' : (j : Int) < L.length := by omega
        have hjm : j < M.length := by omega
        obtain ⟨b, o, rfl, hlt, hr⟩ := (E1.out.below hb).at hjl
        obtain ⟨b', o', rfl, hlt', hr'⟩ := (E2.out.below hb).at hjm
        obtain ⟨c0, c1, c2, c3, c4, c5, c6, c7⟩ := ev_cells hr
        obtain ⟨e0, e1, e2, e3, e4, e5, e6, e7⟩ := ev_cells (range_below hr' (below_alloc wr (.cells L[j].cells.toArray 79)))
        have GL := Lib.hid (evs_get L j hjl); have GM := Lib.hid (evs_get M j hjm)
        have K1 := Lib.hid ((E1.out.ok L[j] (List.getElem_mem hjl)).below hb)
        have K2 := Lib.hid ((E2.out.ok M[j] (List.getElem_mem hjm)).below hb)
        have hgl := HG.out L[j] (List.getElem_mem hjl)
        have hgm := HG2.out M[j] (List.getElem_mem hjm)
        have BN := Lib.hid (thenBelow BB.out (thenBelow (below_alloc wr (.cells L[j].cells.toArray 79)) (below_alloc (wr.alloc (.cells L[j].cells.toArray 79)) (.cells M[j].cells.toArray 79))))
        clear hb hr hr' hlt hlt'
        obtain ⟨x, hx⟩ : ∃ x, L[j] = x := ⟨_, rfl⟩
        obtain ⟨y, hy⟩ : ∃ y, M[j] = y := ⟨_, rfl⟩
        rw [hx] at c0 c1 c2 c3 c4 c5 c6 c7 e0 e1 e2 e3 e4 e5 e6 e7 K1 hgl GL BN
        rw [hy] at e0 e1 e2 e3 e4 e5 e6 e7 K2 hgm GM BN
        clear hx hy
        obtain ⟨⟨r, n, t, kd, d, fl, tx, gn⟩, xp, xc⟩ := x
        obtain ⟨⟨r', n', t', kd', d', fl', tx', gn'⟩, yp, yc⟩ := y
        simp only [EvP.cells] at c0 c1 c2 c3 c4 c5 c6 c7 e0 e1 e2 e3 e4 e5 e6 e7 hgl hgm GL GM BN
        have hq1 : ∀ w : World, (Op.equalIn 10000 76 (.agg #[.int .i64 r, .int .i64 n]) (.agg #[.int .i64 r', .int .i64 n'])).run Tryz.prog w = .ok (eqDt (r, n) (r', n')) w := fun w => runEqDt (r, n) (r', n') w
        have hq2 : ∀ w : World, (binOp .neq 76 (.agg #[.int .i64 r, .int .i64 n]) (.agg #[.int .i64 r', .int .i64 n'])).run Tryz.prog w = .ok (.bool (!eqDt (r, n) (r', n'))) w := fun w => neqDt (r, n) (r', n') w
        by_cases h0 : ((r, n) : Dt) = (r', n')
        · rw [(eqDt_iff _ _).2 h0] at hq1 hq2
          injection h0 with ha hb
          subst ha; subst hb
          by_cases ht : t = t'
          · subst ht
            by_cases hkd : kd = kd'
            · subst hkd
              by_cases hd : d = d'
              · subst hd
                by_cases hfl : fl = fl'
                · subst hfl
                  by_cases htx : tx = tx'
                  · subst htx
                    by_cases hlen : gn'.length = gn.length
                    · rw [hlen] at e7
                      have hn6 := heap_alloc_new wr (.cells #[.int .i64 r, .int .i64 n, .int .i64 t, .int .i64 kd, .string d, .int .i64 fl, .string tx, .slice xp gn.length xc] 79)
                      have hb6 := below_alloc wr (.cells #[.int .i64 r, .int .i64 n, .int .i64 t, .int .i64 kd, .string d, .int .i64 fl, .string tx, .slice xp gn.length xc] 79)
                      have hn7 := heap_alloc_new (wr.alloc (.cells #[.int .i64 r, .int .i64 n, .int .i64 t, .int .i64 kd, .string d, .int .i64 fl, .string tx, .slice xp gn.length xc] 79)) (.cells #[.int .i64 r, .int .i64 n, .int .i64 t, .int .i64 kd, .string d, .int .i64 fl, .string tx, .slice yp gn.length yc] 79)
                      have hb7 := below_alloc (wr.alloc (.cells #[.int .i64 r, .int .i64 n, .int .i64 t, .int .i64 kd, .string d, .int .i64 fl, .string tx, .slice xp gn.length xc] 79)) (.cells #[.int .i64 r, .int .i64 n, .int .i64 t, .int .i64 kd, .string d, .int .i64 fl, .string tx, .slice yp gn.length yc] 79)
                      have B7 := Lib.hid (thenBelow hb6 hb7)
                      have N6 := Lib.hid ((hb7.block _ (Array.getElem?_eq_some_iff.1 hn6).1).trans hn6)
                      have hn7' : ((wr.alloc (.cells #[.int .i64 r, .int .i64 n, .int .i64 t, .int .i64 kd, .string d, .int .i64 fl, .string tx, .slice xp gn.length xc] 79)).alloc (.cells #[.int .i64 r, .int .i64 n, .int .i64 t, .int .i64 kd, .string d, .int .i64 fl, .string tx, .slice yp gn.length yc] 79)).heap[wr.heap.size + 1]? = some (.cells #[.int .i64 r, .int .i64 n, .int .i64 t, .int .i64 kd, .string d, .int .i64 fl, .string tx, .slice yp gn.length yc] 79 (0, 0)) := by simpa using hn7
                      have N7 := Lib.hid hn7'
                      have D17 := Lib.hid (K1.out.1.below B7.out); have D27 := Lib.hid (K2.out.1.below B7.out)
                      simp only at D17 D27
                      clear hn6 hn7 hn7' hb6 hb7 K1 K2 BN
                      go_wp2
                      clear hq1 hq2 c0 c1 c2 c3 c4 c5 c6 c7 e0 e1 e2 e3 e4 e5 e6 e7
                      generalize (wr.alloc (.cells #[.int .i64 r, .int .i64 n, .int .i64 t, .int .i64 kd, .string d, .int .i64 fl, .string tx, .slice xp gn.length xc] 79)).alloc (.cells #[.int .i64 r, .int .i64 n, .int .i64 t, .int .i64 kd, .string d, .int .i64 fl, .string tx, .slice yp gn.length yc] 79) = w7 at *
                      have BW7 := Lib.hid (thenBelow BB.out B7.out)
                      obtain ⟨G6, hG6⟩ : ∃ G6, wr.heap.size = G6 := ⟨_, rfl⟩
                      rw [hG6] at N6 N7 ⊢
                      clear hG6 B7
                      have hz7 : G6 + 1 < w7.heap.size := (Array.getElem?_eq_some_iff.1 N7.out).1
                      go_loopw [78] (fun i wi => ∃ k : Nat, k ≤ gn.length ∧ i = .int .i64 k ∧ (∀ t, t < k → gn[t]? = gn'[t]?) ∧ Below w7.heap.size w7 wi) (fun i _ => gn.length - (intOf i).toNat)
                      case atStart => exact ⟨0, Nat.zero_le _, rfl, fun t h => by omega, Below.refl _ _⟩
                      case round =>
                        obtain ⟨k, hk, rfl, hall, hb⟩ := hrel
                        have BI := Lib.hid hb; have HI := Lib.hid hall
                        clear hall
                        by_cases hkl : k < gn.length
                        · have hkl' : (k : Int) < gn.length := by omega
                          have hk2 : k < gn'.length := by omega
                          obtain ⟨b1, o1, rfl, q1⟩ := drow_at (D17.out.below hb) hkl
                          obtain ⟨b2, o2, rfl, q2⟩ := drow_at (D27.out.below hb) hk2
                          obtain ⟨⟨z1, z2⟩, hz⟩ : ∃ z, gn[k] = z := ⟨_, rfl⟩
                          obtain ⟨⟨y1, y2⟩, hy⟩ : ∃ z, gn'[k] = z := ⟨_, rfl⟩
                          have HZ := Lib.hid hz; have HY2 := Lib.hid hy
                          rw [hz] at q1
                          rw [hy] at q2
                          simp only at q1 q2
                          have r1 := q1 0 _ rfl; have r2 := q1 1 _ rfl
                          rw [Nat.add_zero] at r1
                          have b8 := below_alloc wr (.cells #[.int .i64 z1, .int .i64 z2] 76)
                          have n8 := heap_alloc_new wr (.cells #[.int .i64 z1, .int .i64 z2] 76)
                          have B8 := Lib.hid (thenBelow hb b8)
                          have T7 : Hid (∀ U, Below w7.heap.size w7 U → U.cell? ⟨G6 + 1, 7, none⟩ = some (.slice (some ⟨b2, o2, none⟩) gn.length yc)) := Lib.hid fun U hU =>
                            (cell_of_row U (G6 + 1) 7 _ _ _ ((hU.block _ hz7).trans N7.out)).trans rfl
                          have hY : Hid ((wr.alloc (.cells #[.int .i64 z1, .int .i64 z2] 76)).rangeAt b2 (o2 + k * 2) [.int .i64 y1, .int .i64 y2]) := Lib.hid (range_below q2 b8)
                          have hX : Hid ((wr.alloc (.cells #[.int .i64 z1, .int .i64 z2] 76)).rangeAt wr.heap.size 0 [.int .i64 z1, .int .i64 z2]) := Lib.hid (by simpa using range_of_block n8)
                          obtain ⟨ne, hne⟩ : ∃ ne, (!eqDt (y1, y2) (z1, z2)) = ne := ⟨_, rfl⟩
                          have NE := Lib.hid hne
                          clear q1 q2 hb b8 n8 hz hy hne
                          go_wp2_with fail
                          rename_i K2 hK2
                          have KE : K2 { tmps := #[.slice (some ⟨b, o, none⟩) L.length c, .slice (some ⟨b', o', none⟩) L.length c', undef, undef, u4, .int .i64 (j : Int), .pointer (some ⟨G6, 0, none⟩), .pointer (some ⟨G6 + 1, 0, none⟩), .int .i64 (k : Int), .pointer (some ⟨wr.heap.size, 0, none⟩), .slice (some ⟨b, o, none⟩) L.length c, .int .i64 (L.length : Int), .slice (some ⟨b', o', none⟩) L.length c', .int .i64 (L.length : Int), .bool false, .slice (some ⟨b, o, none⟩) L.length c, .int .i64 (L.length : Int), .int .i64 (j : Int), .bool true, .int .i64 (j : Int), .pointer (some ⟨b, o + j * 8, none⟩), .agg #[.int .i64 r, .int .i64 n, .int .i64 t, .int .i64 kd, .string d, .int .i64 fl, .string tx, .slice (some ⟨b1, o1, none⟩) gn.length xc], .slice (some ⟨b', o', none⟩) L.length c', .int .i64 (j : Int), .pointer (some ⟨b', o' + j * 8, none⟩), .agg #[.int .i64 r, .int .i64 n, .int .i64 t, .int .i64 kd, .string d, .int .i64 fl, .string tx, .slice (some ⟨b2, o2, none⟩) gn.length yc], .pointer (some ⟨G6, 0, none⟩), .agg #[.int .i64 r, .int .i64 n], .pointer (some ⟨G6 + 1, 0, none⟩), .agg #[.int .i64 r, .int .i64 n], .bool false, .bool false, .pointer (some ⟨G6, 2, none⟩), .int .i64 t, .pointer (some ⟨G6 + 1, 2, none⟩), .int .i64 t, .bool false, .bool false, .bool false, .pointer (some ⟨G6, 3, none⟩), .int .i64 kd, .pointer (some ⟨G6 + 1, 3, none⟩), .int .i64 kd, .bool false, .bool false, .bool false, .pointer (some ⟨G6, 4, none⟩), .string d, .pointer (some ⟨G6 + 1, 4, none⟩), .string d, .bool false, .bool false, .bool false, .pointer (some ⟨G6, 5, none⟩), .int .i64 fl, .pointer (some ⟨G6 + 1, 5, none⟩), .int .i64 fl, .bool false, .bool false, .bool false, .pointer (some ⟨G6, 6, none⟩), .string tx, .pointer (some ⟨G6 + 1, 6, none⟩), .string tx, .bool false, .bool false, .bool false, .pointer (some ⟨G6, 7, none⟩), .slice (some ⟨b1, o1, none⟩) gn.length xc, .int .i64 (gn.length : Int), .pointer (some ⟨G6 + 1, 7, none⟩), .slice (some ⟨b2, o2, none⟩) gn.length yc, .int .i64 (gn.length : Int), .bool false, .bool false, .pointer (some ⟨G6, 7, none⟩), .slice (some ⟨b1, o1, none⟩) gn.length xc, .int .i64 (gn.length : Int), .int .i64 (k : Int), .bool true, .int .i64 (k : Int), .pointer (some ⟨b1, o1 + k * 2, none⟩), .agg #[.int .i64 z1, .int .i64 z2], .pointer (some ⟨G6 + 1, 7, none⟩), .slice (some ⟨b2, o2, none⟩) gn.length yc, .int .i64 (k : Int), .pointer (some ⟨b2, o2 + k * 2, none⟩), .agg #[.int .i64 y1, .int .i64 y2], .agg #[.int .i64 z1, .int .i64 z2], .bool ne, u90, u91], defers := [] } (wr.alloc (.cells #[.int .i64 z1, .int .i64 z2] 76)).drew := by
                            refine hK2 _ _ ?_
                            clear hK2 T7 hY hX r1 r2
                            have B9 := Lib.hid (to_drew B8.out)
                            clear B8
                            generalize (wr.alloc (.cells #[.int .i64 z1, .int .i64 z2] 76)).drew = w9 at B9 ⊢
                            cases ne with
                            | false =>
                              have hxy : gn[k] = gn'[k] := by
                                rw [HZ.out, HY2.out]
                                have h1 := NE.out
                                simp only [Bool.not_eq_false'] at h1
                                exact ((eqDt_iff _ _).1 h1).symm
                              have HXY := Lib.hid hxy
                              clear hxy
                              go_wp2
                              go_roundw
                              case rel => exact ⟨k + 1, by omega, by go_num, fun t ht => by
                                rcases Nat.lt_or_ge t k with h | h
                                · exact HI.out t h
                                · obtain rfl : t = k := by omega
                                  rw [List.getElem?_eq_getElem hkl, List.getElem?_eq_getElem hk2, HXY.out], by simpa using B9.out⟩
                              case measure => simp [intOf]; omega
                            | true =>
                              have no : ¬ evs L = evs M := fun h => by
                                have h1 := GL.out
                                rw [h, GM.out] at h1
                                have h2 := Option.some.inj h1
                                injection h2 with _ _ _ _ _ _ _ h3
                                have h4 : gn'[k] = gn[k] := by simp only [h3]
                                rw [HZ.out, HY2.out] at h4
                                have h5 := NE.out
                                rw [(eqDt_iff _ _).2 h4] at h5
                                cases h5
                              have BE := Lib.hid (thenBelow BW7.out B9.out)
                              go_wp2
                              go_ret
                              exact ⟨false, rfl, by first | exact ⟨fun h => (by cases h), fun h => absurd h no⟩ | simp [no], BE.out⟩
                          have SZ : ∀ z1 z2 : Int, (Tryz.prog.info? 76).map (·.size) = some [Value.int .i64 z1, .int .i64 z2].length := fun z1 z2 => by kernel_rfl
                          have m0 : (wr.alloc (.cells #[.int .i64 z1, .int .i64 z2] 76)).drew.cell? ⟨G6 + 1, 7, none⟩ = some (.slice (some ⟨b2, o2, none⟩) gn.length yc) ∧ (wr.alloc (.cells #[.int .i64 z1, .int .i64 z2] 76)).drew.rangeAt b2 (o2 + k * 2) [.int .i64 y1, .int .i64 y2] ∧ (wr.alloc (.cells #[.int .i64 z1, .int .i64 z2] 76)).drew.rangeAt wr.heap.size 0 [.int .i64 z1, .int .i64 z2] := ⟨T7.out _ (to_drew B8.out), hY.out, hX.out⟩
                          refine rg_calm (by kernel_rfl) rfl (S := fun U => U.cell? ⟨G6 + 1, 7, none⟩ = some (.slice (some ⟨b2, o2, none⟩) gn.length yc) ∧ U.rangeAt b2 (o2 + k * 2) [.int .i64 y1, .int .i64 y2] ∧ U.rangeAt wr.heap.size 0 [.int .i64 z1, .int .i64 z2]) ?_
                          refine rgd_pure 0 (some 83) rfl rfl (.pointer (some ⟨G6 + 1, 7, none⟩)) (by kernel_rfl) (by kernel_rfl) (by kernel_rfl) (fun _ _ _ _ h => h) (by kernel_rfl) (fun w => by kernel_rfl) m0 ?_
                          refine rgd_load 1 (some 84) rfl rfl (by kernel_rfl) (by kernel_rfl) (by kernel_rfl) (fun _ _ _ _ h => h) (by kernel_rfl) _ _ rfl Tryz.underlying77 rfl ⟨G6 + 1, 7, none⟩ (.slice (some ⟨b2, o2, none⟩) gn.length yc) (by kernel_rfl) (fun U hU => hU.1) m0 ?_
                          refine rgd_pure 2 (some 85) rfl rfl (.int .i64 (k : Int)) (by kernel_rfl) (by kernel_rfl) (by kernel_rfl) (fun _ _ _ _ h => h) (by kernel_rfl) (fun w => by kernel_rfl) m0 ?_
                          refine rgd_pure 3 (some 86) rfl rfl (.pointer (some ⟨b2, o2 + k * 2, none⟩)) (by kernel_rfl) (by kernel_rfl) (by kernel_rfl) (fun _ _ _ _ h => h) (by kernel_rfl) (exec_idxD _ _ rfl b2 o2 gn.length yc k (by kernel_rfl) (by kernel_rfl) hkl) m0 ?_
                          refine rgd_pureS 4 (some 87) rfl rfl (.agg #[.int .i64 y1, .int .i64 y2]) (by kernel_rfl) (by kernel_rfl) (by kernel_rfl) (fun _ _ _ _ h => h) (by kernel_rfl) (fun U hU => exec_gload 76 _ rfl b2 (o2 + k * 2) (by kernel_rfl) _ hU.2.1 Tryz.underlying76 rfl (SZ y1 y2)) m0 ?_
                          refine rgd_pureS 5 (some 88) rfl rfl (.agg #[.int .i64 z1, .int .i64 z2]) (by kernel_rfl) (by kernel_rfl) (by kernel_rfl) (fun _ _ _ _ h => h) (by kernel_rfl) (fun U hU => exec_gload 76 _ rfl wr.heap.size 0 (by kernel_rfl) _ hU.2.2 Tryz.underlying76 rfl (SZ z1 z2)) m0 ?_
                          refine rgd_pure 6 (some 89) rfl rfl (.bool ne) (by kernel_rfl) (by kernel_rfl) (by kernel_rfl) (fun _ _ _ _ h => h) (by kernel_rfl) (exec_neqE _ _ _ rfl (y1, y2) (z1, z2) ne NE.out (by kernel_rfl) (by kernel_rfl)) m0 ?_
                          exact wpAnyH_done (by kernel_rfl) (Eq.mp (by kernel_rfl) KE) _
                        · obtain rfl : k = gn.length := by omega
                          have hkl' : ¬ ((gn.length : Nat) : Int) < gn.length := by omega
                          have BE := Lib.hid (thenBelow BW7.out BI.out)
                          have hgg : gn = gn' := by
                            refine List.ext_getElem? fun t => ?_
                            rcases Nat.lt_or_ge t gn.length with h | h
                            · exact HI.out t h
                            · rw [List.getElem?_eq_none h, List.getElem?_eq_none (by omega)]
                          have HGG := Lib.hid hgg
                          clear hgg
                          go_wp2
                          go_roundw
                          case rel => exact ⟨j + 1, by omega, by go_num, fun t ht => by
                            rcases Nat.lt_or_ge t j with h | h
                            · exact HA.out t h
                            · obtain rfl : t = j := by omega
                              rw [GL.out, GM.out, HGG.out], BE.out⟩
                          case measure => simp [intOf]; omega
                    · have hne : ((gn.length : Int) != (gn'.length : Int)) = true := by simp; omega
                      have no : ¬ evs L = evs M := fun h => by
                        have h1 := GL.out
                        rw [h, GM.out] at h1
                        have h2 := Option.some.inj h1
                        injection h2
                        subst_vars; exact hlen rfl
                      go_wp2
                      go_ret
                      exact ⟨false, rfl, by first | exact ⟨fun h => (by cases h), fun h => absurd h no⟩ | simp [no], BN.out⟩
                  · have hf := neB tx tx' htx
                    have no : ¬ evs L = evs M := fun h => by
                      have h1 := GL.out
                      rw [h, GM.out] at h1
                      have h2 := Option.some.inj h1
                      injection h2
                      exact htx (Eq.symm (by assumption))
                    go_wp2
                    go_ret
                    exact ⟨false, rfl, by first | exact ⟨fun h => (by cases h), fun h => absurd h no⟩ | simp [no], BN.out⟩
                · have hf := neJ fl fl' hfl
                  have no : ¬ evs L = evs M := fun h => by
                    have h1 := GL.out
                    rw [h, GM.out] at h1
                    have h2 := Option.some.inj h1
                    injection h2
                    exact hfl (Eq.symm (by assumption))
                  go_wp2
                  go_ret
                  exact ⟨false, rfl, by first | exact ⟨fun h => (by cases h), fun h => absurd h no⟩ | simp [no], BN.out⟩
              · have hf := neB d d' hd
                have no : ¬ evs L = evs M := fun h => by
                  have h1 := GL.out
                  rw [h, GM.out] at h1
                  have h2 := Option.some.inj h1
                  injection h2
                  exact hd (Eq.symm (by assumption))
                go_wp2
                go_ret
                exact ⟨false, rfl, by first | exact ⟨fun h => (by cases h), fun h => absurd h no⟩ | simp [no], BN.out⟩
            · have hf := neJ kd kd' hkd
              have no : ¬ evs L = evs M := fun h => by
                have h1 := GL.out
                rw [h, GM.out] at h1
                have h2 := Option.some.inj h1
                injection h2
                exact hkd (Eq.symm (by assumption))
              go_wp2
              go_ret
              exact ⟨false, rfl, by first | exact ⟨fun h => (by cases h), fun h => absurd h no⟩ | simp [no], BN.out⟩
          · have hf := neJ t t' ht
            have no : ¬ evs L = evs M := fun h => by
              have h1 := GL.out
              rw [h, GM.out] at h1
              have h2 := Option.some.inj h1
              injection h2
              exact ht (Eq.symm (by assumption))
            go_wp2
            go_ret
            exact ⟨false, rfl, by first | exact ⟨fun h => (by cases h), fun h => absurd h no⟩ | simp [no], BN.out⟩
        · rw [eqDt_no h0] at hq1 hq2
          have no : ¬ evs L = evs M := fun h => by
            have h1 := GL.out
            rw [h, GM.out] at h1
            have h2 := Option.some.inj h1
            injection h2 with ha hb
            exact h0 (by rw [ha, hb])
          go_wp2
          go_ret
          exact ⟨false, rfl, by first | exact ⟨fun h => (by cases h), fun h => absurd h no⟩ | simp [no], BN.out⟩
      · obtain rfl : j = L.length := by omega
        have hjl' : ¬ ((L.length : Nat) : Int) < L.length := by omega
        have yes : evs L = evs M := by
          refine List.ext_getElem? fun t => ?_
          rcases Nat.lt_or_ge t L.length with h | h
          · exact HA.out t h
          · rw [List.getElem?_eq_none (by simp [evs]; omega), List.getElem?_eq_none (by simp [evs]; omega)]
        go_wp2
        go_ret
        exact ⟨true, rfl, by first | exact ⟨fun _ => yes, fun _ => rfl⟩ | simp [yes], BB.out⟩
  · have no : ¬ evs L = evs M := fun h => hl (by have := congrArg List.length h; simpa [evs] using this.symm)
    have hne : ((L.length : Int) != (M.length : Int)) = true := by simp; omega
    go_enter Tryz.func25, Tryz.ntmps25
    go_wp2
    go_ret
    exact ⟨false, rfl, by first | exact ⟨fun h => (by cases h), fun h => absurd h no⟩ | simp [no], Below.refl _ _⟩
end Go.Proofs.YtapmbankpbiglaaGreatDoor
