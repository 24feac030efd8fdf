/- The statement AuditLooks, proved for every input that its row reads: part 19 of 54. -/
import Derived.Test.YtkpldjiloinaoaaDoorPackAuditLooks9
import Derived.Test.YtkpldjiloinaoaaDoorPackAuditLooks17
import Derived.Lib.SliceRun
import Derived.Test.YtkpldjiloinaoaaDoorPackAuditLooks18
import Derived.MapKept
/- Writes: how they lie; slices.Clone of them. -/
namespace Go.Proofs
open Go.Shelf
end Go.Proofs
namespace Go.Proofs.YtkpldjiloinaoaaDoor
open Go Go.RowKit
set_option linter.unusedVariables false
set_option maxRecDepth 1000000

/-- a write -/
structure Wr where
  rep : Int
  n : Int
  time : Int
  doc : ByteArray
  field : Int
  text : ByteArray
def Wr.cells (x : Wr) : List Value := [.int .i64 x.rep, .int .i64 x.n, .int .i64 x.time, .string x.doc, .int .i64 x.field, .string x.text]
theorem Wr.cells_len (x : Wr) : x.cells.length = 6 := rfl
theorem Wr.cells_one (x : Wr) : ∀ u ∈ x.cells, u.oneCell' = true := by
  intro u hu
  simp [Wr.cells] at hu
  rcases hu with rfl | rfl | rfl | rfl | rfl | rfl <;> rfl
def Wr.dot (x : Wr) : Dt := (x.rep, x.n)
def wcl (L : List Wr) : List Value := L.flatMap Wr.cells
theorem wcl_length (L : List Wr) : (wcl L).length = L.length * 6 := flat_len Wr.cells_len L
theorem wcl_append (a b : List Wr) : wcl (a ++ b) = wcl a ++ wcl b := by simp [wcl]
theorem wcl_one (L : List Wr) : ∀ u ∈ wcl L, u.oneCell' = true := by
  intro u hu
  obtain ⟨x, _, h⟩ := List.mem_flatMap.1 hu
  exact x.cells_one u h
theorem wcl_take : ∀ (L : List Wr) (k : Nat), wcl (L.take k) = (wcl L).take (k * 6)
  | [], k => by simp [wcl]
  | x :: L, 0 => by simp [wcl]
  | x :: L, k + 1 => by
    have h := wcl_take L k
    rw [List.take_succ_cons, show wcl (x :: L.take k) = x.cells ++ wcl (L.take k) from rfl, show wcl (x :: L) = x.cells ++ wcl L from rfl, h, show (k + 1) * 6 = x.cells.length + k * 6 by rw [Wr.cells_len]; omega, List.take_length_add_append]
/-- writes that lie at p -/
structure WrsAt (w : World) (p : Option Addr) (L : List Wr) : Prop where
  row : L ≠ [] → ∃ b o, p = some ⟨b, o, none⟩ ∧ w.rangeAt b o (wcl L)
  none : p = none → L = []
theorem WrsAt.below {w w' : World} {p : Option Addr} {L : List Wr} (h : WrsAt w p L) (hb : Below w.heap.size w w') : WrsAt w' p L :=
  ⟨fun hn => by
    obtain ⟨b, o, rfl, hr⟩ := h.row hn
    exact ⟨b, o, rfl, range_below hr hb⟩, h.none⟩
theorem WrsAt.at {w : World} {p : Option Addr} {L : List Wr} (h : WrsAt w p L) {i : Nat} (hi : i < L.length) :
    ∃ b o, p = some ⟨b, o, Option.none⟩ ∧ b < w.heap.size ∧ w.rangeAt b (o + i * 6) L[i].cells := by
  obtain ⟨b, o, rfl, hr⟩ := h.row (by intro e; subst e; simp at hi)
  have hr2 : w.rangeAt b (o + i * 6) L[i].cells := fun j u hu => by
    have hj : j < 6 := (List.getElem?_eq_some_iff.1 hu).1
    have := hr (i * 6 + j) u (by rw [show wcl L = L.flatMap Wr.cells from rfl, flat_get Wr.cells_len L i hi j hj]; exact hu)
    rw [Nat.add_assoc]; exact this
  exact ⟨b, o, rfl, World.block_lt_of_cell? w _ (hr2 0 _ rfl), hr2⟩
theorem wr_cells {w : World} {b o : Nat} {x : Wr} (h : w.rangeAt b o x.cells) :
    w.cell? ⟨b, o, none⟩ = some (.int .i64 x.rep) ∧ w.cell? ⟨b, o + 1, none⟩ = some (.int .i64 x.n) ∧ w.cell? ⟨b, o + 2, none⟩ = some (.int .i64 x.time) ∧ w.cell? ⟨b, o + 3, none⟩ = some (.string x.doc) ∧ w.cell? ⟨b, o + 4, none⟩ = some (.int .i64 x.field) ∧ w.cell? ⟨b, o + 5, none⟩ = some (.string x.text) :=
  ⟨h 0 _ rfl, h 1 _ rfl, h 2 _ rfl, h 3 _ rfl, h 4 _ rfl, h 5 _ rfl⟩
theorem infoWr : (Tryd.prog.info? 44).map (fun i => (i.zero, i.size, i.bytes)) = some (some (.agg #[.int .i64 0, .int .i64 0, .int .i64 0, .string ByteArray.empty, .int .i64 0, .string ByteArray.empty]), 6, 64) := by kernel_rfl
theorem sizeWr (x : Wr) : (Tryd.prog.info? 44).map (·.size) = some x.cells.length := by rw [Wr.cells_len]; kernel_rfl
/-- a row of writes of a call's own lies where it lies -/
theorem own_wat {w : World} {B : Nat} {v : Value} {L : List Wr} (hr : w.ownsRow B 44 6 v L.length (wcl L)) : ∃ p c, v = .slice p L.length c ∧ L.length ≤ c ∧ WrsAt w p L ∧ (∀ a, p = some a → ∃ b o, a = ⟨b, o, Option.none⟩) := by
  rcases hr.2 with ⟨rfl, h0⟩ | ⟨g, cap, cur, rfl, hB, hg, hc, hm, hs, ht⟩
  · have : L = [] := List.eq_nil_of_length_eq_zero h0
    subst this
    exact ⟨none, 0, rfl, Nat.le_refl _, ⟨fun hn => absurd rfl hn, fun _ => rfl⟩, fun a ha => by cases ha⟩
  · refine ⟨some ⟨g, 0, none⟩, cap, rfl, hc, ⟨fun _ => ⟨g, 0, rfl, fun j u hu => ?_⟩, fun e => by cases e⟩, fun a ha => by obtain rfl := Option.some.inj ha; exact ⟨g, 0, rfl⟩⟩
    have hj : j < L.length * 6 := by rw [← wcl_length]; exact (List.getElem?_eq_some_iff.1 hu).1
    have := hr.cellAt j hj
    rw [Nat.zero_add, this]; exact hu
/-- the first ones of a row of one's own -/
theorem own_front {w : World} {B n c g k i : Nat} {e : TypeId} {xs : List Value} (h : w.ownsRow B e k (.slice (some ⟨g, 0, none⟩) n c) n xs) (hi : i ≤ n) : w.ownsRow B e k (.slice (some ⟨g, 0, none⟩) i c) i (xs.take (i * k)) := by
  have hx := h.1
  rcases h.2 with ⟨h1, _⟩ | ⟨g', cap, cur, h1, hB, hg, hc, hm, hs, ht⟩
  · cases h1
  · injection h1 with h1 _ h3
    injection h1 with h1
    injection h1 with h1 _ _
    subst h1; subst h3
    have hk : i * k ≤ n * k := Nat.mul_le_mul_right k hi
    refine ⟨by rw [List.length_take, hx]; omega, .inr ⟨g, c, cur, rfl, hB, hg, Nat.le_trans hi hc, hm, hs, ?_⟩⟩
    rw [← ht, List.take_take, Nat.min_eq_left hk]
set_option maxRecDepth 1000000

/-- a closure that tells of writes, one by one, in worlds that meet S -/
structure TellW (F : FuncId) (caps : Array Value) (goes : Wr → Bool) (B : Nat) (S : World → Prop) : Prop where
  enter : ∀ args w, (callFunc F args).run Tryd.prog w = .ok (.enter F args) w
  tell : ∀ (x : Wr) (w : World), S w → Calls Tryd.prog F (#[.agg x.cells.toArray] ++ caps) w (RetBool w (goes x))
  keep : ∀ w w', S w → Below B w w' → S w'
/-- the first that goes -/
def IdxW (w : World) (goes : Wr → Bool) (L : List Wr) (e : Ending) (w' : World) : Prop :=
  ∃ i : Int, e = .returned (.int .i64 i) ∧ ((i = -1 ∧ ∀ x ∈ L, goes x = false) ∨ (∃ k : Nat, i = k ∧ k < L.length ∧ (∀ y, L[k]? = some y → goes y = true) ∧ ∀ x ∈ L.take k, goes x = false)) ∧ Below w.heap.size w w'
/-! Some cells of a row written at once -/
def setLL (xs : List Value) : Nat → List Value → List Value
  | _, [] => xs
  | o, v :: r => setLL (xs.set o v) (o + 1) r
theorem setLL_length : ∀ (vs : List Value) (xs : List Value) (o : Nat), (setLL xs o vs).length = xs.length
  | [], _, _ => rfl
  | v :: r, xs, o => by rw [setLL, setLL_length r]; simp
theorem setLL_get : ∀ (vs : List Value) (xs : List Value) (o : Nat) (hle : o + vs.length ≤ xs.length) (i : Nat), (setLL xs o vs)[i]? = if o ≤ i ∧ i < o + vs.length then vs[i - o]? else xs[i]?
  | [], xs, o, _, i => by
    have : ¬ (o ≤ i ∧ i < o + ([] : List Value).length) := by simp
    rw [if_neg this]; rfl
  | v :: r, xs, o, hle, i => by
    rw [List.length_cons] at hle ⊢
    rw [setLL, setLL_get r _ _ (by simp; omega)]
    by_cases h1 : o + 1 ≤ i ∧ i < o + 1 + r.length
    · rw [if_pos h1, if_pos (by omega), show i - o = (i - (o + 1)) + 1 from by omega, List.getElem?_cons_succ]
    · rw [if_neg h1]
      by_cases h2 : o = i
      · subst h2
        rw [if_pos (by omega), List.getElem?_set_self (by omega), Nat.sub_self]; rfl
      · rw [if_neg (by omega), List.getElem?_set_ne h2]
theorem own_setCells {B : Nat} {e : TypeId} {k n : Nat} {g c : Nat} : ∀ (vs : List Value) (w : World) (xs : List Value) (o : Nat), w.ownsRow B e k (.slice (some ⟨g, 0, none⟩) n c) n xs →
    (w.setCells g o vs).ownsRow B e k (.slice (some ⟨g, 0, none⟩) n c) n (setLL xs o vs)
  | [], _, _, _, h => h
  | v :: r, w, xs, o, h => by
    rw [World.setCells, setLL]
    exact own_setCells r _ _ _ (h.stored o v).1
theorem wcl_setLL (M : List Wr) (a : Nat) (ha : a < M.length) (y : Wr) : setLL (wcl M) (a * 6) y.cells = wcl (M.set a y) := by
  apply List.ext_getElem?
  intro i
  have hl := wcl_length M
  rw [setLL_get _ _ _ (by rw [Wr.cells_len, hl]; omega)]
  by_cases hi : i < M.length * 6
  · have h2 := flat_get Wr.cells_len (M.set a y) (i / 6) (by simp; omega) (i % 6) (by omega)
    have h1 := flat_get Wr.cells_len M (i / 6) (by omega) (i % 6) (by omega)
    rw [show i / 6 * 6 + i % 6 = i by omega] at h1 h2
    change (wcl M)[i]? = _ at h1
    change (wcl (M.set a y))[i]? = _ at h2
    rw [h1, h2, Wr.cells_len]
    by_cases he : a = i / 6
    · subst he
      rw [if_pos (by omega)]
      simp only [List.getElem_set_self]
      rw [show i - i / 6 * 6 = i % 6 by omega]
    · rw [if_neg (by omega), List.getElem_set_ne he]
  · rw [if_neg (by rw [Wr.cells_len]; omega), List.getElem?_eq_none (by omega), List.getElem?_eq_none (by rw [wcl_length]; simp; omega)]
theorem zeroWr : ∀ w : World, (zeroValue 44).run Tryd.prog w = .ok (.agg #[.int .i64 0, .int .i64 0, .int .i64 0, .string ByteArray.empty, .int .i64 0, .string ByteArray.empty]) w := fun w => by kernel_rfl
theorem clear_anyW (w : World) (ty : TypeId) (b o n c : Nat) (hn : 0 < n) (z : Value) (hz : ∀ w : World, (zeroValue 44).run Tryd.prog w = .ok z w) (hl : (Builtin.zeroCells z.cells n).toList.length = n * 6) (h1 : ∀ u ∈ (Builtin.zeroCells z.cells n).toList, u.oneCell' = true)
    (hc : ∀ j, j < n * 6 → (w.cell? ⟨b, o + j, none⟩).isSome = true) (hf : ∀ j, j < n * 6 → w.frozen? ⟨b, o + j, none⟩ = false) :
    (Builtin.clear_ #[24] ty #[.slice (some ⟨b, o, none⟩) n c]).run Tryd.prog w = .ok (.tuple #[]) (w.setCells b o (Builtin.zeroCells z.cells n).toList) := by
  have hst := run_storeCells_cells (P := Tryd.prog) b o _ 0 w (by rw [hl]; simpa using hc) (by rw [hl]; simpa using hf) h1
  simp only [Nat.add_zero] at hst
  obtain ⟨m, rfl⟩ : ∃ m, n = m + 1 := ⟨n - 1, by omega⟩
  have hu : Tryd.prog.underlying 24 = some (.slice 44) := Tryd.underlying24
  simp [Builtin.clear_, run_underlying hu, hz, hst]
theorem clearW (w : World) (ty : TypeId) (b o n c : Nat) (hn : 0 < n) (hc : ∀ j, j < n * 6 → (w.cell? ⟨b, o + j, none⟩).isSome = true) (hf : ∀ j, j < n * 6 → w.frozen? ⟨b, o + j, none⟩ = false) :
    ∃ vs : List Value, vs.length = n * 6 ∧ (Builtin.clear_ #[24] ty #[.slice (some ⟨b, o, none⟩) n c]).run Tryd.prog w = .ok (.tuple #[]) (w.setCells b o vs) := by
  refine ⟨(Builtin.zeroCells (Value.cells (.agg #[.int .i64 0, .int .i64 0, .int .i64 0, .string ByteArray.empty, .int .i64 0, .string ByteArray.empty])) n).toList, by simp [Builtin.zeroCells, Value.cells], ?_⟩
  have hl : (Builtin.zeroCells (Value.cells (.agg #[.int .i64 0, .int .i64 0, .int .i64 0, .string ByteArray.empty, .int .i64 0, .string ByteArray.empty])) n).toList.length = n * 6 := by simp [Builtin.zeroCells, Value.cells]
  have h1 : ∀ u ∈ (Builtin.zeroCells (Value.cells (.agg #[.int .i64 0, .int .i64 0, .int .i64 0, .string ByteArray.empty, .int .i64 0, .string ByteArray.empty])) n).toList, u.oneCell' = true := by
    intro u hu
    simp only [Builtin.zeroCells, Array.toList_map, List.mem_map] at hu
    obtain ⟨i, _, rfl⟩ := hu
    have hi : i % 6 < 6 := Nat.mod_lt _ (by decide)
    change Value.oneCell' ((Value.cells (.agg #[.int .i64 0, .int .i64 0, .int .i64 0, .string ByteArray.empty, .int .i64 0, .string ByteArray.empty]))[i % 6]!) = true
    generalize i % 6 = j at hi
    match j, hi with
    | 0, _ => rfl
    | 1, _ => rfl
    | 2, _ => rfl
    | 3, _ => rfl
    | 4, _ => rfl
    | 5, _ => rfl
  exact clear_anyW w ty b o n c hn _ zeroWr hl h1 hc hf
section
variable {ops : Array Oper} {rest : List Oper} {o : Oper} {a : Act} {Q : Exit → Act → World → Prop}
/-- a write written over another of a row -/
theorem wpList_wset {w : World} (hg : o.guard = none) (x y : Operand) (ho : o.op = .store 44 x y) (g j : Nat) (hx : a.eval x = .pointer (some ⟨g, j * 6, none⟩)) (X : Wr) (hy : a.eval y = .agg X.cells.toArray)
    (B n c : Nat) (M : List Wr) (hO : w.ownsRow B 44 6 (.slice (some ⟨g, 0, none⟩) n c) n (wcl M)) (hM : M.length = n) (hj : j < n)
    (h : ∀ w', w'.ownsRow B 44 6 (.slice (some ⟨g, 0, none⟩) n c) n (wcl (M.set j X)) → w.grownBy w' (some g) → wpList Tryd.prog ops Q rest (a.put o.dst undef) w') : wpList Tryd.prog ops Q (o :: rest) a w := by
  have ht : w.there g (j * 6) 6 := fun i hi => by
    have hj2 : j * 6 + i < n * 6 := by omega
    refine ⟨?_, hO.frozenAt (j * 6 + i)⟩
    rw [hO.cellAt (j * 6 + i) hj2, List.getElem?_eq_getElem (by rw [wcl_length, hM]; exact hj2)]
    rfl
  have h1 := own_setCells X.cells w _ (j * 6) hO
  rw [wcl_setLL M j (by omega)] at h1
  exact wpList_store_mid hg 44 x y ho g (j * 6) X.cells.toArray hx hy ht (by rw [List.size_toArray]; exact sizeWr X) (Array.all_eq_true_iff_forall_mem.2 (fun u hu => X.cells_one u (by simpa using hu))) (h _ h1 (grown_setCells g _ _ _))
end
/-- what is left -/
def DelW (B : Nat) (goes : Wr → Bool) (K : List Wr) (w : World) (e : Ending) (w' : World) : Prop :=
  ∃ v K', e = .returned v ∧ w'.ownsRow B 44 6 v K'.length (wcl K') ∧ K' = K.filter (fun x => !goes x) ∧ Below B w w'
end Go.Proofs.YtkpldjiloinaoaaDoor
/- docs: without; which dots an event takes away. -/
namespace Go.Proofs.YtkpldjiloinaoaaDoor
open Go Go.RowKit
set_option linter.unusedVariables false
set_option maxRecDepth 1000000

/-- what is left, in new memory -/
def LeftW (w : World) (K' : List Wr) (e : Ending) (w' : World) : Prop := ∃ v, e = .returned v ∧ w'.ownsRow w.heap.size 44 6 v K'.length (wcl K') ∧ Below w.heap.size w w'
/-- an event in a variable of its own, its dots there, below B -/
def EvIn (G : Nat) (x : EvP) (w : World) : Prop := w.rangeAt G 0 x.cells ∧ x.Ok w
def goneW (x : EvP) (y : Wr) : Bool := decide (y.dot ∈ x.e.gone)
end Go.Proofs.YtkpldjiloinaoaaDoor
/- A set of dots in a map of the call's own. -/
namespace Go.Proofs.YtkpldjiloinaoaaDoor
open Go Go.RowKit
set_option linter.unusedVariables false
set_option maxRecDepth 1000000

def dkey (d : Dt) : Value := .agg (dcs d.1 d.2)
def dents (l : List (Dt × Nat)) : List MapEntry := l.map fun e => { key := dkey e.1, val := .agg #[], born := e.2 }
theorem runEqK (x y : Dt) (w : World) : (Op.equal 37 (dkey x) (dkey y)).run Tryd.prog w = .ok (eqDt x y) w := runEqDt x y w
theorem ask_absent (d : Dt) (w : World) : ∀ (l : List (Dt × Nat)) (i : Nat), (∀ e ∈ l, e.1 ≠ d) → (Instr.findAsking 37 (dkey d) (dents l) i).run Tryd.prog w = .ok none w
  | [], i, _ => rfl
  | e :: l, i, h => by
    show (Instr.findAsking 37 (dkey d) ({ key := dkey e.1, val := .agg #[], born := e.2 } :: dents l) i).run Tryd.prog w = _
    unfold Instr.findAsking
    rw [Sem.run_bind, runEqK, eqDt_no (fun q => h e (by simp) q.symm)]
    exact ask_absent d w l (i + 1) fun x hx => h x (by simp [hx])
theorem ask_here (d : Dt) (b : Nat) (l2 : List (Dt × Nat)) (w : World) : ∀ (l1 : List (Dt × Nat)) (i : Nat), (∀ e ∈ l1, e.1 ≠ d) → (Instr.findAsking 37 (dkey d) (dents (l1 ++ (d, b) :: l2)) i).run Tryd.prog w = .ok (some (i + l1.length, .agg #[])) w
  | [], i, _ => by
    show (Instr.findAsking 37 (dkey d) ({ key := dkey d, val := .agg #[], born := b } :: dents l2) i).run Tryd.prog w = _
    unfold Instr.findAsking
    rw [Sem.run_bind, runEqK, (eqDt_iff d d).2 rfl]
    rfl
  | e :: l1, i, h => by
    show (Instr.findAsking 37 (dkey d) ({ key := dkey e.1, val := .agg #[], born := e.2 } :: dents (l1 ++ (d, b) :: l2)) i).run Tryd.prog w = _
    unfold Instr.findAsking
    rw [Sem.run_bind, runEqK, eqDt_no (fun q => h e (by simp) q.symm)]
    have := ask_here d b l2 w l1 (i + 1) fun x hx => h x (by simp [hx])
    simp only [Result.andThen_ok, Bool.false_eq_true, if_false, this, List.length_cons]
    congr 3
    omega
theorem key_absent (d : Dt) (l : List (Dt × Nat)) (h : ∀ e ∈ l, e.1 ≠ d) (w : World) : (Instr.findKey 37 (dkey d) (dents l)).run Tryd.prog w = .ok none w := by
  unfold Instr.findKey
  rw [Sem.run_bind, run_underlying Tryd.underlying37]
  cases l with
  | nil => rfl
  | cons e l => exact ask_absent d w (e :: l) 0 h
theorem key_here (d : Dt) (b : Nat) (l1 l2 : List (Dt × Nat)) (h : ∀ e ∈ l1, e.1 ≠ d) (w : World) : (Instr.findKey 37 (dkey d) (dents (l1 ++ (d, b) :: l2))).run Tryd.prog w = .ok (some (l1.length, .agg #[])) w := by
  unfold Instr.findKey
  rw [Sem.run_bind, run_underlying Tryd.underlying37]
  have h1 := ask_here d b l2 w l1 0 h
  rw [Nat.zero_add] at h1
  cases l1 with
  | nil => exact h1
  | cons e l => exact h1
theorem check_dot (e : Bool) (d : Dt) (w : World) : (Instr.checkKey e 10000 37 (dkey d)).run Tryd.prog w = .ok () w := by kernel_rfl
theorem stays_dot (d : Dt) (w : World) : (Instr.keyThatStays (dkey d) (dkey d)).run Tryd.prog w = .ok (dkey d) w := by
  have h : Instr.sameBits 10000 (dkey d) (dkey d) = true := by simp [dkey, dcs, Instr.sameBits]
  unfold Instr.keyThatStays
  rw [if_pos h]; rfl
/-- the map at r has just the dots of S -/
def DSet (w : World) (r : Nat) (S : List Dt) : Prop := ∃ (l : List (Dt × Nat)) (c : Nat), w.heap[r]? = some (.map (dents l).toArray c) ∧ ∀ d, d ∈ l.map (·.1) ↔ d ∈ S
theorem DSet.lt {w : World} {r : Nat} {S : List Dt} (h : DSet w r S) : r < w.heap.size := by obtain ⟨l, c, h, _⟩ := h; exact (Array.getElem?_eq_some_iff.1 h).1
theorem DSet.kept {w w' : World} {r : Nat} {S : List Dt} (h : DSet w r S) {row : Option Nat} (hg : w.grownBy w' row) (hne : some r ≠ row) : DSet w' r S := by
  have hlt := h.lt
  obtain ⟨l, c, h, hm⟩ := h
  exact ⟨l, c, (hg.block r hlt hne).trans h, hm⟩
theorem DSet.later {w w' : World} {r : Nat} {S : List Dt} (h : DSet w r S) (hb : Below w.heap.size w w') : DSet w' r S := by
  have hlt := h.lt
  obtain ⟨l, c, h, hm⟩ := h
  exact ⟨l, c, (hb.block r hlt).trans h, hm⟩
theorem split_at (d : Dt) : ∀ (l : List (Dt × Nat)), d ∈ l.map (·.1) → ∃ l1 b l2, l = l1 ++ (d, b) :: l2 ∧ ∀ e ∈ l1, e.1 ≠ d
  | [], h => by simp at h
  | e :: l, h => by
    by_cases he : e.1 = d
    · exact ⟨[], e.2, l, by rw [← he]; rfl, fun x hx => by simp at hx⟩
    · obtain ⟨l1, b, l2, h1, h2⟩ := split_at d l (by
        rw [List.map_cons] at h
        rcases List.mem_cons.1 h with h | h
        · exact absurd h.symm he
        · exact h)
      exact ⟨e :: l1, b, l2, by rw [h1]; rfl, fun x hx => by
        rcases List.mem_cons.1 hx with rfl | hx
        · exact he
        · exact h2 x hx⟩
theorem absent_of {d : Dt} {l : List (Dt × Nat)} (h : d ∉ l.map (·.1)) : ∀ e ∈ l, e.1 ≠ d := fun e he q => h (List.mem_map.2 ⟨e, he, q⟩)
theorem run_dlook {w : World} {r : Nat} {S : List Dt} (h : DSet w r S) (d : Dt) : (Instr.lookup 65 (.map (some r)) (dkey d) true).run Tryd.prog w = .ok (.tuple #[.agg #[], .bool (decide (d ∈ S))]) w := by
  obtain ⟨l, c, hb, hm⟩ := h
  have hg := MapKept.run_getObj_map (P := Tryd.prog) hb
  have hz : (zeroValue 69).run Tryd.prog w = .ok (.agg #[]) w := by kernel_rfl
  unfold Instr.lookup
  by_cases hd : d ∈ S
  · obtain ⟨l1, b, l2, rfl, hl⟩ := split_at d l ((hm d).2 hd)
    have hk := key_here d b l1 l2 hl w
    rw [decide_eq_true hd]
    simp only [Sem.run_bind, run_underlying Tryd.underlying65, Result.andThen_ok, hg, Sem.run_pure, check_dot, hk]
    rfl
  · have hk := key_absent d l (absent_of fun q => hd ((hm d).1 q)) w
    rw [decide_eq_false hd]
    simp only [Sem.run_bind, run_underlying Tryd.underlying65, Result.andThen_ok, hg, Sem.run_pure, check_dot, hk, hz]
    rfl
theorem run_dput {w : World} {r : Nat} {S : List Dt} (h : DSet w r S) (d : Dt) : ∃ w', (Instr.mapUpdate 65 (.map (some r)) (dkey d) (.agg #[])).run Tryd.prog w = .ok () w' ∧ DSet w' r (S ++ [d]) ∧ w.grownBy w' (some r) := by
  obtain ⟨l, c, hb, hm⟩ := h
  have hg := MapKept.run_getObj_map (P := Tryd.prog) hb
  have hlt := (Array.getElem?_eq_some_iff.1 hb).1
  have to : ∀ o : Obj, ({ w with heap := w.heap.setIfInBounds r o } : World).heap[r]? = some o := fun o => by
    show (w.heap.setIfInBounds r o)[r]? = some o
    rw [Array.getElem?_setIfInBounds, if_pos rfl, if_pos hlt]
  have gr : ∀ o : Obj, w.grownBy ({ w with heap := w.heap.setIfInBounds r o } : World) (some r) := fun o => ⟨rfl, rfl, rfl, by simp, fun i hi hne => by
    show (w.heap.setIfInBounds r o)[i]? = w.heap[i]?
    rw [Array.getElem?_setIfInBounds, if_neg (fun e => hne (by rw [e]))]⟩
  by_cases hd : d ∈ l.map (·.1)
  · obtain ⟨l1, b, l2, rfl, hl⟩ := split_at d l hd
    have hk := key_here d b l1 l2 hl w
    have hs := MapKept.run_setObj_map (P := Tryd.prog) (.map (dents (l1 ++ (d, b) :: l2)).toArray c) hb
    have he : ((dents (l1 ++ (d, b) :: l2)).toArray.modify l1.length fun e => { e with key := dkey d, val := .agg #[] }) = (dents (l1 ++ (d, b) :: l2)).toArray := by
      apply Array.ext_getElem?
      intro j
      rw [Array.getElem?_modify]
      by_cases h1 : l1.length = j
      · subst h1; simp [dents]
      · rw [if_neg h1]
    have hel : (((dents (l1 ++ (d, b) :: l2)).toArray[l1.length]?).map (·.key)).getD (dkey d) = dkey d := by simp [dents]
    refine ⟨_, ?_, ⟨_, c, to (.map (dents (l1 ++ (d, b) :: l2)).toArray c), fun x => ?_⟩, gr _⟩
    · unfold Instr.mapUpdate
      simp only [Sem.run_bind, run_underlying Tryd.underlying65, Result.andThen_ok, hg, check_dot, hk, hel, stays_dot, he]
      exact hs
    · rw [hm x, List.mem_append, List.mem_singleton]
      constructor
      · exact .inl
      · rintro (h | rfl)
        · exact h
        · exact (hm x).1 hd
  · have hk := key_absent d l (absent_of hd) w
    have hs := MapKept.run_setObj_map (P := Tryd.prog) (.map (dents (l ++ [(d, c)])).toArray (c + 1)) hb
    have he : (dents l).toArray.push { key := dkey d, val := .agg #[], born := c } = (dents (l ++ [(d, c)])).toArray := by simp [dents]
    refine ⟨_, ?_, ⟨_, c + 1, to (.map (dents (l ++ [(d, c)])).toArray (c + 1)), fun x => ?_⟩, gr _⟩
    · unfold Instr.mapUpdate
      simp only [Sem.run_bind, run_underlying Tryd.underlying65, Result.andThen_ok, hg, check_dot, hk, he]
      exact hs
    · rw [List.map_append, List.mem_append, List.mem_append, hm x]
      simp
theorem dset_new (w : World) : DSet (w.alloc (.map #[] 0)) w.heap.size [] := ⟨[], 0, heap_alloc_new w _, fun d => by simp⟩
end Go.Proofs.YtkpldjiloinaoaaDoor
