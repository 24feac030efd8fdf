/- The statement WireTold, proved for every input that its row reads: part 11 of 54. -/
import Derived.Test.YtgcbeeokddaihaaDoorPackWireTold8
import Derived.Test.YtgcbeeokddaihaaDoorPackWireTold10
import Derived.Lib.SliceRun
/- Writes: how they lie; slices.Clone of them. -/
namespace Go.Proofs
open Go.Shelf
end Go.Proofs
namespace Go.Proofs.YtgcbeeokddaihaaDoor
open Go Go.RowKit
set_option linter.unusedVariables false
set_option maxRecDepth 1000000

/-- a write -/
structure Wr where
  rep : Int
  n : Int
  time : Int
  doc : ByteArray
  field : Int
  text : ByteArray
def Wr.cells (x : Wr) : List Value := [.int .i64 x.rep, .int .i64 x.n, .int .i64 x.time, .string x.doc, .int .i64 x.field, .string x.text]
theorem Wr.cells_len (x : Wr) : x.cells.length = 6 := rfl
theorem Wr.cells_one (x : Wr) : ∀ u ∈ x.cells, u.oneCell' = true := by
  intro u hu
  simp [Wr.cells] at hu
  rcases hu with rfl | rfl | rfl | rfl | rfl | rfl <;> rfl
def Wr.dot (x : Wr) : Dt := (x.rep, x.n)
def wcl (L : List Wr) : List Value := L.flatMap Wr.cells
theorem wcl_length (L : List Wr) : (wcl L).length = L.length * 6 := flat_len Wr.cells_len L
theorem wcl_append (a b : List Wr) : wcl (a ++ b) = wcl a ++ wcl b := by simp [wcl]
theorem wcl_one (L : List Wr) : ∀ u ∈ wcl L, u.oneCell' = true := by
  intro u hu
  obtain ⟨x, _, h⟩ := List.mem_flatMap.1 hu
  exact x.cells_one u h
theorem wcl_take : ∀ (L : List Wr) (k : Nat), wcl (L.take k) = (wcl L).take (k * 6)
  | [], k => by simp [wcl]
  | x :: L, 0 => by simp [wcl]
  | x :: L, k + 1 => by
    have h := wcl_take L k
    rw [List.take_succ_cons, show wcl (x :: L.take k) = x.cells ++ wcl (L.take k) from rfl, show wcl (x :: L) = x.cells ++ wcl L from rfl, h, show (k + 1) * 6 = x.cells.length + k * 6 by rw [Wr.cells_len]; omega, List.take_length_add_append]
/-- writes that lie at p -/
structure WrsAt (w : World) (p : Option Addr) (L : List Wr) : Prop where
  row : L ≠ [] → ∃ b o, p = some ⟨b, o, none⟩ ∧ w.rangeAt b o (wcl L)
  none : p = none → L = []
theorem WrsAt.below {w w' : World} {p : Option Addr} {L : List Wr} (h : WrsAt w p L) (hb : Below w.heap.size w w') : WrsAt w' p L :=
  ⟨fun hn => by
    obtain ⟨b, o, rfl, hr⟩ := h.row hn
    exact ⟨b, o, rfl, range_below hr hb⟩, h.none⟩
theorem WrsAt.at {w : World} {p : Option Addr} {L : List Wr} (h : WrsAt w p L) {i : Nat} (hi : i < L.length) :
    ∃ b o, p = some ⟨b, o, Option.none⟩ ∧ b < w.heap.size ∧ w.rangeAt b (o + i * 6) L[i].cells := by
  obtain ⟨b, o, rfl, hr⟩ := h.row (by intro e; subst e; simp at hi)
  have hr2 : w.rangeAt b (o + i * 6) L[i].cells := fun j u hu => by
    have hj : j < 6 := (List.getElem?_eq_some_iff.1 hu).1
    have := hr (i * 6 + j) u (by rw [show wcl L = L.flatMap Wr.cells from rfl, flat_get Wr.cells_len L i hi j hj]; exact hu)
    rw [Nat.add_assoc]; exact this
  exact ⟨b, o, rfl, World.block_lt_of_cell? w _ (hr2 0 _ rfl), hr2⟩
theorem wr_cells {w : World} {b o : Nat} {x : Wr} (h : w.rangeAt b o x.cells) :
    w.cell? ⟨b, o, none⟩ = some (.int .i64 x.rep) ∧ w.cell? ⟨b, o + 1, none⟩ = some (.int .i64 x.n) ∧ w.cell? ⟨b, o + 2, none⟩ = some (.int .i64 x.time) ∧ w.cell? ⟨b, o + 3, none⟩ = some (.string x.doc) ∧ w.cell? ⟨b, o + 4, none⟩ = some (.int .i64 x.field) ∧ w.cell? ⟨b, o + 5, none⟩ = some (.string x.text) :=
  ⟨h 0 _ rfl, h 1 _ rfl, h 2 _ rfl, h 3 _ rfl, h 4 _ rfl, h 5 _ rfl⟩
theorem infoWr : (Tryd.prog.info? 57).map (fun i => (i.zero, i.size, i.bytes)) = some (some (.agg #[.int .i64 0, .int .i64 0, .int .i64 0, .string ByteArray.empty, .int .i64 0, .string ByteArray.empty]), 6, 64) := by kernel_rfl
theorem sizeWr (x : Wr) : (Tryd.prog.info? 57).map (·.size) = some x.cells.length := by rw [Wr.cells_len]; kernel_rfl
/-- a row of writes of a call's own lies where it lies -/
theorem own_wat {w : World} {B : Nat} {v : Value} {L : List Wr} (hr : w.ownsRow B 57 6 v L.length (wcl L)) : ∃ p c, v = .slice p L.length c ∧ L.length ≤ c ∧ WrsAt w p L ∧ (∀ a, p = some a → ∃ b o, a = ⟨b, o, Option.none⟩) := by
  rcases hr.2 with ⟨rfl, h0⟩ | ⟨g, cap, cur, rfl, hB, hg, hc, hm, hs, ht⟩
  · have : L = [] := List.eq_nil_of_length_eq_zero h0
    subst this
    exact ⟨none, 0, rfl, Nat.le_refl _, ⟨fun hn => absurd rfl hn, fun _ => rfl⟩, fun a ha => by cases ha⟩
  · refine ⟨some ⟨g, 0, none⟩, cap, rfl, hc, ⟨fun _ => ⟨g, 0, rfl, fun j u hu => ?_⟩, fun e => by cases e⟩, fun a ha => by obtain rfl := Option.some.inj ha; exact ⟨g, 0, rfl⟩⟩
    have hj : j < L.length * 6 := by rw [← wcl_length]; exact (List.getElem?_eq_some_iff.1 hu).1
    have := hr.cellAt j hj
    rw [Nat.zero_add, this]; exact hu
/-- the first ones of a row of one's own -/
theorem own_front {w : World} {B n c g k i : Nat} {e : TypeId} {xs : List Value} (h : w.ownsRow B e k (.slice (some ⟨g, 0, none⟩) n c) n xs) (hi : i ≤ n) : w.ownsRow B e k (.slice (some ⟨g, 0, none⟩) i c) i (xs.take (i * k)) := by
  have hx := h.1
  rcases h.2 with ⟨h1, _⟩ | ⟨g', cap, cur, h1, hB, hg, hc, hm, hs, ht⟩
  · cases h1
  · injection h1 with h1 _ h3
    injection h1 with h1
    injection h1 with h1 _ _
    subst h1; subst h3
    have hk : i * k ≤ n * k := Nat.mul_le_mul_right k hi
    refine ⟨by rw [List.length_take, hx]; omega, .inr ⟨g, c, cur, rfl, hB, hg, Nat.le_trans hi hc, hm, hs, ?_⟩⟩
    rw [← ht, List.take_take, Nat.min_eq_left hk]
set_option maxRecDepth 1000000

/-- a closure that tells of writes, one by one, in worlds that meet S -/
structure TellW (F : FuncId) (caps : Array Value) (goes : Wr → Bool) (B : Nat) (S : World → Prop) : Prop where
  enter : ∀ args w, (callFunc F args).run Tryd.prog w = .ok (.enter F args) w
  tell : ∀ (x : Wr) (w : World), S w → Calls Tryd.prog F (#[.agg x.cells.toArray] ++ caps) w (RetBool w (goes x))
  keep : ∀ w w', S w → Below B w w' → S w'
/-- the first that goes -/
def IdxW (w : World) (goes : Wr → Bool) (L : List Wr) (e : Ending) (w' : World) : Prop :=
  ∃ i : Int, e = .returned (.int .i64 i) ∧ ((i = -1 ∧ ∀ x ∈ L, goes x = false) ∨ (∃ k : Nat, i = k ∧ k < L.length ∧ (∀ y, L[k]? = some y → goes y = true) ∧ ∀ x ∈ L.take k, goes x = false)) ∧ Below w.heap.size w w'
/-! Some cells of a row written at once -/
def setLL (xs : List Value) : Nat → List Value → List Value
  | _, [] => xs
  | o, v :: r => setLL (xs.set o v) (o + 1) r
theorem setLL_length : ∀ (vs : List Value) (xs : List Value) (o : Nat), (setLL xs o vs).length = xs.length
  | [], _, _ => rfl
  | v :: r, xs, o => by rw [setLL, setLL_length r]; simp
theorem setLL_get : ∀ (vs : List Value) (xs : List Value) (o : Nat) (hle : o + vs.length ≤ xs.length) (i : Nat), (setLL xs o vs)[i]? = if o ≤ i ∧ i < o + vs.length then vs[i - o]? else xs[i]?
  | [], xs, o, _, i => by
    have : ¬ (o ≤ i ∧ i < o + ([] : List Value).length) := by simp
    rw [if_neg this]; rfl
  | v :: r, xs, o, hle, i => by
    rw [List.length_cons] at hle ⊢
    rw [setLL, setLL_get r _ _ (by simp; omega)]
    by_cases h1 : o + 1 ≤ i ∧ i < o + 1 + r.length
    · rw [if_pos h1, if_pos (by omega), show i - o = (i - (o + 1)) + 1 from by omega, List.getElem?_cons_succ]
    · rw [if_neg h1]
      by_cases h2 : o = i
      · subst h2
        rw [if_pos (by omega), List.getElem?_set_self (by omega), Nat.sub_self]; rfl
      · rw [if_neg (by omega), List.getElem?_set_ne h2]
theorem own_setCells {B : Nat} {e : TypeId} {k n : Nat} {g c : Nat} : ∀ (vs : List Value) (w : World) (xs : List Value) (o : Nat), w.ownsRow B e k (.slice (some ⟨g, 0, none⟩) n c) n xs →
    (w.setCells g o vs).ownsRow B e k (.slice (some ⟨g, 0, none⟩) n c) n (setLL xs o vs)
  | [], _, _, _, h => h
  | v :: r, w, xs, o, h => by
    rw [World.setCells, setLL]
    exact own_setCells r _ _ _ (h.stored o v).1
theorem wcl_setLL (M : List Wr) (a : Nat) (ha : a < M.length) (y : Wr) : setLL (wcl M) (a * 6) y.cells = wcl (M.set a y) := by
  apply List.ext_getElem?
  intro i
  have hl := wcl_length M
  rw [setLL_get _ _ _ (by rw [Wr.cells_len, hl]; omega)]
  by_cases hi : i < M.length * 6
  · have h2 := flat_get Wr.cells_len (M.set a y) (i / 6) (by simp; omega) (i % 6) (by omega)
    have h1 := flat_get Wr.cells_len M (i / 6) (by omega) (i % 6) (by omega)
    rw [show i / 6 * 6 + i % 6 = i by omega] at h1 h2
    change (wcl M)[i]? = _ at h1
    change (wcl (M.set a y))[i]? = _ at h2
    rw [h1, h2, Wr.cells_len]
    by_cases he : a = i / 6
    · subst he
      rw [if_pos (by omega)]
      simp only [List.getElem_set_self]
      rw [show i - i / 6 * 6 = i % 6 by omega]
    · rw [if_neg (by omega), List.getElem_set_ne he]
  · rw [if_neg (by rw [Wr.cells_len]; omega), List.getElem?_eq_none (by omega), List.getElem?_eq_none (by rw [wcl_length]; simp; omega)]
theorem zeroWr : ∀ w : World, (zeroValue 57).run Tryd.prog w = .ok (.agg #[.int .i64 0, .int .i64 0, .int .i64 0, .string ByteArray.empty, .int .i64 0, .string ByteArray.empty]) w := fun w => by kernel_rfl
theorem clear_anyW (w : World) (ty : TypeId) (b o n c : Nat) (hn : 0 < n) (z : Value) (hz : ∀ w : World, (zeroValue 57).run Tryd.prog w = .ok z w) (hl : (Builtin.zeroCells z.cells n).toList.length = n * 6) (h1 : ∀ u ∈ (Builtin.zeroCells z.cells n).toList, u.oneCell' = true)
    (hc : ∀ j, j < n * 6 → (w.cell? ⟨b, o + j, none⟩).isSome = true) (hf : ∀ j, j < n * 6 → w.frozen? ⟨b, o + j, none⟩ = false) :
    (Builtin.clear_ #[25] ty #[.slice (some ⟨b, o, none⟩) n c]).run Tryd.prog w = .ok (.tuple #[]) (w.setCells b o (Builtin.zeroCells z.cells n).toList) := by
  have hst := run_storeCells_cells (P := Tryd.prog) b o _ 0 w (by rw [hl]; simpa using hc) (by rw [hl]; simpa using hf) h1
  simp only [Nat.add_zero] at hst
  obtain ⟨m, rfl⟩ : ∃ m, n = m + 1 := ⟨n - 1, by omega⟩
  have hu : Tryd.prog.underlying 25 = some (.slice 57) := Tryd.underlying25
  simp [Builtin.clear_, run_underlying hu, hz, hst]
theorem clearW (w : World) (ty : TypeId) (b o n c : Nat) (hn : 0 < n) (hc : ∀ j, j < n * 6 → (w.cell? ⟨b, o + j, none⟩).isSome = true) (hf : ∀ j, j < n * 6 → w.frozen? ⟨b, o + j, none⟩ = false) :
    ∃ vs : List Value, vs.length = n * 6 ∧ (Builtin.clear_ #[25] ty #[.slice (some ⟨b, o, none⟩) n c]).run Tryd.prog w = .ok (.tuple #[]) (w.setCells b o vs) := by
  refine ⟨(Builtin.zeroCells (Value.cells (.agg #[.int .i64 0, .int .i64 0, .int .i64 0, .string ByteArray.empty, .int .i64 0, .string ByteArray.empty])) n).toList, by simp [Builtin.zeroCells, Value.cells], ?_⟩
  have hl : (Builtin.zeroCells (Value.cells (.agg #[.int .i64 0, .int .i64 0, .int .i64 0, .string ByteArray.empty, .int .i64 0, .string ByteArray.empty])) n).toList.length = n * 6 := by simp [Builtin.zeroCells, Value.cells]
  have h1 : ∀ u ∈ (Builtin.zeroCells (Value.cells (.agg #[.int .i64 0, .int .i64 0, .int .i64 0, .string ByteArray.empty, .int .i64 0, .string ByteArray.empty])) n).toList, u.oneCell' = true := by
    intro u hu
    simp only [Builtin.zeroCells, Array.toList_map, List.mem_map] at hu
    obtain ⟨i, _, rfl⟩ := hu
    have hi : i % 6 < 6 := Nat.mod_lt _ (by decide)
    change Value.oneCell' ((Value.cells (.agg #[.int .i64 0, .int .i64 0, .int .i64 0, .string ByteArray.empty, .int .i64 0, .string ByteArray.empty]))[i % 6]!) = true
    generalize i % 6 = j at hi
    match j, hi with
    | 0, _ => rfl
    | 1, _ => rfl
    | 2, _ => rfl
    | 3, _ => rfl
    | 4, _ => rfl
    | 5, _ => rfl
  exact clear_anyW w ty b o n c hn _ zeroWr hl h1 hc hf
section
variable {ops : Array Oper} {rest : List Oper} {o : Oper} {a : Act} {Q : Exit → Act → World → Prop}
/-- a write written over another of a row -/
theorem wpList_wset {w : World} (hg : o.guard = none) (x y : Operand) (ho : o.op = .store 57 x y) (g j : Nat) (hx : a.eval x = .pointer (some ⟨g, j * 6, none⟩)) (X : Wr) (hy : a.eval y = .agg X.cells.toArray)
    (B n c : Nat) (M : List Wr) (hO : w.ownsRow B 57 6 (.slice (some ⟨g, 0, none⟩) n c) n (wcl M)) (hM : M.length = n) (hj : j < n)
    (h : ∀ w', w'.ownsRow B 57 6 (.slice (some ⟨g, 0, none⟩) n c) n (wcl (M.set j X)) → w.grownBy w' (some g) → wpList Tryd.prog ops Q rest (a.put o.dst undef) w') : wpList Tryd.prog ops Q (o :: rest) a w := by
  have ht : w.there g (j * 6) 6 := fun i hi => by
    have hj2 : j * 6 + i < n * 6 := by omega
    refine ⟨?_, hO.frozenAt (j * 6 + i)⟩
    rw [hO.cellAt (j * 6 + i) hj2, List.getElem?_eq_getElem (by rw [wcl_length, hM]; exact hj2)]
    rfl
  have h1 := own_setCells X.cells w _ (j * 6) hO
  rw [wcl_setLL M j (by omega)] at h1
  exact wpList_store_mid hg 57 x y ho g (j * 6) X.cells.toArray hx hy ht (by rw [List.size_toArray]; exact sizeWr X) (Array.all_eq_true_iff_forall_mem.2 (fun u hu => X.cells_one u (by simpa using hu))) (h _ h1 (grown_setCells g _ _ _))
end
/-- what is left -/
def DelW (B : Nat) (goes : Wr → Bool) (K : List Wr) (w : World) (e : Ending) (w' : World) : Prop :=
  ∃ v K', e = .returned v ∧ w'.ownsRow B 57 6 v K'.length (wcl K') ∧ K' = K.filter (fun x => !goes x) ∧ Below B w w'
end Go.Proofs.YtgcbeeokddaihaaDoor
/- two events held against one another, and lists of them. -/
namespace Go.Proofs.YtgcbeeokddaihaaDoor
open Go Go.RowKit
set_option linter.unusedVariables false
set_option maxRecDepth 1000000

theorem exec_neqE {o : Oper} {a : Act} (t : TypeId) (x y : Operand) (ho : o.op = .binOp .neq 55 x y t) (X Y : Dt) (b : Bool) (hb : (!eqDt X Y) = b) (hx : a.eval x = .agg #[.int .i64 X.1, .int .i64 X.2]) (hy : a.eval y = .agg #[.int .i64 Y.1, .int .i64 Y.2]) (w : World) :
    (execOp a.eval o).run Tryd.prog w = .ok (.value (.bool b)) w := by
  subst hb
  have h := neqDt X Y w
  unfold execOp
  simp only [ho, hx, hy]
  refine run_value_of ?_
  rw [Sem.run_bind]
  have hg : (eqGuard .neq 55 x y (.agg #[.int .i64 X.1, .int .i64 X.2]) (.agg #[.int .i64 Y.1, .int .i64 Y.2])).run Tryd.prog w = .ok () w := by
    unfold eqGuard
    go_simp
  rw [hg]
  exact h
theorem drow_at {w : World} {p : Option Addr} {l : List Dt} (h : DRow w p l) {k : Nat} (hk : k < l.length) : ∃ b o, p = some ⟨b, o, Option.none⟩ ∧ w.rangeAt b (o + k * 2) [.int .i64 l[k].1, .int .i64 l[k].2] := by
  have hne : l ≠ [] := by intro e; subst e; simp at hk
  obtain ⟨b, o, rfl, hr⟩ := h hne
  obtain ⟨d1, d2⟩ := dcl_get l k hk
  have r1 := hr _ _ d1; have r2 := hr _ _ d2
  refine ⟨b, o, rfl, fun j u hu => ?_⟩
  match j, hu with
  | 0, hu => simp at hu; subst hu; simpa using r1
  | 1, hu => simp at hu; subst hu; rw [Nat.add_assoc]; exact r2
  | j + 2, hu => simp at hu
set_option maxHeartbeats 8000000 in
set_option maxRecDepth 1000000 in
theorem equalW_is (p1 p2 : Option Addr) (c1 c2 : Nat) (l1 l2 : List Dt) (w : World) (h1 : DRow w p1 l1) (h2 : DRow w p2 l2) (hn : l1.length ≤ 1000000) (hn2 : l2.length ≤ 1000000) :
    Calls Tryd.prog 57 #[.slice p1 l1.length c1, .slice p2 l2.length c2] w (RetBool w (decide (l1 = l2))) := by
  have H1 := Lib.hid h1; have H2 := Lib.hid h2; clear h1 h2
  by_cases hlen : l1.length = l2.length
  · obtain ⟨m, hm⟩ : ∃ m, l2.length = m := ⟨_, rfl⟩
    rw [hlen, hm]
    have hl1 : Hid (l1.length = m) := hlen.trans hm
    have hl2 : Hid (l2.length = m) := hm
    have hmb : m ≤ 1000000 := by omega
    obtain ⟨bb, hbb⟩ : ∃ bb, decide (l1 = l2) = bb := ⟨_, rfl⟩
    rw [hbb]
    have HB := Lib.hid hbb
    clear hlen hm hn hn2 hbb
    go_enter Tryd.func57, Tryd.ntmps57
    go_wp2
    go_loopw [13] (fun i wr => ∃ k : Nat, k ≤ m ∧ i = .int .i64 k ∧ (∀ t, t < k → l1[t]? = l2[t]?) ∧ Below w.heap.size w wr) (fun i _ => m - (intOf i).toNat)
    case atStart => exact ⟨0, Nat.zero_le _, rfl, fun t h => by omega, Below.refl _ _⟩
    case round =>
      obtain ⟨k, hk, rfl, hall, hb⟩ := hrel
      have BB := Lib.hid hb; have HA := Lib.hid hall
      clear hb hall
      by_cases hkl : k < m
      · have hk1 : k < l1.length := by have := hl1.out; omega
        have hk2 : k < l2.length := by have := hl2.out; omega
        have hr := to_drew BB.out
        have HR := Lib.hid hr
        obtain ⟨b1, o1, rfl, q1⟩ := drow_at (H1.out.below hr) hk1
        obtain ⟨b2, o2, rfl, q2⟩ := drow_at (H2.out.below hr) hk2
        have Q1 := Lib.hid q1; have Q2 := Lib.hid q2
        clear q1 q2 hr
        have hkl' : (k : Int) < m := by omega
        obtain ⟨⟨x1, x2⟩, hx⟩ : ∃ x, l1[k] = x := ⟨_, rfl⟩
        obtain ⟨⟨y1, y2⟩, hy⟩ : ∃ y, l2[k] = y := ⟨_, rfl⟩
        have HX := Lib.hid hx; have HY := Lib.hid hy
        rw [hx] at Q1
        rw [hy] at Q2
        clear hx hy
        simp only at Q1 Q2
        obtain ⟨ne, hne⟩ : ∃ ne, (!eqDt (x1, x2) (y1, y2)) = ne := ⟨_, rfl⟩
        have NE := Lib.hid hne
        clear hne
        go_wp2_with fail
        rename_i K2 hK2
        have KE : K2 { tmps := #[.slice (some ⟨b1, o1, none⟩) m c1, .slice (some ⟨b2, o2, none⟩) m c2, undef, undef, u4, .int .i64 (k : Int), .slice (some ⟨b1, o1, none⟩) m c1, .int .i64 (m : Int), .slice (some ⟨b2, o2, none⟩) m c2, .int .i64 (m : Int), .bool false, .slice (some ⟨b1, o1, none⟩) m c1, .int .i64 (m : Int), .int .i64 (k : Int), .bool true, .int .i64 (k : Int), .slice (some ⟨b1, o1, none⟩) m c1, .int .i64 (k : Int), .pointer (some ⟨b1, o1 + k * 2, none⟩), .agg #[.int .i64 x1, .int .i64 x2], .slice (some ⟨b2, o2, none⟩) m c2, .int .i64 (k : Int), .pointer (some ⟨b2, o2 + k * 2, none⟩), .agg #[.int .i64 y1, .int .i64 y2], .bool ne, u25], defers := [] } wr.drew := by
          refine hK2 _ _ ?_
          clear hK2 Q1 Q2
          cases ne with
          | false =>
            have hxy : l1[k] = l2[k] := by
              rw [HX.out, HY.out]
              have h1 := NE.out
              simp only [Bool.not_eq_false'] at h1
              exact (eqDt_iff _ _).1 h1
            have HXY := Lib.hid hxy
            clear hxy
            go_wp2
            go_roundw
            case rel => exact ⟨k + 1, by omega, by go_num, fun t ht => by
              rcases Nat.lt_or_ge t k with h | h
              · exact HA.out t h
              · obtain rfl : t = k := by omega
                rw [List.getElem?_eq_getElem hk1, List.getElem?_eq_getElem hk2, HXY.out], HR.out⟩
            case measure => simp [intOf]; omega
          | true =>
            have hf : bb = false := by
              rw [← HB.out]
              refine decide_eq_false fun h => ?_
              have h1 : l1[k] = l2[k] := by simp only [h]
              rw [HX.out, HY.out] at h1
              have h2 := NE.out
              rw [(eqDt_iff _ _).2 h1] at h2
              cases h2
            subst hf
            go_wp2
            go_ret
            exact ⟨rfl, HR.out⟩
        have SZ : ∀ z1 z2 : Int, (Tryd.prog.info? 55).map (·.size) = some [Value.int .i64 z1, .int .i64 z2].length := fun z1 z2 => by kernel_rfl
        have m0 := And.intro Q1.out Q2.out
        refine rg_calm (by kernel_rfl) rfl (S := fun U => U.rangeAt b1 (o1 + k * 2) [.int .i64 x1, .int .i64 x2] ∧ U.rangeAt b2 (o2 + k * 2) [.int .i64 y1, .int .i64 y2]) ?_
        refine rgd_pure 0 (some 16) rfl rfl (.slice (some ⟨b1, o1, none⟩) m c1) (by kernel_rfl) (by kernel_rfl) (by kernel_rfl) (fun _ _ _ _ h => h) (by kernel_rfl) (fun w => by kernel_rfl) m0 ?_
        refine rgd_pure 1 (some 17) rfl rfl (.int .i64 (k : Int)) (by kernel_rfl) (by kernel_rfl) (by kernel_rfl) (fun _ _ _ _ h => h) (by kernel_rfl) (fun w => by kernel_rfl) m0 ?_
        refine rgd_pure 2 (some 18) rfl rfl (.pointer (some ⟨b1, o1 + k * 2, none⟩)) (by kernel_rfl) (by kernel_rfl) (by kernel_rfl) (fun _ _ _ _ h => h) (by kernel_rfl) (exec_idxD _ _ rfl b1 o1 m c1 k (by kernel_rfl) (by kernel_rfl) hkl) m0 ?_
        refine rgd_pureS 3 (some 19) rfl rfl (.agg #[.int .i64 x1, .int .i64 x2]) (by kernel_rfl) (by kernel_rfl) (by kernel_rfl) (fun _ _ _ _ h => h) (by kernel_rfl) (fun U hU => exec_gload 55 _ rfl b1 (o1 + k * 2) (by kernel_rfl) _ hU.1 Tryd.underlying55 rfl (SZ x1 x2)) m0 ?_
        refine rgd_pure 4 (some 20) rfl rfl (.slice (some ⟨b2, o2, none⟩) m c2) (by kernel_rfl) (by kernel_rfl) (by kernel_rfl) (fun _ _ _ _ h => h) (by kernel_rfl) (fun w => by kernel_rfl) m0 ?_
        refine rgd_pure 5 (some 21) rfl rfl (.int .i64 (k : Int)) (by kernel_rfl) (by kernel_rfl) (by kernel_rfl) (fun _ _ _ _ h => h) (by kernel_rfl) (fun w => by kernel_rfl) m0 ?_
        refine rgd_pure 6 (some 22) rfl rfl (.pointer (some ⟨b2, o2 + k * 2, none⟩)) (by kernel_rfl) (by kernel_rfl) (by kernel_rfl) (fun _ _ _ _ h => h) (by kernel_rfl) (exec_idxD _ _ rfl b2 o2 m c2 k (by kernel_rfl) (by kernel_rfl) hkl) m0 ?_
        refine rgd_pureS 7 (some 23) rfl rfl (.agg #[.int .i64 y1, .int .i64 y2]) (by kernel_rfl) (by kernel_rfl) (by kernel_rfl) (fun _ _ _ _ h => h) (by kernel_rfl) (fun U hU => exec_gload 55 _ rfl b2 (o2 + k * 2) (by kernel_rfl) _ hU.2 Tryd.underlying55 rfl (SZ y1 y2)) m0 ?_
        refine rgd_pure 8 (some 24) rfl rfl (.bool ne) (by kernel_rfl) (by kernel_rfl) (by kernel_rfl) (fun _ _ _ _ h => h) (by kernel_rfl) (exec_neqE _ _ _ rfl (x1, x2) (y1, y2) ne NE.out (by kernel_rfl) (by kernel_rfl)) m0 ?_
        exact wpAnyH_done (by kernel_rfl) (Eq.mp (by kernel_rfl) KE) _
      · obtain rfl : k = m := by omega
        have ht : bb = true := by
          rw [← HB.out]
          refine decide_eq_true (List.ext_getElem (by rw [hl1.out, hl2.out]) fun t h1 h2 => ?_)
          have := HA.out t (by rw [← hl1.out]; exact h1)
          simpa [List.getElem?_eq_getElem h1, List.getElem?_eq_getElem h2] using this
        subst ht
        go_wp2
        go_ret
        exact ⟨rfl, BB.out⟩
  · have hf : decide (l1 = l2) = false := decide_eq_false (fun h => hlen (by rw [h]))
    rw [hf]
    have hne : ((l1.length : Int) != (l2.length : Int)) = true := by simp; omega
    clear hf
    go_enter Tryd.func57, Tryd.ntmps57
    go_wp2
    go_ret
    exact ⟨rfl, Below.refl _ _⟩
end Go.Proofs.YtgcbeeokddaihaaDoor
