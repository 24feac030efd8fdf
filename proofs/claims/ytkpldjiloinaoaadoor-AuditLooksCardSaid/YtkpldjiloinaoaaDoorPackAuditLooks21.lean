/- The statement AuditLooks, proved for every input that its row reads: part 21 of 54. -/
import Derived.Test.YtkpldjiloinaoaaDoorPackAuditLooks19
import Derived.Shelf.Spec.SlicesInsertGrow
import Derived.Test.YtkpldjiloinaoaaDoorPackAuditLooks20
import Derived.Test.YtkpldjiloinaoaaDoorPackAuditLooks18
import Derived.Test.YtkpldjiloinaoaaDoorPackAuditLooks17
import Derived.Test.YtkpldjiloinaoaaDoorPackAuditLooks11
/- slices.Insert of one write into writes of one's own. -/
namespace Go.Proofs.YtkpldjiloinaoaaDoor
open Go Go.RowKit Go.Lib
set_option linter.unusedVariables false
set_option maxRecDepth 1000000

theorem run_copyK {P : Program} (w : World) (dT sT ty elem : TypeId) (b o dLen dCap : Nat) (a : Addr) (sLen sCap n k : Nat) (cs : List Value)
    (hu : P.underlying dT = some (.slice elem)) (hs : (P.info? elem).map (·.size) = some k) (hn : n = Nat.min sLen dLen) (hl : cs.length = n * k)
    (hsrc : ∀ j v, cs[j]? = some v → w.cell? (a.add j) = some v) (hc : ∀ j, j < cs.length → (w.cell? ⟨b, o + j, none⟩).isSome = true) (hf : ∀ j, j < cs.length → w.frozen? ⟨b, o + j, none⟩ = false) (h1 : ∀ v ∈ cs, v.oneCell' = true) :
    (Builtin.copy_ #[dT, sT] ty #[.slice (some ⟨b, o, none⟩) dLen dCap, .slice (some a) sLen sCap]).run P w = .ok (goInt n) (w.setCells b o cs) := by
  have hld := run_loadCells_list (P := P) w a cs hsrc
  have hst := run_storeCells_cells (P := P) b o cs 0 w (by simpa using hc) (by simpa using hf) h1
  cases hq : P.info? elem with
  | none => simp [hq] at hs
  | some i =>
    have hi : i.size = k := by simpa [hq] using hs
    rw [hl] at hld
    simp [Builtin.copy_, run_underlying hu, Builtin.lenOf, Builtin.firstCells, sizeOf, typeInfo, hq, hi, ← hn, hld, hst]
theorem shape_of {w : World} {b : Nat} {cs : Array Value} {t : TypeId} {m : Nat × Nat} (h : w.heap[b]? = some (.cells cs t m)) : w.shape? b = some (t, cs.size) := by
  unfold World.shape?
  rw [h]
/-- room for one more -/
theorem own_more {w : World} {B n c g k : Nat} {e : TypeId} {xs : List Value} (h : w.ownsRow B e k (.slice (some ⟨g, 0, none⟩) n c) n xs) (hc : n + 1 ≤ c) : ∃ junk, junk.length = k ∧ w.ownsRow B e k (.slice (some ⟨g, 0, none⟩) (n + 1) c) (n + 1) (xs ++ junk) := by
  have hx := h.1
  rcases h.2 with ⟨h1, _⟩ | ⟨g', cap, cur, h1, hB, hg, hcc, hm, hs, ht⟩
  · cases h1
  · injection h1 with h1 _ h3
    injection h1 with h1
    injection h1 with h1 _ _
    subst h1; subst h3
    have hk : (n + 1) * k ≤ c * k := Nat.mul_le_mul_right k hc
    have hk2 : (n + 1) * k = n * k + k := Nat.succ_mul n k
    have hl : cur.toList.length = c * k := by rw [Array.length_toList, hs]
    refine ⟨(cur.toList.drop (n * k)).take k, by rw [List.length_take, List.length_drop, hl]; omega, ?_, .inr ⟨g, c, cur, rfl, hB, hg, hc, hm, hs, ?_⟩⟩
    · rw [List.length_append, List.length_take, List.length_drop, hl, hx]; omega
    · rw [← ht, hk2, List.take_add]
/-- one put in -/
def insAt (l : List Wr) (i : Nat) (x : Wr) : List Wr := l.take i ++ x :: l.drop i
theorem insAt_len (l : List Wr) (i : Nat) (x : Wr) (h : i ≤ l.length) : (insAt l i x).length = l.length + 1 := by
  unfold insAt; rw [List.length_append, List.length_cons, List.length_take, List.length_drop]; omega
theorem wcl_drop : ∀ (L : List Wr) (k : Nat), wcl (L.drop k) = (wcl L).drop (k * 6)
  | [], k => by simp [wcl]
  | x :: L, 0 => by simp [wcl]
  | x :: L, k + 1 => by
    have h := wcl_drop L k
    rw [List.drop_succ_cons, show wcl (x :: L) = x.cells ++ wcl L from rfl, h, show (k + 1) * 6 = x.cells.length + k * 6 by rw [Wr.cells_len]; omega, List.drop_length_add_append]
/-- whatever stood behind the first ones, a write and the others put there -/
theorem ins_cells (l : List Wr) (i : Nat) (x : Wr) (hi : i ≤ l.length) (xs : List Value) (hl : xs.length = (l.length + 1) * 6) (hf : xs.take (i * 6) = (wcl l).take (i * 6)) :
    setLL (setLL xs ((i + 1) * 6) (wcl (l.drop i))) (i * 6) x.cells = wcl (insAt l i x) ∧ setLL (setLL xs (i * 6) x.cells) ((i + 1) * 6) (wcl (l.drop i)) = wcl (insAt l i x) := by
  have hd : (wcl (l.drop i)).length = (l.length - i) * 6 := by rw [wcl_length, List.length_drop]
  have ht : (wcl (l.take i)).length = i * 6 := by rw [wcl_length, List.length_take]; omega
  have he : wcl (insAt l i x) = wcl (l.take i) ++ (x.cells ++ wcl (l.drop i)) := by unfold insAt; rw [wcl_append]; rfl
  have hx := x.cells_len
  have key : ∀ j, (wcl (insAt l i x))[j]? = if j < i * 6 then xs[j]? else if j < (i + 1) * 6 then x.cells[j - i * 6]? else (wcl (l.drop i))[j - (i + 1) * 6]? := fun j => by
    rw [he]
    by_cases h1 : j < i * 6
    · rw [if_pos h1, List.getElem?_append_left (by omega), wcl_take, ← hf, List.getElem?_take_of_lt h1]
    · rw [if_neg h1, List.getElem?_append_right (by omega), ht]
      by_cases h2 : j < (i + 1) * 6
      · rw [if_pos h2, List.getElem?_append_left (by omega)]
      · rw [if_neg h2, List.getElem?_append_right (by omega), hx]
        congr 1; omega
  constructor
  · apply List.ext_getElem?
    intro j
    rw [key, setLL_get _ _ _ (by rw [setLL_length, hl, hx]; omega), setLL_get _ _ _ (by rw [hl, hd]; omega), hx, hd]
    by_cases h1 : j < i * 6
    · rw [if_pos h1, if_neg (by omega), if_neg (by omega)]
    · rw [if_neg h1]
      by_cases h2 : j < (i + 1) * 6
      · rw [if_pos h2, if_pos (by omega)]
      · rw [if_neg h2, if_neg (by omega)]
        by_cases h3 : j < (i + 1) * 6 + (l.length - i) * 6
        · rw [if_pos (by omega)]
        · rw [if_neg (by omega), List.getElem?_eq_none (by omega), List.getElem?_eq_none (by omega)]
  · apply List.ext_getElem?
    intro j
    rw [key, setLL_get _ _ _ (by rw [setLL_length, hl, hd]; omega), setLL_get _ _ _ (by rw [hl, hx]; omega), hx, hd]
    by_cases h1 : j < i * 6
    · rw [if_pos h1, if_neg (by omega), if_neg (by omega)]
    · rw [if_neg h1]
      by_cases h2 : j < (i + 1) * 6
      · rw [if_pos h2, if_neg (by omega), if_pos (by omega)]
      · rw [if_neg h2]
        by_cases h3 : j < (i + 1) * 6 + (l.length - i) * 6
        · rw [if_pos (by omega)]
        · rw [if_neg (by omega), if_neg (by omega), List.getElem?_eq_none (by omega), List.getElem?_eq_none (by omega)]
/-- writes of one's own, one more among them -/
def InsR (B : Nat) (l : List Wr) (w : World) (e : Ending) (w' : World) : Prop := ∃ v, e = .returned v ∧ w'.ownsRow B 44 6 v l.length (wcl l) ∧ Below B w w'
theorem zeroWrA (w : World) : (zeroValue 44).run Tryd.prog w = .ok (.agg #[.int .i64 0, .int .i64 0, .int .i64 0, .string ByteArray.empty, .int .i64 0, .string ByteArray.empty]) w := by kernel_rfl
open Go Go.RowKit
set_option maxRecDepth 1000000

/-- does a write stand ahead of another? -/
def ltW (x y : Wr) : Bool := decide (cmpW x y < 0)
def posW (l : List Wr) (x : Wr) : Nat := (l.takeWhile fun y => ltW y x).length
def insW (l : List Wr) (x : Wr) : List Wr := insAt l (posW l x) x
theorem posW_le (l : List Wr) (x : Wr) : posW l x ≤ l.length := by
  unfold posW
  exact List.Sublist.length_le (List.takeWhile_sublist _)
theorem posW_is : ∀ (l : List Wr) (x : Wr) (k : Nat) (hk : k ≤ l.length) (h1 : ∀ i (h : i < l.length), i < k → ltW l[i] x = true) (h2 : ∀ h : k < l.length, ltW l[k] x = false), posW l x = k
  | [], x, k, hk, _, _ => by
    have : k = 0 := by simpa using hk
    subst this; rfl
  | y :: l, x, 0, hk, _, h2 => by
    have h3 : ltW y x = false := h2 (by simp)
    unfold posW
    rw [List.takeWhile_cons_of_neg (by simp [h3])]; rfl
  | y :: l, x, k + 1, hk, h1, h2 => by
    have h3 : ltW y x = true := h1 0 (by simp) (by omega)
    have ih := posW_is l x k (by simpa using hk) (fun i h hi => h1 (i + 1) (by simpa using h) (by omega)) (fun h => h2 (by simpa using h))
    unfold posW at ih ⊢
    rw [List.takeWhile_cons_of_pos (by simpa using h3), List.length_cons, ih]
theorem exec_idxW {o : Oper} {a : Act} (x y : Operand) (ho : o.op = .indexAddr 24 x y) (b f len cap k : Nat) (hx : a.eval x = .slice (some ⟨b, f, none⟩) len cap) (hy : a.eval y = .int .i64 (k : Int)) (hk : k < len) (w : World) :
    (execOp a.eval o).run Tryd.prog w = .ok (.value (.pointer (some ⟨b, f + k * 6, none⟩))) w := by
  have hs : ∀ w : World, (sizeOf (Tryd.prog.elem 24)).run Tryd.prog w = .ok 6 w := fun w => by kernel_rfl
  unfold execOp
  simp only [ho, hx, hy]
  refine run_value_of ?_
  rw [run_indexAt_slice (h := Tryd.underlying24), if_pos (by omega), hs]
  simp only [Result.andThen_ok, Int.toNat_natCast]
  cases k <;> simp [Addr.add]
end Go.Proofs.YtkpldjiloinaoaaDoor
/- States by value: a vector, and writes. -/
namespace Go.Proofs.YtkpldjiloinaoaaDoor
open Go Go.RowKit
set_option linter.unusedVariables false
set_option maxRecDepth 1000000

/-- a state's cells -/
def scs (f : Nat → Int) (v : Value) : Array Value := ((vf f).toList ++ [v]).toArray
theorem scs_size (f : Nat → Int) (v : Value) : (scs f v).size = 65 := by simp [scs, vf_size]
theorem scs_slot (f : Nat → Int) (v : Value) : (scs f v)[64]? = some v := by
  simp only [scs, List.getElem?_toArray]
  rw [List.getElem?_append_right (by rw [Array.length_toList, vf_size]; omega), Array.length_toList, vf_size]; rfl
theorem scs_vec (f : Nat → Int) (v : Value) (i : Nat) (h : i < 64) : (scs f v)[i]? = (vf f)[i]? := by
  simp only [scs, List.getElem?_toArray]
  rw [List.getElem?_append_left (by rw [Array.length_toList, vf_size]; exact h), Array.getElem?_toList]
theorem scs_congr (v : Value) {f g : Nat → Int} (h : ∀ i, i < 64 → f i = g i) : scs f v = scs g v := by rw [scs, vf_congr h, scs]
theorem scs_one (f : Nat → Int) {v : Value} (h : v.oneCell' = true) : ∀ u ∈ (scs f v).toList, u.oneCell' = true := by
  intro u hu
  simp only [scs, List.toList_toArray, List.mem_append, List.mem_singleton] at hu
  rcases hu with hu | rfl
  · have hp := pcs_oneV f (v := .slice none 0 0) ⟨none, 0, 0, rfl⟩ u
    exact hp (by simp [pcs, hu])
  · exact h
theorem sizeSt (f : Nat → Int) (v : Value) : (Tryd.prog.info? 26).map (·.size) = some (scs f v).size := by rw [scs_size]; kernel_rfl
theorem sizeStl (f : Nat → Int) (v : Value) : (Tryd.prog.info? 26).map (·.size) = some (scs f v).toList.length := by rw [Array.length_toList, scs_size]; kernel_rfl
theorem zeroSt (w : World) : (zeroValue 26).run Tryd.prog w = .ok (.agg (scs (fun _ => 0) (.slice none 0 0))) w := by kernel_rfl
theorem builtSt (f : Nat → Int) (p : Option Addr) (n c : Nat) (w : World) : (Instr.build 26 #[(0, .agg (vf f)), (1, .slice p n c)]).run Tryd.prog w = .ok (.agg (scs f (.slice p n c))) w := run_build w _ _ _ (by kernel_rfl)
theorem builtSt0 (w : World) : (Instr.build 26 #[]).run Tryd.prog w = .ok (.agg (scs (fun _ => 0) (.slice none 0 0))) w := run_build w _ _ _ (by kernel_rfl)
/-- a state in a variable of its own -/
def Sx (w : World) (g : Nat) (f : Nat → Int) (v : Value) : Prop := w.heap[g]? = some (.cells (scs f v) 26 (0, 0))
theorem Sx.lt {w : World} {g : Nat} {f : Nat → Int} {v : Value} (h : Sx w g f v) : g < w.heap.size := (Array.getElem?_eq_some_iff.1 h).1
theorem Sx.later {w w' : World} {g : Nat} {f : Nat → Int} {v : Value} (h : Sx w g f v) (hb : Below w.heap.size w w') : Sx w' g f v := (hb.block g h.lt).trans h
theorem Sx.kept {w w' : World} {g : Nat} {f : Nat → Int} {v : Value} (h : Sx w g f v) {row : Option Nat} (hg : w.grownBy w' row) (hne : some g ≠ row) : Sx w' g f v := (hg.block g h.lt hne).trans h
theorem Sx.slot {w : World} {g : Nat} {f : Nat → Int} {v : Value} (h : Sx w g f v) : w.cell? ⟨g, 64, none⟩ = some v := (cell_of_row w g 64 _ _ _ h).trans (scs_slot f v)
theorem Sx.vec {w : World} {g : Nat} {f : Nat → Int} {v : Value} (h : Sx w g f v) : w.rangeAt g 0 (vf f).toList := fun j u hu => by
  have hj : j < 64 := by have := (List.getElem?_eq_some_iff.1 hu).1; rwa [Array.length_toList, vf_size] at this
  rw [Nat.zero_add, cell_of_row w g j _ _ _ h, scs_vec f v j hj, ← Array.getElem?_toList]; exact hu
theorem Sx.whole {w : World} {g : Nat} {f : Nat → Int} {v : Value} (h : Sx w g f v) : w.rangeAt g 0 (scs f v).toList := range_of_block h
/-- a whole variable written anew -/
theorem set_whole {w : World} {g : Nat} {old cs : Array Value} {ty : TypeId} {m : Nat × Nat} (h : w.heap[g]? = some (.cells old ty m)) (hs : old.size = cs.size) : (w.setCells g 0 cs.toList).heap[g]? = some (.cells cs ty m) := by
  rw [heap_setCells _ _ _ _ h]
  have e : setL old 0 cs.toList = cs := by
    apply Array.ext_getElem?
    intro i
    rw [setL_get _ _ _ (by rw [Array.length_toList]; omega)]
    split
    · simp
    · rename_i h1
      rw [Array.length_toList] at h1
      rw [Array.getElem?_eq_none (by omega), Array.getElem?_eq_none (by omega)]
  rw [e]
theorem exec_wstore {P : Program} {o : Oper} {a : Act} {w : World} (t : TypeId) (x y : Operand) (ho : o.op = .store t x y) (g : Nat) (hx : a.eval x = .pointer (some ⟨g, 0, none⟩)) (cs : Array Value) (hy : a.eval y = .agg cs) (hi : (P.info? t).map (·.size) = some cs.size) (h1 : ∀ v ∈ cs.toList, v.oneCell' = true)
    {old : Array Value} {ty : TypeId} (h : w.heap[g]? = some (.cells old ty (0, 0))) (hs : old.size = cs.size) :
    (execOp a.eval o).run P w = .ok .skip (w.setCells g 0 cs.toList) := by
  have ht : w.there g 0 cs.size := fun j hj => by
    rw [Nat.zero_add]
    refine ⟨?_, frozen_of_row w g j _ _ h⟩
    rw [cell_of_row w g j _ _ _ h, Array.getElem?_eq_getElem (by omega)]
    rfl
  unfold execOp
  simp only [ho, hx, hy, Sem.run_bind, run_storeAt_mid w g 0 t cs ht hi (Array.all_eq_true_iff_forall_mem.2 (fun u hu => h1 u (by simpa using hu))), Result.andThen_ok]
  rfl
theorem exec_build {P : Program} {o : Oper} {a : Act} {w : World} (t : TypeId) (parts : Array (Nat × Operand)) (ho : o.op = .build t parts) (cs : Array Value) (hb : (Instr.build t (parts.map fun (i, x) => (i, a.eval x))).run P w = .ok (.agg cs) w) :
    (execOp a.eval o).run P w = .ok (.value (.agg cs)) w := by
  unfold execOp
  simp only [ho, Sem.run_bind, hb, Result.andThen_ok]
  rfl
theorem own_keepT {w w' : World} {B0 : Nat} {ty : TypeId} {k n : Nat} {v : Value} {xs : List Value} (h : w.ownsRow B0 ty k v n xs) {g : Nat} {cs : Array Value} {T : TypeId} {m : Nat × Nat} (hg : w.heap[g]? = some (.cells cs T m)) (hne : T ≠ ty) (hw : w.grownBy w' (some g)) : w'.ownsRow B0 ty k v n xs := by
  refine h.kept hw ?_
  rcases h.2 with ⟨rfl, _⟩ | ⟨g', cap, cur, rfl, _, q3, _⟩
  · exact .inl rfl
  · right
    intro e
    have : g' = g := by simpa [Value.ownBlock] using e
    subst this
    rw [q3] at hg
    injection hg with hg
    injection hg with _ h2
    exact hne h2.symm
theorem results_cell_two {P : Program} {fn : Func} {p q : Tmp} {ty : TypeId} (h : fn.results = #[.cell p ty, .tmp q]) (tmps : Array Value) (w : World) (g : Nat) (t : TypeId) (cs : Array Value) (fr : Nat × Nat) (d : TypeDesc)
    (hp : tmps.getD p undef = .pointer (some ⟨g, 0, none⟩)) (hg : w.heap[g]? = some (.cells cs t fr))
    (hu : P.underlying ty = some d) (hd : (match d with | .struct _ | .array _ _ => true | _ => false) = true) (hi : (P.info? ty).map (·.size) = some cs.size) (u : Value) (hq : tmps.getD q undef = u) :
    (results fn tmps).run P w = .ok (.tuple #[.agg cs, u]) w := by
  subst hq
  have hp' : tmps[p]?.getD undef = .pointer (some ⟨g, 0, none⟩) := by simpa using hp
  simp [results, h, hp', asAddr, run_loadVar_row w g t ty cs fr d hg hu hd hi]
theorem fromD {w w' : World} (h : Below w.drew.heap.size w.drew w') : Below w.heap.size w w' := ⟨h.os, h.tape, h.output, h.size, h.block⟩
theorem cell_hold2 {w U : World} {a : Addr} {v : Value} (h : w.cell? a = some v) (hb : Below w.heap.size w U) : U.cell? a = some v := (hb.cell (p := a) (World.block_lt_of_cell? w _ h)).trans h
/-- what a Put writes -/
def wrote (e : Ev) : Wr := ⟨e.rep, e.n, e.time, e.doc, e.field, e.text⟩
/-- what is left of writes behind an event that takes dots away -/
def leftOf (L : List Wr) (e : Ev) : List Wr := L.filter (fun y => !decide (y.dot ∈ e.gone))
/-- a state behind an event -/
noncomputable def apErr (e : Ev) : Int := chk e
noncomputable def apSkip (F : Nat → Int) (e : Ev) : Bool := !decide (chk e = 0) || hasB F e.rep e.n
noncomputable def apSeen (F : Nat → Int) (e : Ev) : Nat → Int := if apSkip F e then F else withF F e.rep e.n
noncomputable def apLive (F : Nat → Int) (L : List Wr) (e : Ev) : List Wr := if apSkip F e then L else if e.kind = 1 then insW (leftOf L e) (wrote e) else leftOf L e
/-- a state that is handed back, and an error -/
def StR (w : World) (F : Nat → Int) (L : List Wr) (k : Int) (e : Ending) (w' : World) : Prop := ∃ v, e = .returned (.tuple #[.agg (scs F v), .int .i64 k]) ∧ w'.ownsRow w.heap.size 44 6 v L.length (wcl L) ∧ Below w.heap.size w w'
end Go.Proofs.YtkpldjiloinaoaaDoor
/- audit.Sums and the document's. -/
namespace Go.Proofs.YtkpldjiloinaoaaDoor
open Go Go.RowKit
set_option linter.unusedVariables false
set_option maxRecDepth 1000000

def dotsW (L : List Wr) : List Dt := L.map fun y => (y.rep, y.n)
def dotsE (E : List EvP) : List Dt := E.map fun x => (x.e.rep, x.e.n)
theorem dotsW_take (L : List Wr) (k : Nat) (h : k < L.length) : dotsW (L.take (k + 1)) = dotsW (L.take k) ++ [(L[k].rep, L[k].n)] := by
  unfold dotsW; rw [List.take_succ_eq_append_getElem h, List.map_append]; rfl
theorem dotsE_take (E : List EvP) (k : Nat) (h : k < E.length) : dotsE (E.take (k + 1)) = dotsE (E.take k) ++ [(E[k].e.rep, E[k].e.n)] := by
  unfold dotsE; rw [List.take_succ_eq_append_getElem h, List.map_append]; rfl
theorem dotsW_len (L : List Wr) : (dotsW L).length = L.length := by simp [dotsW]
theorem dotsE_len (E : List EvP) : (dotsE E).length = E.length := by simp [dotsE]
def cntV (l : List Dt) : Nat → Int := fun i => (numD l i : Int)
theorem cntV_ok (l : List Dt) (h : l.length ≤ 10000) : ∀ i, i < 64 → 0 ≤ cntV l i ∧ cntV l i ≤ 1000000 := fun i _ => by
  have := numD_le l i
  unfold cntV
  omega
theorem cntV_step (l : List Dt) (r n : Int) : cntF (cntV l) r n = cntV (l ++ [(r, n)]) := funext fun i => cnt_snoc l r n i
theorem results_two_rows {P : Program} {fn : Func} {p q : Tmp} {ty : TypeId} (h : fn.results = #[.cell p ty, .cell q ty]) (tmps : Array Value) (w : World) (g g' : Nat) (t : TypeId) (cs cs' : Array Value) (fr : Nat × Nat) (d : TypeDesc)
    (hp : tmps.getD p undef = .pointer (some ⟨g, 0, none⟩)) (hq : tmps.getD q undef = .pointer (some ⟨g', 0, none⟩)) (hg : w.heap[g]? = some (.cells cs t fr)) (hg' : w.heap[g']? = some (.cells cs' t fr))
    (hu : P.underlying ty = some d) (hd : (match d with | .struct _ | .array _ _ => true | _ => false) = true) (hi : (P.info? ty).map (·.size) = some cs.size) (hi' : (P.info? ty).map (·.size) = some cs'.size) :
    (results fn tmps).run P w = .ok (.tuple #[.agg cs, .agg cs']) w := by
  have hp' : tmps[p]?.getD undef = .pointer (some ⟨g, 0, none⟩) := by simpa using hp
  have hq' : tmps[q]?.getD undef = .pointer (some ⟨g', 0, none⟩) := by simpa using hq
  simp [results, h, hp', hq', asAddr, run_loadVar_row w g t ty cs fr d hg hu hd hi, run_loadVar_row w g' t ty cs' fr d hg' hu hd hi']
theorem row_set {w : World} {g : Nat} {t : TypeId} {f : Nat → Int} (h : Row w g t f) : Row (w.setCells g 0 (vf f).toList) g t f := set_whole h rfl
/-- what Sums answers -/
def SumsR (w : World) (F G : Nat → Int) (e : Ending) (w' : World) : Prop := e = .returned (.tuple #[.agg (vf F), .agg (vf G)]) ∧ Below w.heap.size w w'
end Go.Proofs.YtkpldjiloinaoaaDoor
/- audit.Oldest: the oldest event. -/
namespace Go.Proofs.YtkpldjiloinaoaaDoor
open Go Go.RowKit
set_option linter.unusedVariables false
set_option maxRecDepth 1000000

theorem sizeEvA (x : EvP) : (Tryd.prog.info? 48).map (·.size) = some x.cells.length := by rw [EvP.cells_len]; kernel_rfl
theorem zeroEvA : ∀ w : World, (zeroValue 48).run Tryd.prog w = .ok (.agg #[.int .i64 0, .int .i64 0, .int .i64 0, .int .i64 0, .string ByteArray.empty, .int .i64 0, .string ByteArray.empty, .slice none 0 0]) w := fun w => by kernel_rfl
/-- how two events stand by time -/
def cmpE (x y : EvP) : Int := orL [cmpI x.e.time y.e.time, cmpD x.e.rep x.e.n y.e.rep y.e.n]
/-- the oldest of the first ones -/
def oldP (b a : EvP) : EvP := if oldB a.e b.e = true then a else b
def bst (E : List EvP) (k : Nat) (x : EvP) : EvP := (E.take k).foldl oldP x
theorem bst_succ (E : List EvP) (k : Nat) (x : EvP) (h : k < E.length) : bst E (k + 1) x = oldP (bst E k x) E[k] := by
  unfold bst; rw [List.take_succ_eq_append_getElem h, List.foldl_append]; rfl
theorem bst_one (E : List EvP) (h : 0 < E.length) : bst E 1 E[0] = E[0] := by
  rw [bst_succ E 0 _ h]
  show oldP E[0] E[0] = E[0]
  unfold oldP; split <;> rfl
def MinR (w : World) (x : EvP) (e : Ending) (w' : World) : Prop := e = .returned (.agg x.cells.toArray) ∧ Below w.heap.size w w'
theorem exec_idxE {P : Program} {o : Oper} {a : Act} (t : TypeId) (x y : Operand) (ho : o.op = .indexAddr t x y) (hu : P.underlying t = some (.slice (P.elem t))) (hsz : ∀ w : World, (sizeOf (P.elem t)).run P w = .ok 8 w) (b f : Nat) (len cap k : Nat) (hx : a.eval x = .slice (some ⟨b, f, none⟩) len cap) (hy : a.eval y = .int .i64 (k : Int)) (hk : k < len) (w : World) :
    (execOp a.eval o).run P w = .ok (.value (.pointer (some ⟨b, f + k * 8, none⟩))) w := by
  unfold execOp
  simp only [ho, hx, hy]
  refine run_value_of ?_
  rw [run_indexAt_slice (h := hu), if_pos (by omega), hsz]
  simp only [Result.andThen_ok, Int.toNat_natCast]
  cases k <;> simp [Addr.add]
/-- the oldest event's dot, and whether there is one -/
def oldD : List EvP → Int × Int × Bool
  | [] => (0, 0, false)
  | x :: l => ((bst (x :: l) (x :: l).length x).e.rep, (bst (x :: l) (x :: l).length x).e.n, true)
theorem oldD_pos (E : List EvP) (h : 0 < E.length) : oldD E = ((bst E E.length E[0]).e.rep, (bst E E.length E[0]).e.n, true) := by
  cases E with
  | nil => simp at h
  | cons x l => rfl
def OldR (w : World) (d : Int × Int × Bool) (e : Ending) (w' : World) : Prop := e = .returned (.tuple #[.agg (dcs d.1 d.2.1), .bool d.2.2]) ∧ Below w.heap.size w w'
theorem zeroDtA : ∀ w : World, (zeroValue 37).run Tryd.prog w = .ok (.agg (dcs 0 0)) w := fun w => by kernel_rfl
theorem sizeDtA (r n : Int) : (Tryd.prog.info? 37).map (·.size) = some (dcs r n).size := by kernel_rfl
theorem dcs_one (r n : Int) : ∀ v ∈ (dcs r n).toList, v.oneCell' = true := by intro v hv; simp [dcs] at hv; rcases hv with rfl | rfl <;> rfl
theorem builtDtA (w : World) : (Instr.build 37 #[]).run Tryd.prog w = .ok (.agg (dcs 0 0)) w := run_build w _ _ _ (by kernel_rfl)
end Go.Proofs.YtkpldjiloinaoaaDoor
/- docs.Apply of any state and any event. -/
namespace Go.Proofs.YtkpldjiloinaoaaDoor
open Go Go.RowKit
set_option linter.unusedVariables false
set_option maxRecDepth 1000000

end Go.Proofs.YtkpldjiloinaoaaDoor
