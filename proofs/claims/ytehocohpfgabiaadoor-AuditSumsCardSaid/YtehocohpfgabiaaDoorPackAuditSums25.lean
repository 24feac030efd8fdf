/- The statement AuditSums, proved for every input that its row reads: part 25 of 54. -/
import Derived.Test.YtehocohpfgabiaaDoorPackAuditSums17
import Derived.Test.YtehocohpfgabiaaDoorPackAuditSums24
import Derived.Test.YtehocohpfgabiaaDoorPackAuditSums16
import Derived.MapKept
/- docs: without; which dots an event takes away. -/
namespace Go.Proofs.YtehocohpfgabiaaDoor
open Go Go.RowKit
set_option linter.unusedVariables false
set_option maxRecDepth 1000000

/-- what is left, in new memory -/
def LeftW (w : World) (K' : List Wr) (e : Ending) (w' : World) : Prop := ∃ v, e = .returned v ∧ w'.ownsRow w.heap.size 44 6 v K'.length (wcl K') ∧ Below w.heap.size w w'
/-- an event in a variable of its own, its dots there, below B -/
def EvIn (G : Nat) (x : EvP) (w : World) : Prop := w.rangeAt G 0 x.cells ∧ x.Ok w
def goneW (x : EvP) (y : Wr) : Bool := decide (y.dot ∈ x.e.gone)
end Go.Proofs.YtehocohpfgabiaaDoor
/- A set of dots in a map of the call's own. -/
namespace Go.Proofs.YtehocohpfgabiaaDoor
open Go Go.RowKit
set_option linter.unusedVariables false
set_option maxRecDepth 1000000

def dkey (d : Dt) : Value := .agg (dcs d.1 d.2)
def dents (l : List (Dt × Nat)) : List MapEntry := l.map fun e => { key := dkey e.1, val := .agg #[], born := e.2 }
theorem runEqK (x y : Dt) (w : World) : (Op.equal 39 (dkey x) (dkey y)).run Tryd.prog w = .ok (eqDt x y) w := runEqDt x y w
theorem ask_absent (d : Dt) (w : World) : ∀ (l : List (Dt × Nat)) (i : Nat), (∀ e ∈ l, e.1 ≠ d) → (Instr.findAsking 39 (dkey d) (dents l) i).run Tryd.prog w = .ok none w
  | [], i, _ => rfl
  | e :: l, i, h => by
    show (Instr.findAsking 39 (dkey d) ({ key := dkey e.1, val := .agg #[], born := e.2 } :: dents l) i).run Tryd.prog w = _
    unfold Instr.findAsking
    rw [Sem.run_bind, runEqK, eqDt_no (fun q => h e (by simp) q.symm)]
    exact ask_absent d w l (i + 1) fun x hx => h x (by simp [hx])
theorem ask_here (d : Dt) (b : Nat) (l2 : List (Dt × Nat)) (w : World) : ∀ (l1 : List (Dt × Nat)) (i : Nat), (∀ e ∈ l1, e.1 ≠ d) → (Instr.findAsking 39 (dkey d) (dents (l1 ++ (d, b) :: l2)) i).run Tryd.prog w = .ok (some (i + l1.length, .agg #[])) w
  | [], i, _ => by
    show (Instr.findAsking 39 (dkey d) ({ key := dkey d, val := .agg #[], born := b } :: dents l2) i).run Tryd.prog w = _
    unfold Instr.findAsking
    rw [Sem.run_bind, runEqK, (eqDt_iff d d).2 rfl]
    rfl
  | e :: l1, i, h => by
    show (Instr.findAsking 39 (dkey d) ({ key := dkey e.1, val := .agg #[], born := e.2 } :: dents (l1 ++ (d, b) :: l2)) i).run Tryd.prog w = _
    unfold Instr.findAsking
    rw [Sem.run_bind, runEqK, eqDt_no (fun q => h e (by simp) q.symm)]
    have := ask_here d b l2 w l1 (i + 1) fun x hx => h x (by simp [hx])
    simp only [Result.andThen_ok, Bool.false_eq_true, if_false, this, List.length_cons]
    congr 3
    omega
theorem key_absent (d : Dt) (l : List (Dt × Nat)) (h : ∀ e ∈ l, e.1 ≠ d) (w : World) : (Instr.findKey 39 (dkey d) (dents l)).run Tryd.prog w = .ok none w := by
  unfold Instr.findKey
  rw [Sem.run_bind, run_underlying Tryd.underlying39]
  cases l with
  | nil => rfl
  | cons e l => exact ask_absent d w (e :: l) 0 h
theorem key_here (d : Dt) (b : Nat) (l1 l2 : List (Dt × Nat)) (h : ∀ e ∈ l1, e.1 ≠ d) (w : World) : (Instr.findKey 39 (dkey d) (dents (l1 ++ (d, b) :: l2))).run Tryd.prog w = .ok (some (l1.length, .agg #[])) w := by
  unfold Instr.findKey
  rw [Sem.run_bind, run_underlying Tryd.underlying39]
  have h1 := ask_here d b l2 w l1 0 h
  rw [Nat.zero_add] at h1
  cases l1 with
  | nil => exact h1
  | cons e l => exact h1
theorem check_dot (e : Bool) (d : Dt) (w : World) : (Instr.checkKey e 10000 39 (dkey d)).run Tryd.prog w = .ok () w := by kernel_rfl
theorem stays_dot (d : Dt) (w : World) : (Instr.keyThatStays (dkey d) (dkey d)).run Tryd.prog w = .ok (dkey d) w := by
  have h : Instr.sameBits 10000 (dkey d) (dkey d) = true := by simp [dkey, dcs, Instr.sameBits]
  unfold Instr.keyThatStays
  rw [if_pos h]; rfl
/-- the map at r has just the dots of S -/
def DSet (w : World) (r : Nat) (S : List Dt) : Prop := ∃ (l : List (Dt × Nat)) (c : Nat), w.heap[r]? = some (.map (dents l).toArray c) ∧ ∀ d, d ∈ l.map (·.1) ↔ d ∈ S
theorem DSet.lt {w : World} {r : Nat} {S : List Dt} (h : DSet w r S) : r < w.heap.size := by obtain ⟨l, c, h, _⟩ := h; exact (Array.getElem?_eq_some_iff.1 h).1
theorem DSet.kept {w w' : World} {r : Nat} {S : List Dt} (h : DSet w r S) {row : Option Nat} (hg : w.grownBy w' row) (hne : some r ≠ row) : DSet w' r S := by
  have hlt := h.lt
  obtain ⟨l, c, h, hm⟩ := h
  exact ⟨l, c, (hg.block r hlt hne).trans h, hm⟩
theorem DSet.later {w w' : World} {r : Nat} {S : List Dt} (h : DSet w r S) (hb : Below w.heap.size w w') : DSet w' r S := by
  have hlt := h.lt
  obtain ⟨l, c, h, hm⟩ := h
  exact ⟨l, c, (hb.block r hlt).trans h, hm⟩
theorem split_at (d : Dt) : ∀ (l : List (Dt × Nat)), d ∈ l.map (·.1) → ∃ l1 b l2, l = l1 ++ (d, b) :: l2 ∧ ∀ e ∈ l1, e.1 ≠ d
  | [], h => by simp at h
  | e :: l, h => by
    by_cases he : e.1 = d
    · exact ⟨[], e.2, l, by rw [← he]; rfl, fun x hx => by simp at hx⟩
    · obtain ⟨l1, b, l2, h1, h2⟩ := split_at d l (by
        rw [List.map_cons] at h
        rcases List.mem_cons.1 h with h | h
        · exact absurd h.symm he
        · exact h)
      exact ⟨e :: l1, b, l2, by rw [h1]; rfl, fun x hx => by
        rcases List.mem_cons.1 hx with rfl | hx
        · exact he
        · exact h2 x hx⟩
theorem absent_of {d : Dt} {l : List (Dt × Nat)} (h : d ∉ l.map (·.1)) : ∀ e ∈ l, e.1 ≠ d := fun e he q => h (List.mem_map.2 ⟨e, he, q⟩)
theorem run_dlook {w : World} {r : Nat} {S : List Dt} (h : DSet w r S) (d : Dt) : (Instr.lookup 79 (.map (some r)) (dkey d) true).run Tryd.prog w = .ok (.tuple #[.agg #[], .bool (decide (d ∈ S))]) w := by
  obtain ⟨l, c, hb, hm⟩ := h
  have hg := MapKept.run_getObj_map (P := Tryd.prog) hb
  have hz : (zeroValue 83).run Tryd.prog w = .ok (.agg #[]) w := by kernel_rfl
  unfold Instr.lookup
  by_cases hd : d ∈ S
  · obtain ⟨l1, b, l2, rfl, hl⟩ := split_at d l ((hm d).2 hd)
    have hk := key_here d b l1 l2 hl w
    rw [decide_eq_true hd]
    simp only [Sem.run_bind, run_underlying Tryd.underlying79, Result.andThen_ok, hg, Sem.run_pure, check_dot, hk]
    rfl
  · have hk := key_absent d l (absent_of fun q => hd ((hm d).1 q)) w
    rw [decide_eq_false hd]
    simp only [Sem.run_bind, run_underlying Tryd.underlying79, Result.andThen_ok, hg, Sem.run_pure, check_dot, hk, hz]
    rfl
theorem run_dput {w : World} {r : Nat} {S : List Dt} (h : DSet w r S) (d : Dt) : ∃ w', (Instr.mapUpdate 79 (.map (some r)) (dkey d) (.agg #[])).run Tryd.prog w = .ok () w' ∧ DSet w' r (S ++ [d]) ∧ w.grownBy w' (some r) := by
  obtain ⟨l, c, hb, hm⟩ := h
  have hg := MapKept.run_getObj_map (P := Tryd.prog) hb
  have hlt := (Array.getElem?_eq_some_iff.1 hb).1
  have to : ∀ o : Obj, ({ w with heap := w.heap.setIfInBounds r o } : World).heap[r]? = some o := fun o => by
    show (w.heap.setIfInBounds r o)[r]? = some o
    rw [Array.getElem?_setIfInBounds, if_pos rfl, if_pos hlt]
  have gr : ∀ o : Obj, w.grownBy ({ w with heap := w.heap.setIfInBounds r o } : World) (some r) := fun o => ⟨rfl, rfl, rfl, by simp, fun i hi hne => by
    show (w.heap.setIfInBounds r o)[i]? = w.heap[i]?
    rw [Array.getElem?_setIfInBounds, if_neg (fun e => hne (by rw [e]))]⟩
  by_cases hd : d ∈ l.map (·.1)
  · obtain ⟨l1, b, l2, rfl, hl⟩ := split_at d l hd
    have hk := key_here d b l1 l2 hl w
    have hs := MapKept.run_setObj_map (P := Tryd.prog) (.map (dents (l1 ++ (d, b) :: l2)).toArray c) hb
    have he : ((dents (l1 ++ (d, b) :: l2)).toArray.modify l1.length fun e => { e with key := dkey d, val := .agg #[] }) = (dents (l1 ++ (d, b) :: l2)).toArray := by
      apply Array.ext_getElem?
      intro j
      rw [Array.getElem?_modify]
      by_cases h1 : l1.length = j
      · subst h1; simp [dents]
      · rw [if_neg h1]
    have hel : (((dents (l1 ++ (d, b) :: l2)).toArray[l1.length]?).map (·.key)).getD (dkey d) = dkey d := by simp [dents]
    refine ⟨_, ?_, ⟨_, c, to (.map (dents (l1 ++ (d, b) :: l2)).toArray c), fun x => ?_⟩, gr _⟩
    · unfold Instr.mapUpdate
      simp only [Sem.run_bind, run_underlying Tryd.underlying79, Result.andThen_ok, hg, check_dot, hk, hel, stays_dot, he]
      exact hs
    · rw [hm x, List.mem_append, List.mem_singleton]
      constructor
      · exact .inl
      · rintro (h | rfl)
        · exact h
        · exact (hm x).1 hd
  · have hk := key_absent d l (absent_of hd) w
    have hs := MapKept.run_setObj_map (P := Tryd.prog) (.map (dents (l ++ [(d, c)])).toArray (c + 1)) hb
    have he : (dents l).toArray.push { key := dkey d, val := .agg #[], born := c } = (dents (l ++ [(d, c)])).toArray := by simp [dents]
    refine ⟨_, ?_, ⟨_, c + 1, to (.map (dents (l ++ [(d, c)])).toArray (c + 1)), fun x => ?_⟩, gr _⟩
    · unfold Instr.mapUpdate
      simp only [Sem.run_bind, run_underlying Tryd.underlying79, Result.andThen_ok, hg, check_dot, hk, he]
      exact hs
    · rw [List.map_append, List.mem_append, List.mem_append, hm x]
      simp
theorem dset_new (w : World) : DSet (w.alloc (.map #[] 0)) w.heap.size [] := ⟨[], 0, heap_alloc_new w _, fun d => by simp⟩
end Go.Proofs.YtehocohpfgabiaaDoor
