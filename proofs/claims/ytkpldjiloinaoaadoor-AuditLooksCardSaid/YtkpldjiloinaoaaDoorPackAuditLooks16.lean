/- The statement AuditLooks, proved for every input that its row reads: part 16 of 54. -/
import Derived.Test.YtkpldjiloinaoaaDoorPackAuditLooks10
import Derived.MapKept
import Derived.Maps.RangeRun
/- Maps by ints that the call made: what their operations run to, whatever the elements are (no number of a program stands here). -/
namespace Go.Proofs.YtkpldjiloinaoaaDoor
open Go Go.RowKit
set_option linter.unusedVariables false

/-- entries: key, element, when it came -/
def ents (l : List (Int × Value × Nat)) : List MapEntry := l.map fun e => { key := .int .i64 e.1, val := e.2.1, born := e.2.2 }
theorem find_absent (k : Int) : ∀ (l : List (Int × Value × Nat)) (i : Nat), (∀ e ∈ l, e.1 ≠ k) → Instr.findNow (.int .i64) (.int .i64 k) (ents l) i = some none
  | [], i, _ => rfl
  | e :: l, i, h => by
    have h1 : (k == e.1) = false := by simpa using fun q => h e (by simp) q.symm
    show (match Instr.sameNow (.int .i64) (.int .i64 k) (.int .i64 e.1) with
      | some true => some (some (i, e.2.1))
      | some false => Instr.findNow (.int .i64) (.int .i64 k) (ents l) (i + 1)
      | none => none) = some none
    have h2 : Instr.sameNow (.int .i64) (.int .i64 k) (.int .i64 e.1) = some false := by simp [Instr.sameNow, h1]
    rw [h2]
    exact find_absent k l (i + 1) fun x hx => h x (by simp [hx])
theorem find_here (k : Int) (v : Value) (b : Nat) : ∀ (l1 l2 : List (Int × Value × Nat)) (i : Nat), (∀ e ∈ l1, e.1 ≠ k) → Instr.findNow (.int .i64) (.int .i64 k) (ents (l1 ++ (k, v, b) :: l2)) i = some (some (i + l1.length, v))
  | [], l2, i, _ => by
    show (match Instr.sameNow (.int .i64) (.int .i64 k) (.int .i64 k) with
      | some true => some (some (i, v))
      | some false => Instr.findNow (.int .i64) (.int .i64 k) (ents l2) (i + 1)
      | none => none) = _
    simp [Instr.sameNow]
  | e :: l1, l2, i, h => by
    have h1 : (k == e.1) = false := by simpa using fun q => h e (by simp) q.symm
    show (match Instr.sameNow (.int .i64) (.int .i64 k) (.int .i64 e.1) with
      | some true => some (some (i, e.2.1))
      | some false => Instr.findNow (.int .i64) (.int .i64 k) (ents (l1 ++ (k, v, b) :: l2)) (i + 1)
      | none => none) = _
    have h2 : Instr.sameNow (.int .i64) (.int .i64 k) (.int .i64 e.1) = some false := by simp [Instr.sameNow, h1]
    rw [h2]
    have := find_here k v b l1 l2 (i + 1) fun x hx => h x (by simp [hx])
    simp only [this, List.length_cons]
    congr 3
    omega
section
variable {P : Program} {w : World} {T K E : TypeId} {r c : Nat} {l : List (Int × Value × Nat)}
theorem run_find {K : TypeId} (hK : P.underlying K = some (.int .i64)) (k : Int) (es : List MapEntry) (res : Option (Nat × Value)) (h : Instr.findNow (.int .i64) (.int .i64 k) es 0 = some res) (w : World) : (Instr.findKey K (.int .i64 k) es).run P w = .ok res w := by
  unfold Instr.findKey
  rw [Sem.run_bind, run_underlying hK]
  simp only [Result.andThen_ok, h]
  rfl
theorem run_lookup_absent (hT : P.underlying T = some (.map K E)) (hK : P.underlying K = some (.int .i64)) {z : Value} (hz : (zeroValue E).run P w = .ok z w) (hb : w.heap[r]? = some (.map (ents l).toArray c)) (k : Int) (hk : ∀ e ∈ l, e.1 ≠ k) :
    (Instr.lookup T (.map (some r)) (.int .i64 k) true).run P w = .ok (.tuple #[z, .bool false]) w := by
  have hg := MapKept.run_getObj_map (P := P) hb
  have hf := run_find hK k (ents l) none (find_absent k l 0 hk) w
  have hck := fun e => MapKept.run_checkKey (P := P) (w := w) (k := .int .i64 k) hK rfl e 9999
  unfold Instr.lookup
  simp only [Sem.run_bind, run_underlying hT, Result.andThen_ok, hg, Sem.run_pure, hck, hf, hz]
  rfl
/-- the block of a map turned -/
def mapTo (w : World) (r : Nat) (o : Obj) : World := { w with heap := w.heap.setIfInBounds r o }
theorem mapTo_at {o o' : Obj} (h : w.heap[r]? = some o) : (mapTo w r o').heap[r]? = some o' := by
  have hlt := (Array.getElem?_eq_some_iff.1 h).1
  show (w.heap.setIfInBounds r o')[r]? = some o'
  rw [Array.getElem?_setIfInBounds, if_pos rfl, if_pos hlt]
theorem mapTo_grown (w : World) (r : Nat) (o : Obj) : w.grownBy (mapTo w r o) (some r) :=
  ⟨rfl, rfl, rfl, by simp [mapTo], fun i hi hne => by
    show (w.heap.setIfInBounds r o)[i]? = w.heap[i]?
    rw [Array.getElem?_setIfInBounds, if_neg (fun e => hne (by rw [e]))]⟩
theorem run_update_absent (hT : P.underlying T = some (.map K E)) (hK : P.underlying K = some (.int .i64)) (hb : w.heap[r]? = some (.map (ents l).toArray c)) (k : Int) (v : Value) (hk : ∀ e ∈ l, e.1 ≠ k) :
    (Instr.mapUpdate T (.map (some r)) (.int .i64 k) v).run P w = .ok () (mapTo w r (.map (ents (l ++ [(k, v, c)])).toArray (c + 1))) := by
  have hg := MapKept.run_getObj_map (P := P) hb
  have hf := run_find hK k (ents l) none (find_absent k l 0 hk) w
  have hck := fun e => MapKept.run_checkKey (P := P) (w := w) (k := .int .i64 k) hK rfl e 9999
  have hs := MapKept.run_setObj_map (P := P) (.map (ents (l ++ [(k, v, c)])).toArray (c + 1)) hb
  have he : (ents l).toArray.push { key := .int .i64 k, val := v, born := c } = (ents (l ++ [(k, v, c)])).toArray := by simp [ents]
  unfold Instr.mapUpdate
  simp only [Sem.run_bind, run_underlying hT, Result.andThen_ok, hg, hck, hf, he]
  exact hs
theorem run_clear (hb : w.heap[r]? = some (.map (ents l).toArray c)) (hT : P.underlying T = some (.map K E)) (ty : TypeId) :
    (Builtin.clear_ #[T] ty #[.map (some r)]).run P w = .ok (.tuple #[]) (mapTo w r (.map (ents []).toArray c)) := by
  have hg := MapKept.run_getObj_map (P := P) hb
  have hs := MapKept.run_setObj_map (P := P) (.map (ents []).toArray c) hb
  unfold Builtin.clear_
  simp only [Sem.run_bind, run_underlying hT, Result.andThen_ok, hg, List.getElem?_toArray, List.getElem?_cons_zero]
  rw [show (setObj r (.map (#[] : Array MapEntry) c)).run P w = .ok () (mapTo w r (.map (ents []).toArray c)) from hs]
  rfl
theorem run_delete_absent (hT : P.underlying T = some (.map K E)) (hK : P.underlying K = some (.int .i64)) (hb : w.heap[r]? = some (.map (ents l).toArray c)) (k : Int) (hk : ∀ e ∈ l, e.1 ≠ k) (ty : TypeId) :
    (Builtin.delete_ #[T, K] ty #[.map (some r), .int .i64 k]).run P w = .ok (.tuple #[]) (mapTo w r (.map (ents l).toArray c)) := by
  have hg := MapKept.run_getObj_map (P := P) hb
  have hf := run_find hK k (ents l) none (find_absent k l 0 hk) w
  have hck := fun e => MapKept.run_checkKey (P := P) (w := w) (k := .int .i64 k) hK rfl e 9999
  have hs := MapKept.run_setObj_map (P := P) (.map (ents l).toArray c) hb
  unfold Builtin.delete_
  simp only [Sem.run_bind, run_underlying hT, Result.andThen_ok, hg, hck, hf, List.getElem?_toArray, List.getElem?_cons_zero, List.getElem?_cons_succ]
  rw [show (setObj r (.map (ents l).toArray c)).run P w = .ok () (mapTo w r (.map (ents l).toArray c)) from hs]
  rfl
theorem run_delete_here (hT : P.underlying T = some (.map K E)) (hK : P.underlying K = some (.int .i64)) (k : Int) (v : Value) (b : Nat) (l1 l2 : List (Int × Value × Nat)) (hb : w.heap[r]? = some (.map (ents (l1 ++ (k, v, b) :: l2)).toArray c)) (hk : ∀ e ∈ l1, e.1 ≠ k) (ty : TypeId) :
    (Builtin.delete_ #[T, K] ty #[.map (some r), .int .i64 k]).run P w = .ok (.tuple #[]) (mapTo w r (.map (ents (l1 ++ l2)).toArray c)) := by
  have hg := MapKept.run_getObj_map (P := P) hb
  have hf := run_find hK k (ents (l1 ++ (k, v, b) :: l2)) _ (find_here k v b l1 l2 0 hk) w
  have hck := fun e => MapKept.run_checkKey (P := P) (w := w) (k := .int .i64 k) hK rfl e 9999
  have hs := MapKept.run_setObj_map (P := P) (.map (ents (l1 ++ l2)).toArray c) hb
  have he : (ents (l1 ++ (k, v, b) :: l2)).toArray.eraseIdxIfInBounds (0 + l1.length) = (ents (l1 ++ l2)).toArray := by
    have h1 : (0 + l1.length) < (ents (l1 ++ (k, v, b) :: l2)).toArray.size := by simp [ents]
    rw [Array.eraseIdxIfInBounds_eq, dif_pos h1]
    simp [ents, List.eraseIdx_append_of_length_le]
  unfold Builtin.delete_
  simp only [Sem.run_bind, run_underlying hT, Result.andThen_ok, hg, hck, hf, he, List.getElem?_toArray, List.getElem?_cons_zero, List.getElem?_cons_succ]
  rw [show (setObj r (.map (ents (l1 ++ l2)).toArray c)).run P w = .ok () (mapTo w r (.map (ents (l1 ++ l2)).toArray c)) from hs]
  rfl
end
end Go.Proofs.YtkpldjiloinaoaaDoor
