/- Maps by texts that the call made: what their operations run to, whatever the elements are (no number of a program stands here). -/
import Derived.Test.YtnjopndkommjnaaDoorRegionFree
import Derived.MapKept
import Derived.Maps.RangeRun
namespace Go.Proofs.YtnjopndkommjnaaDoor
open Go Go.RowKit
set_option linter.unusedVariables false

theorem beqS_self (b : ByteArray) : (b == b) = true := by
  show ByteArray.beq b b = true
  cases b; simp [ByteArray.beq]
theorem beqS_no {a b : ByteArray} (h : a ≠ b) : (a == b) = false := by
  show ByteArray.beq a b = false
  cases a with
  | mk a => cases b with
    | mk b =>
      cases e : ByteArray.beq ⟨a⟩ ⟨b⟩ with
      | false => rfl
      | true =>
        simp [ByteArray.beq] at e
        exact absurd (by rw [e]) h
/-- entries: key, element, when it came -/
def sents (l : List (ByteArray × Value × Nat)) : List MapEntry := l.map fun e => { key := .string e.1, val := e.2.1, born := e.2.2 }
theorem sfind_absent (k : ByteArray) : ∀ (l : List (ByteArray × Value × Nat)) (i : Nat), (∀ e ∈ l, e.1 ≠ k) → Instr.findNow .string (.string k) (sents l) i = some none
  | [], i, _ => rfl
  | e :: l, i, h => by
    have h1 : (k == e.1) = false := beqS_no fun q => h e (by simp) q.symm
    show (match Instr.sameNow .string (.string k) (.string e.1) with
      | some true => some (some (i, e.2.1))
      | some false => Instr.findNow .string (.string k) (sents l) (i + 1)
      | none => none) = some none
    have h2 : Instr.sameNow .string (.string k) (.string e.1) = some false := by simp [Instr.sameNow, h1]
    rw [h2]
    exact sfind_absent k l (i + 1) fun x hx => h x (by simp [hx])
theorem sfind_here (k : ByteArray) (v : Value) (b : Nat) : ∀ (l1 l2 : List (ByteArray × Value × Nat)) (i : Nat), (∀ e ∈ l1, e.1 ≠ k) → Instr.findNow .string (.string k) (sents (l1 ++ (k, v, b) :: l2)) i = some (some (i + l1.length, v))
  | [], l2, i, _ => by
    show (match Instr.sameNow .string (.string k) (.string k) with
      | some true => some (some (i, v))
      | some false => Instr.findNow .string (.string k) (sents l2) (i + 1)
      | none => none) = _
    simp [Instr.sameNow, beqS_self]
  | e :: l1, l2, i, h => by
    have h1 : (k == e.1) = false := beqS_no fun q => h e (by simp) q.symm
    show (match Instr.sameNow .string (.string k) (.string e.1) with
      | some true => some (some (i, e.2.1))
      | some false => Instr.findNow .string (.string k) (sents (l1 ++ (k, v, b) :: l2)) (i + 1)
      | none => none) = _
    have h2 : Instr.sameNow .string (.string k) (.string e.1) = some false := by simp [Instr.sameNow, h1]
    rw [h2]
    have := sfind_here k v b l1 l2 (i + 1) fun x hx => h x (by simp [hx])
    simp only [this, List.length_cons]
    congr 3
    omega
section
variable {P : Program} {w : World} {T K E : TypeId} {r c : Nat} {l : List (ByteArray × Value × Nat)}
theorem run_sfind {K : TypeId} (hK : P.underlying K = some .string) (k : ByteArray) (es : List MapEntry) (res : Option (Nat × Value)) (h : Instr.findNow .string (.string k) es 0 = some res) (w : World) : (Instr.findKey K (.string k) es).run P w = .ok res w := by
  unfold Instr.findKey
  rw [Sem.run_bind, run_underlying hK]
  simp only [Result.andThen_ok, h]
  rfl
theorem run_slookup_absent (hT : P.underlying T = some (.map K E)) (hK : P.underlying K = some .string) {z : Value} (hz : (zeroValue E).run P w = .ok z w) (hb : w.heap[r]? = some (.map (sents l).toArray c)) (k : ByteArray) (hk : ∀ e ∈ l, e.1 ≠ k) :
    (Instr.lookup T (.map (some r)) (.string k) true).run P w = .ok (.tuple #[z, .bool false]) w := by
  have hg := MapKept.run_getObj_map (P := P) hb
  have hf := run_sfind hK k (sents l) none (sfind_absent k l 0 hk) w
  have hck := fun e => MapKept.run_checkKey (P := P) (w := w) (k := .string k) hK trivial e 9999
  unfold Instr.lookup
  simp only [Sem.run_bind, run_underlying hT, Result.andThen_ok, hg, Sem.run_pure, hck, hf, hz]
  rfl
theorem run_slookup1_absent (hT : P.underlying T = some (.map K E)) (hK : P.underlying K = some .string) {z : Value} (hz : (zeroValue E).run P w = .ok z w) (hb : w.heap[r]? = some (.map (sents l).toArray c)) (k : ByteArray) (hk : ∀ e ∈ l, e.1 ≠ k) :
    (Instr.lookup T (.map (some r)) (.string k) false).run P w = .ok z w := by
  have hg := MapKept.run_getObj_map (P := P) hb
  have hf := run_sfind hK k (sents l) none (sfind_absent k l 0 hk) w
  have hck := fun e => MapKept.run_checkKey (P := P) (w := w) (k := .string k) hK trivial e 9999
  unfold Instr.lookup
  simp only [Sem.run_bind, run_underlying hT, Result.andThen_ok, hg, Sem.run_pure, hck, hf, hz]
  rfl
/-- the block of a map turned -/
def smapTo (w : World) (r : Nat) (o : Obj) : World := { w with heap := w.heap.setIfInBounds r o }
theorem smapTo_at {o o' : Obj} (h : w.heap[r]? = some o) : (smapTo w r o').heap[r]? = some o' := by
  have hlt := (Array.getElem?_eq_some_iff.1 h).1
  show (w.heap.setIfInBounds r o')[r]? = some o'
  rw [Array.getElem?_setIfInBounds, if_pos rfl, if_pos hlt]
theorem smapTo_grown (w : World) (r : Nat) (o : Obj) : w.grownBy (smapTo w r o) (some r) :=
  ⟨rfl, rfl, rfl, by simp [smapTo], fun i hi hne => by
    show (w.heap.setIfInBounds r o)[i]? = w.heap[i]?
    rw [Array.getElem?_setIfInBounds, if_neg (fun e => hne (by rw [e]))]⟩
theorem run_supdate_absent (hT : P.underlying T = some (.map K E)) (hK : P.underlying K = some .string) (hb : w.heap[r]? = some (.map (sents l).toArray c)) (k : ByteArray) (v : Value) (hk : ∀ e ∈ l, e.1 ≠ k) :
    (Instr.mapUpdate T (.map (some r)) (.string k) v).run P w = .ok () (smapTo w r (.map (sents (l ++ [(k, v, c)])).toArray (c + 1))) := by
  have hg := MapKept.run_getObj_map (P := P) hb
  have hf := run_sfind hK k (sents l) none (sfind_absent k l 0 hk) w
  have hck := fun e => MapKept.run_checkKey (P := P) (w := w) (k := .string k) hK trivial e 9999
  have hs := MapKept.run_setObj_map (P := P) (.map (sents (l ++ [(k, v, c)])).toArray (c + 1)) hb
  have he : (sents l).toArray.push { key := .string k, val := v, born := c } = (sents (l ++ [(k, v, c)])).toArray := by simp [sents]
  unfold Instr.mapUpdate
  simp only [Sem.run_bind, run_underlying hT, Result.andThen_ok, hg, hck, hf, he]
  exact hs
theorem run_sclear (hb : w.heap[r]? = some (.map (sents l).toArray c)) (hT : P.underlying T = some (.map K E)) (ty : TypeId) :
    (Builtin.clear_ #[T] ty #[.map (some r)]).run P w = .ok (.tuple #[]) (smapTo w r (.map (sents []).toArray c)) := by
  have hg := MapKept.run_getObj_map (P := P) hb
  have hs := MapKept.run_setObj_map (P := P) (.map (sents []).toArray c) hb
  unfold Builtin.clear_
  simp only [Sem.run_bind, run_underlying hT, Result.andThen_ok, hg, List.getElem?_toArray, List.getElem?_cons_zero]
  rw [show (setObj r (.map (#[] : Array MapEntry) c)).run P w = .ok () (smapTo w r (.map (sents []).toArray c)) from hs]
  rfl
theorem run_sdelete_absent (hT : P.underlying T = some (.map K E)) (hK : P.underlying K = some .string) (hb : w.heap[r]? = some (.map (sents l).toArray c)) (k : ByteArray) (hk : ∀ e ∈ l, e.1 ≠ k) (ty : TypeId) :
    (Builtin.delete_ #[T, K] ty #[.map (some r), .string k]).run P w = .ok (.tuple #[]) (smapTo w r (.map (sents l).toArray c)) := by
  have hg := MapKept.run_getObj_map (P := P) hb
  have hf := run_sfind hK k (sents l) none (sfind_absent k l 0 hk) w
  have hck := fun e => MapKept.run_checkKey (P := P) (w := w) (k := .string k) hK trivial e 9999
  have hs := MapKept.run_setObj_map (P := P) (.map (sents l).toArray c) hb
  unfold Builtin.delete_
  simp only [Sem.run_bind, run_underlying hT, Result.andThen_ok, hg, hck, hf, List.getElem?_toArray, List.getElem?_cons_zero, List.getElem?_cons_succ]
  rw [show (setObj r (.map (sents l).toArray c)).run P w = .ok () (smapTo w r (.map (sents l).toArray c)) from hs]
  rfl
theorem run_sdelete_here (hT : P.underlying T = some (.map K E)) (hK : P.underlying K = some .string) (k : ByteArray) (v : Value) (b : Nat) (l1 l2 : List (ByteArray × Value × Nat)) (hb : w.heap[r]? = some (.map (sents (l1 ++ (k, v, b) :: l2)).toArray c)) (hk : ∀ e ∈ l1, e.1 ≠ k) (ty : TypeId) :
    (Builtin.delete_ #[T, K] ty #[.map (some r), .string k]).run P w = .ok (.tuple #[]) (smapTo w r (.map (sents (l1 ++ l2)).toArray c)) := by
  have hg := MapKept.run_getObj_map (P := P) hb
  have hf := run_sfind hK k (sents (l1 ++ (k, v, b) :: l2)) _ (sfind_here k v b l1 l2 0 hk) w
  have hck := fun e => MapKept.run_checkKey (P := P) (w := w) (k := .string k) hK trivial e 9999
  have hs := MapKept.run_setObj_map (P := P) (.map (sents (l1 ++ l2)).toArray c) hb
  have he : (sents (l1 ++ (k, v, b) :: l2)).toArray.eraseIdxIfInBounds (0 + l1.length) = (sents (l1 ++ l2)).toArray := by
    have h1 : (0 + l1.length) < (sents (l1 ++ (k, v, b) :: l2)).toArray.size := by simp [sents]
    rw [Array.eraseIdxIfInBounds_eq, dif_pos h1]
    simp [sents, List.eraseIdx_append_of_length_le]
  unfold Builtin.delete_
  simp only [Sem.run_bind, run_underlying hT, Result.andThen_ok, hg, hck, hf, he, List.getElem?_toArray, List.getElem?_cons_zero, List.getElem?_cons_succ]
  rw [show (setObj r (.map (sents (l1 ++ l2)).toArray c)).run P w = .ok () (smapTo w r (.map (sents (l1 ++ l2)).toArray c)) from hs]
  rfl
theorem run_slookup1_here (hT : P.underlying T = some (.map K E)) (hK : P.underlying K = some .string) (k : ByteArray) (v : Value) (b : Nat) (l1 l2 : List (ByteArray × Value × Nat)) (hb : w.heap[r]? = some (.map (sents (l1 ++ (k, v, b) :: l2)).toArray c)) (hk : ∀ e ∈ l1, e.1 ≠ k) :
    (Instr.lookup T (.map (some r)) (.string k) false).run P w = .ok v w := by
  have hg := MapKept.run_getObj_map (P := P) hb
  have hf := run_sfind hK k (sents (l1 ++ (k, v, b) :: l2)) _ (sfind_here k v b l1 l2 0 hk) w
  have hck := fun e => MapKept.run_checkKey (P := P) (w := w) (k := .string k) hK trivial e 9999
  unfold Instr.lookup
  simp only [Sem.run_bind, run_underlying hT, Result.andThen_ok, hg, Sem.run_pure, hck, hf]
  rfl
theorem run_supdate_here (hT : P.underlying T = some (.map K E)) (hK : P.underlying K = some .string) (k : ByteArray) (v v' : Value) (b : Nat) (l1 l2 : List (ByteArray × Value × Nat)) (hb : w.heap[r]? = some (.map (sents (l1 ++ (k, v, b) :: l2)).toArray c)) (hk : ∀ e ∈ l1, e.1 ≠ k) :
    (Instr.mapUpdate T (.map (some r)) (.string k) v').run P w = .ok () (smapTo w r (.map (sents (l1 ++ (k, v', b) :: l2)).toArray c)) := by
  have hg := MapKept.run_getObj_map (P := P) hb
  have hf := run_sfind hK k (sents (l1 ++ (k, v, b) :: l2)) _ (sfind_here k v b l1 l2 0 hk) w
  have hck := fun e => MapKept.run_checkKey (P := P) (w := w) (k := .string k) hK trivial e 9999
  have hs := MapKept.run_setObj_map (P := P) (.map (sents (l1 ++ (k, v', b) :: l2)).toArray c) hb
  have he : ((sents (l1 ++ (k, v, b) :: l2)).toArray.modify (0 + l1.length) fun e => { e with key := .string k, val := v' }) = (sents (l1 ++ (k, v', b) :: l2)).toArray := by
    apply Array.ext_getElem?
    intro j
    rw [Array.getElem?_modify]
    simp only [sents, List.map_append, List.map_cons, List.getElem?_toArray, Nat.zero_add]
    by_cases h1 : l1.length = j
    · subst h1; simp
    · rw [if_neg h1]
      by_cases h2 : j < l1.length
      · rw [List.getElem?_append_left (by simpa using h2), List.getElem?_append_left (by simpa using h2)]
      · rw [List.getElem?_append_right (by simp; omega), List.getElem?_append_right (by simp; omega)]
        simp only [List.length_map]
        rw [show j - l1.length = (j - l1.length - 1) + 1 by omega, List.getElem?_cons_succ, List.getElem?_cons_succ]
  have hks : ∀ (x : Value) (W : World), (Instr.keyThatStays (.string k) (.string k)).run P W = .ok (.string k) W := fun x W => MapKept.run_keyThatStays (d := .string) trivial
  have hel : (((sents (l1 ++ (k, v, b) :: l2)).toArray[0 + l1.length]?).map (·.key)).getD (.string k) = .string k := by simp [sents]
  unfold Instr.mapUpdate
  simp only [Sem.run_bind, run_underlying hT, Result.andThen_ok, hg, hck, hf, hel, hks (.string k), he]
  exact hs
theorem run_slookup_here (hT : P.underlying T = some (.map K E)) (hK : P.underlying K = some .string) (k : ByteArray) (v : Value) (b : Nat) (l1 l2 : List (ByteArray × Value × Nat)) (hb : w.heap[r]? = some (.map (sents (l1 ++ (k, v, b) :: l2)).toArray c)) (hk : ∀ e ∈ l1, e.1 ≠ k) :
    (Instr.lookup T (.map (some r)) (.string k) true).run P w = .ok (.tuple #[v, .bool true]) w := by
  have hg := MapKept.run_getObj_map (P := P) hb
  have hf := run_sfind hK k (sents (l1 ++ (k, v, b) :: l2)) _ (sfind_here k v b l1 l2 0 hk) w
  have hck := fun e => MapKept.run_checkKey (P := P) (w := w) (k := .string k) hK trivial e 9999
  unfold Instr.lookup
  simp only [Sem.run_bind, run_underlying hT, Result.andThen_ok, hg, Sem.run_pure, hck, hf]
  rfl
end
end Go.Proofs.YtnjopndkommjnaaDoor
