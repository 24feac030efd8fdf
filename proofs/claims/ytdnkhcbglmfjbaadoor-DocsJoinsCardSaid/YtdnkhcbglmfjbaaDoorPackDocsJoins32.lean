/- The statement DocsJoins, proved for every input that its row reads: part 32 of 54. -/
import Derived.Test.YtdnkhcbglmfjbaaDoorPackDocsJoins31
import Derived.MapKept
/- Two writes held against one another. -/
namespace Go.Proofs.YtdnkhcbglmfjbaaDoor
open Go Go.RowKit
set_option linter.unusedVariables false
set_option maxRecDepth 1000000

theorem runEqDt9A (r n r' n' : Int) (w : World) : (Op.equalIn 9999 32 (.agg #[.int .i64 r, .int .i64 n]) (.agg #[.int .i64 r', .int .i64 n'])).run Tryd.prog w = .ok (r == r' && n == n') w := by
  have u3 := Tryd.underlying3
  have a3 := Tryd.isAgg3
  have z3 := Tryd.sizeOf3
  have hS : Tryd.prog.underlying 32 = some (.struct (Tryd.prog.fieldsOf 32)) := by kernel_rfl
  have hp : Tryd.prog.stoodInHeld 32 = false := by kernel_rfl
  rw [show (9999 : Nat) = 9998 + 1 from rfl, run_equalIn_agg w 9998 32 _ _ hS hp]
  simp only [Program.fieldsOf, Tryd.underlying32]
  go_simp
  by_cases h1 : r = r' <;> by_cases h2 : n = n' <;> simp [h1, h2]
/-- are two writes the same? -/
noncomputable def eqW (x y : Wr) : Bool := @decide (x = y) (Classical.propDecidable _)
theorem eqW_yes (x : Wr) : eqW x x = true := by unfold eqW; simp
theorem eqW_no {x y : Wr} (h : x ≠ y) : eqW x y = false := by unfold eqW; simp [h]
theorem eqW_iff {x y : Wr} : eqW x y = true ↔ x = y := by unfold eqW; simp
theorem neB2 (x y : ByteArray) (h : ¬ x = y) : ¬ x.toList = y.toList := fun e => h (ByteArray.ext (Array.toList_inj.1 (by rw [Lib.toList_data, Lib.toList_data] at e; exact e)))
theorem runEqWA (x y : Wr) (w : World) : (Op.equalIn 10000 34 (.agg x.cells.toArray) (.agg y.cells.toArray)).run Tryd.prog w = .ok (eqW x y) w := by
  have u3 := Tryd.underlying3
  have a3 := Tryd.isAgg3
  have z3 := Tryd.sizeOf3
  have u9 := Tryd.underlying9
  have a9 := Tryd.isAgg9
  have z9 := Tryd.sizeOf9
  have ud := Tryd.underlying32
  have ad := Tryd.isAgg32
  have zd := Tryd.sizeOf32
  have hS : Tryd.prog.underlying 34 = some (.struct (Tryd.prog.fieldsOf 34)) := by kernel_rfl
  have hp : Tryd.prog.stoodInHeld 34 = false := by kernel_rfl
  by_cases hxy : x = y
  · subst hxy
    rw [eqW_yes]; exact runEqW x w
  rw [eqW_no hxy]
  obtain ⟨r, n, t, d, f, tx⟩ := x
  obtain ⟨r', n', t', d', f', tx'⟩ := y
  have hd := runEqDt9A r n r' n'
  simp only [Wr.cells]
  rw [show (10000 : Nat) = 9999 + 1 from rfl, run_equalIn_agg w 9999 34 _ _ hS hp]
  simp only [Program.fieldsOf, Tryd.underlying34]
  by_cases h1 : r = r'
  · by_cases h2 : n = n'
    · by_cases h3 : t = t'
      · by_cases h4 : d = d'
        · by_cases h5 : f = f'
          · by_cases h6 : tx = tx'
            · exact absurd (by rw [h1, h2, h3, h4, h5, h6]) hxy
            · have h6 := neB2 _ _ h6
              subst h1; subst h2; subst h3; subst h4; subst h5
              go_simp
          · subst h1; subst h2; subst h3; subst h4
            go_simp
        · have h4 := neB2 _ _ h4
          subst h1; subst h2; subst h3
          go_simp
      · subst h1; subst h2
        go_simp
    · subst h1
      go_simp
  · go_simp
end Go.Proofs.YtdnkhcbglmfjbaaDoor
/- A set of writes in a map of the call's own. -/
namespace Go.Proofs.YtdnkhcbglmfjbaaDoor
open Go Go.RowKit
set_option linter.unusedVariables false
set_option maxRecDepth 1000000

def wkey (d : Wr) : Value := .agg d.cells.toArray
def wents (l : List (Wr × Nat)) : List MapEntry := l.map fun e => { key := wkey e.1, val := .agg #[], born := e.2 }
theorem runEqKW (x y : Wr) (w : World) : (Op.equal 34 (wkey x) (wkey y)).run Tryd.prog w = .ok (eqW x y) w := runEqWA x y w
theorem ask_absentW (d : Wr) (w : World) : ∀ (l : List (Wr × Nat)) (i : Nat), (∀ e ∈ l, e.1 ≠ d) → (Instr.findAsking 34 (wkey d) (wents l) i).run Tryd.prog w = .ok none w
  | [], i, _ => rfl
  | e :: l, i, h => by
    show (Instr.findAsking 34 (wkey d) ({ key := wkey e.1, val := .agg #[], born := e.2 } :: wents l) i).run Tryd.prog w = _
    unfold Instr.findAsking
    rw [Sem.run_bind, runEqKW, eqW_no (fun q => h e (by simp) q.symm)]
    exact ask_absentW d w l (i + 1) fun x hx => h x (by simp [hx])
theorem ask_hereW (d : Wr) (b : Nat) (l2 : List (Wr × Nat)) (w : World) : ∀ (l1 : List (Wr × Nat)) (i : Nat), (∀ e ∈ l1, e.1 ≠ d) → (Instr.findAsking 34 (wkey d) (wents (l1 ++ (d, b) :: l2)) i).run Tryd.prog w = .ok (some (i + l1.length, .agg #[])) w
  | [], i, _ => by
    show (Instr.findAsking 34 (wkey d) ({ key := wkey d, val := .agg #[], born := b } :: wents l2) i).run Tryd.prog w = _
    unfold Instr.findAsking
    rw [Sem.run_bind, runEqKW, eqW_yes d]
    rfl
  | e :: l1, i, h => by
    show (Instr.findAsking 34 (wkey d) ({ key := wkey e.1, val := .agg #[], born := e.2 } :: wents (l1 ++ (d, b) :: l2)) i).run Tryd.prog w = _
    unfold Instr.findAsking
    rw [Sem.run_bind, runEqKW, eqW_no (fun q => h e (by simp) q.symm)]
    have := ask_hereW d b l2 w l1 (i + 1) fun x hx => h x (by simp [hx])
    simp only [Result.andThen_ok, Bool.false_eq_true, if_false, this, List.length_cons]
    congr 3
    omega
theorem key_absentW (d : Wr) (l : List (Wr × Nat)) (h : ∀ e ∈ l, e.1 ≠ d) (w : World) : (Instr.findKey 34 (wkey d) (wents l)).run Tryd.prog w = .ok none w := by
  unfold Instr.findKey
  rw [Sem.run_bind, run_underlying Tryd.underlying34]
  cases l with
  | nil => rfl
  | cons e l => exact ask_absentW d w (e :: l) 0 h
theorem key_hereW (d : Wr) (b : Nat) (l1 l2 : List (Wr × Nat)) (h : ∀ e ∈ l1, e.1 ≠ d) (w : World) : (Instr.findKey 34 (wkey d) (wents (l1 ++ (d, b) :: l2))).run Tryd.prog w = .ok (some (l1.length, .agg #[])) w := by
  unfold Instr.findKey
  rw [Sem.run_bind, run_underlying Tryd.underlying34]
  have h1 := ask_hereW d b l2 w l1 0 h
  rw [Nat.zero_add] at h1
  cases l1 with
  | nil => exact h1
  | cons e l => exact h1
theorem check_wr (e : Bool) (d : Wr) (w : World) : (Instr.checkKey e 10000 34 (wkey d)).run Tryd.prog w = .ok () w := by kernel_rfl
theorem stays_wr (d : Wr) (w : World) : (Instr.keyThatStays (wkey d) (wkey d)).run Tryd.prog w = .ok (wkey d) w := by
  have h : Instr.sameBits 10000 (wkey d) (wkey d) = true := by
    have hb : ∀ b : ByteArray, (b == b) = true := fun b => by
      show ByteArray.beq b b = true
      cases b; simp [ByteArray.beq]
    simp [wkey, Wr.cells, Instr.sameBits, hb]
  unfold Instr.keyThatStays
  rw [if_pos h]; rfl
/-- the map at r has just the dots of S -/
def WSet (w : World) (r : Nat) (S : List Wr) : Prop := ∃ (l : List (Wr × Nat)) (c : Nat), w.heap[r]? = some (.map (wents l).toArray c) ∧ ∀ d, d ∈ l.map (·.1) ↔ d ∈ S
theorem WSet.lt {w : World} {r : Nat} {S : List Wr} (h : WSet w r S) : r < w.heap.size := by obtain ⟨l, c, h, _⟩ := h; exact (Array.getElem?_eq_some_iff.1 h).1
theorem WSet.kept {w w' : World} {r : Nat} {S : List Wr} (h : WSet w r S) {row : Option Nat} (hg : w.grownBy w' row) (hne : some r ≠ row) : WSet w' r S := by
  have hlt := h.lt
  obtain ⟨l, c, h, hm⟩ := h
  exact ⟨l, c, (hg.block r hlt hne).trans h, hm⟩
theorem WSet.later {w w' : World} {r : Nat} {S : List Wr} (h : WSet w r S) (hb : Below w.heap.size w w') : WSet w' r S := by
  have hlt := h.lt
  obtain ⟨l, c, h, hm⟩ := h
  exact ⟨l, c, (hb.block r hlt).trans h, hm⟩
theorem split_atW (d : Wr) : ∀ (l : List (Wr × Nat)), d ∈ l.map (·.1) → ∃ l1 b l2, l = l1 ++ (d, b) :: l2 ∧ ∀ e ∈ l1, e.1 ≠ d
  | [], h => by simp at h
  | e :: l, h => by
    by_cases he : e.1 = d
    · exact ⟨[], e.2, l, by rw [← he]; rfl, fun x hx => by simp at hx⟩
    · obtain ⟨l1, b, l2, h1, h2⟩ := split_atW d l (by
        rw [List.map_cons] at h
        rcases List.mem_cons.1 h with h | h
        · exact absurd h.symm he
        · exact h)
      exact ⟨e :: l1, b, l2, by rw [h1]; rfl, fun x hx => by
        rcases List.mem_cons.1 hx with rfl | hx
        · exact he
        · exact h2 x hx⟩
theorem absent_ofW {d : Wr} {l : List (Wr × Nat)} (h : d ∉ l.map (·.1)) : ∀ e ∈ l, e.1 ≠ d := fun e he q => h (List.mem_map.2 ⟨e, he, q⟩)
/-- is a write one of these? -/
noncomputable def inW (S : List Wr) (d : Wr) : Bool := @decide (d ∈ S) (Classical.propDecidable _)
theorem inW_iff {S : List Wr} {d : Wr} : inW S d = true ↔ d ∈ S := by unfold inW; simp
theorem run_wlook {w : World} {r : Nat} {S : List Wr} (h : WSet w r S) (d : Wr) : (Instr.lookup 68 (.map (some r)) (wkey d) true).run Tryd.prog w = .ok (.tuple #[.agg #[], .bool (inW S d)]) w := by
  obtain ⟨l, c, hb, hm⟩ := h
  have hg := MapKept.run_getObj_map (P := Tryd.prog) hb
  have hz : (zeroValue 69).run Tryd.prog w = .ok (.agg #[]) w := by kernel_rfl
  unfold Instr.lookup
  by_cases hd : d ∈ S
  · obtain ⟨l1, b, l2, rfl, hl⟩ := split_atW d l ((hm d).2 hd)
    have hk := key_hereW d b l1 l2 hl w
    rw [show inW S d = true from inW_iff.2 hd]
    simp only [Sem.run_bind, run_underlying Tryd.underlying68, Result.andThen_ok, hg, Sem.run_pure, check_wr, hk]
    rfl
  · have hk := key_absentW d l (absent_ofW fun q => hd ((hm d).1 q)) w
    rw [show inW S d = false by rw [Bool.eq_false_iff]; exact fun q => hd (inW_iff.1 q)]
    simp only [Sem.run_bind, run_underlying Tryd.underlying68, Result.andThen_ok, hg, Sem.run_pure, check_wr, hk, hz]
    rfl
theorem run_wput {w : World} {r : Nat} {S : List Wr} (h : WSet w r S) (d : Wr) : ∃ w', (Instr.mapUpdate 68 (.map (some r)) (wkey d) (.agg #[])).run Tryd.prog w = .ok () w' ∧ WSet w' r (S ++ [d]) ∧ w.grownBy w' (some r) := by
  obtain ⟨l, c, hb, hm⟩ := h
  have hg := MapKept.run_getObj_map (P := Tryd.prog) hb
  have hlt := (Array.getElem?_eq_some_iff.1 hb).1
  have to : ∀ o : Obj, ({ w with heap := w.heap.setIfInBounds r o } : World).heap[r]? = some o := fun o => by
    show (w.heap.setIfInBounds r o)[r]? = some o
    rw [Array.getElem?_setIfInBounds, if_pos rfl, if_pos hlt]
  have gr : ∀ o : Obj, w.grownBy ({ w with heap := w.heap.setIfInBounds r o } : World) (some r) := fun o => ⟨rfl, rfl, rfl, by simp, fun i hi hne => by
    show (w.heap.setIfInBounds r o)[i]? = w.heap[i]?
    rw [Array.getElem?_setIfInBounds, if_neg (fun e => hne (by rw [e]))]⟩
  by_cases hd : d ∈ l.map (·.1)
  · obtain ⟨l1, b, l2, rfl, hl⟩ := split_atW d l hd
    have hk := key_hereW d b l1 l2 hl w
    have hs := MapKept.run_setObj_map (P := Tryd.prog) (.map (wents (l1 ++ (d, b) :: l2)).toArray c) hb
    have he : ((wents (l1 ++ (d, b) :: l2)).toArray.modify l1.length fun e => { e with key := wkey d, val := .agg #[] }) = (wents (l1 ++ (d, b) :: l2)).toArray := by
      apply Array.ext_getElem?
      intro j
      rw [Array.getElem?_modify]
      by_cases h1 : l1.length = j
      · subst h1; simp [wents]
      · rw [if_neg h1]
    have hel : (((wents (l1 ++ (d, b) :: l2)).toArray[l1.length]?).map (·.key)).getD (wkey d) = wkey d := by simp [wents]
    refine ⟨_, ?_, ⟨_, c, to (.map (wents (l1 ++ (d, b) :: l2)).toArray c), fun x => ?_⟩, gr _⟩
    · unfold Instr.mapUpdate
      simp only [Sem.run_bind, run_underlying Tryd.underlying68, Result.andThen_ok, hg, check_wr, hk, hel, stays_wr, he]
      exact hs
    · rw [hm x, List.mem_append, List.mem_singleton]
      constructor
      · exact .inl
      · rintro (h | rfl)
        · exact h
        · exact (hm x).1 hd
  · have hk := key_absentW d l (absent_ofW hd) w
    have hs := MapKept.run_setObj_map (P := Tryd.prog) (.map (wents (l ++ [(d, c)])).toArray (c + 1)) hb
    have he : (wents l).toArray.push { key := wkey d, val := .agg #[], born := c } = (wents (l ++ [(d, c)])).toArray := by simp [wents]
    refine ⟨_, ?_, ⟨_, c + 1, to (.map (wents (l ++ [(d, c)])).toArray (c + 1)), fun x => ?_⟩, gr _⟩
    · unfold Instr.mapUpdate
      simp only [Sem.run_bind, run_underlying Tryd.underlying68, Result.andThen_ok, hg, check_wr, hk, he]
      exact hs
    · rw [List.map_append, List.mem_append, List.mem_append, hm x]
      simp
theorem wset_new (w : World) : WSet (w.alloc (.map #[] 0)) w.heap.size [] := ⟨[], 0, heap_alloc_new w _, fun d => by simp⟩
end Go.Proofs.YtdnkhcbglmfjbaaDoor
