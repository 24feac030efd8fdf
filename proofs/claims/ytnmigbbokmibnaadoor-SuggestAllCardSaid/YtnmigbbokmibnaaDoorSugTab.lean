/- suggest's table of 65 rows of 65 numbers; how far two texts are. -/
import Derived.Test.YtnmigbbokmibnaaDoorSugRef
import Derived.Test.YtnmigbbokmibnaaDoorSugPlain
import Derived.Great.Walk
import Derived.Deep.QuietTactic
import Derived.BigQuiet
import Derived.Laws.IdiomCopy
namespace Go.Proofs.YtnmigbbokmibnaaDoor
open Go Go.RowKit
set_option linter.unusedVariables false

theorem zero4225 : (Tryd.prog.info? 68).map (fun i => i.zero.map (·.cells)) = some (some (Array.replicate 4225 (.int .i64 0))) := by kernel_rfl
theorem zeroTab : ∃ i Z, Tryd.prog.info? 68 = some i ∧ i.zero = some Z ∧ Z.cells = Array.replicate 4225 (.int .i64 0) := by
  obtain ⟨i, hi, h⟩ := Option.map_eq_some_iff.1 zero4225
  obtain ⟨Z, hz, h⟩ := Option.map_eq_some_iff.1 h
  exact ⟨i, Z, hi, hz, h⟩
section
variable {P : Program} {t : TypeId} {ops : Array Oper} {rest : List Oper} {o : Oper} {a : Act} {w : World} {Q : Exit → Act → World → Prop}
theorem wpList_big {i0 : TypeInfo} {Z : Value} {cs : Array Value} (hi : P.info? t = some i0) (hz : i0.zero = some Z) (hcs : Z.cells = cs) (hg : o.guard = none) (ho : o.op = .alloc t)
    (h : ∀ g w', w.heap.size ≤ g → w'.heap[g]? = some (.cells cs t) → Below w.heap.size w w' → wpList P ops Q rest (a.put o.dst (.pointer (some ⟨g, 0, none⟩))) w') : wpList P ops Q (o :: rest) a w := by
  subst hcs
  have hzr : (zeroValue t).run P w = .ok Z w := by simp [zeroValue, typeInfo, hi, hz]
  refine Great.wpList_runTo hg o.dst rfl (.pointer (some ⟨w.heap.size, 0, none⟩)) (w.alloc (.cells Z.cells t)) ?_ (h _ _ (Nat.le_refl _) (heap_alloc_new w _) ((Below.refl _ _).alloc (Nat.le_refl _) _))
  unfold execOp
  simp only [ho, Instr.alloc, Sem.run_bind, hzr, Result.andThen_ok]
  rfl
end
/-- the table: what is done of it -/
structure Tab (w : World) (T : Nat) (D : Nat → Nat → Nat) (done : Nat → Nat → Prop) : Prop where
  cells : ∀ i k, done i k → i < 65 → k < 65 → w.cell? ⟨T, i * 65 + k, none⟩ = some (.int .i64 (D i k : Nat))
  there : ∀ o, o < 4225 → (w.cell? ⟨T, o, none⟩).isSome = true
  free : ∀ o, w.frozen? ⟨T, o, none⟩ = false
theorem Tab.drewN {w : World} {T : Nat} {D : Nat → Nat → Nat} {done : Nat → Nat → Prop} (h : Tab w T D done) (n : Nat) : Tab (w.drewN n) T D done := ⟨h.cells, h.there, h.free⟩
theorem tab_new {w : World} {T : Nat} {ty : TypeId} {cs : Array Value} (h : w.heap[T]? = some (.cells cs ty (0, 0))) (hc : cs = Array.replicate 4225 (.int .i64 0)) (D : Nat → Nat → Nat) {done : Nat → Nat → Prop} (hd : ∀ i k, ¬ done i k) : Tab w T D done := by
  refine ⟨fun i k h => absurd h (hd i k), fun o ho => ?_, fun o => by simp [World.frozen?, h]⟩
  rw [cell_of_row w T o _ _ _ h, hc]
  simp [ho]
theorem Tab.set {w : World} {T : Nat} {D : Nat → Nat → Nat} {done done' : Nat → Nat → Prop} (h : Tab w T D done) (i k x : Nat) (hi : i < 65) (hk : k < 65) (hx : x = D i k) (hd : ∀ i' k', done' i' k' → k' < 65 → done i' k' ∨ (i' = i ∧ k' = k)) :
    Tab (w.setCell ⟨T, i * 65 + k, none⟩ (.int .i64 (x : Nat))) T D done' := by
  subst hx
  have hin := World.cell?_setCells_in T [.int .i64 (D i k : Nat)] (i * 65 + k) w (fun j hj => by
    have hj0 : j = 0 := by simpa using hj
    subst hj0
    exact h.there _ (by omega)) 0 (by simp)
  have hout := fun o' (ho' : o' ≠ i * 65 + k) => World.cell?_setCells_out T [.int .i64 (D i k : Nat)] (i * 65 + k) w ⟨T, o', none⟩ (fun _ _ => by show o' < _ ∨ _ ≤ o'; simp; omega)
  refine ⟨fun i' k' hd' hi' hk' => ?_, fun o ho => ?_, fun o => ?_⟩
  · by_cases he : i' * 65 + k' = i * 65 + k
    · obtain rfl : i' = i := by omega
      obtain rfl : k' = k := by omega
      exact hin
    · rcases hd i' k' hd' hk' with hd2 | ⟨rfl, rfl⟩
      · exact (hout _ he).trans (h.cells i' k' hd2 hi' hk')
      · exact absurd rfl he
  · by_cases he : o = i * 65 + k
    · subst he; rw [show w.setCell ⟨T, i * 65 + k, none⟩ (.int .i64 (D i k : Nat)) = w.setCells T (i * 65 + k) [.int .i64 (D i k : Nat)] from rfl]
      have e := hin
      rw [Nat.add_zero] at e
      rw [e]; rfl
    · rw [show w.setCell ⟨T, i * 65 + k, none⟩ (.int .i64 (D i k : Nat)) = w.setCells T (i * 65 + k) [.int .i64 (D i k : Nat)] from rfl, hout _ he]
      exact h.there o ho
  · have := World.frozen?_setCells T [.int .i64 (D i k : Nat)] (i * 65 + k) w ⟨T, o, none⟩
    exact this.trans (h.free o)
end Go.Proofs.YtnmigbbokmibnaaDoor
