/- A map from ways to boxes that the call made: what is looked up, and put in anew. -/
import Derived.Test.YtfdiclamjgldnaaBoxPlain
import Derived.MapKept
namespace Go.Proofs.Ytfdiclamjgldnaa
open Go Go.RowKit
set_option linter.unusedVariables false

abbrev Wy := Int × Int
abbrev Went := Wy × Nat × Nat
def eqWy (x y : Wy) : Bool := x.1 == y.1 && x.2 == y.2
theorem eqWy_iff (x y : Wy) : eqWy x y = true ↔ x = y := by
  simp only [eqWy, Bool.and_eq_true, beq_iff_eq]
  exact ⟨fun h => Prod.ext h.1 h.2, fun h => by subst h; exact ⟨rfl, rfl⟩⟩
theorem eqWy_no {x y : Wy} (h : x ≠ y) : eqWy x y = false := by
  cases e : eqWy x y with
  | false => rfl
  | true => exact absurd ((eqWy_iff x y).1 e) h
def wcs (x : Wy) : Array Value := #[.int .i64 x.1, .int .i64 x.2]
theorem runEqWy (x y : Wy) (w : World) : (Op.equalIn 10000 56 (.agg (wcs x)) (.agg (wcs y))).run Try.prog w = .ok (eqWy x y) w := by
  have u3 := Try.underlying3
  have a3 := Try.isAgg3
  have z3 := Try.sizeOf3
  have hS : Try.prog.underlying 56 = some (.struct (Try.prog.fieldsOf 56)) := by kernel_rfl
  have hp : Try.prog.stoodInHeld 56 = false := by kernel_rfl
  simp only [wcs]
  rw [show (10000 : Nat) = 9999 + 1 from rfl, run_equalIn_agg w 9999 56 _ _ hS hp]
  simp only [Program.fieldsOf, Try.underlying56]
  go_simp
  unfold eqWy
  by_cases h1 : x.fst = y.fst <;> by_cases h2 : x.snd = y.snd <;> simp [h1, h2]
def wkey (d : Wy) : Value := .agg (wcs d)
def bptr (a : Nat) : Value := .pointer (some ⟨a, 0, none⟩)
def wents (l : List Went) : List MapEntry := l.map fun e => { key := wkey e.1, val := bptr e.2.1, born := e.2.2 }
theorem runEqWK (x y : Wy) (w : World) : (Op.equal 56 (wkey x) (wkey y)).run Try.prog w = .ok (eqWy x y) w := runEqWy x y w
theorem wask_absent (d : Wy) (w : World) : ∀ (l : List Went) (i : Nat), (∀ e ∈ l, e.1 ≠ d) → (Instr.findAsking 56 (wkey d) (wents l) i).run Try.prog w = .ok none w
  | [], i, _ => rfl
  | e :: l, i, h => by
    show (Instr.findAsking 56 (wkey d) ({ key := wkey e.1, val := bptr e.2.1, born := e.2.2 } :: wents l) i).run Try.prog w = _
    unfold Instr.findAsking
    rw [Sem.run_bind, runEqWK, eqWy_no (fun q => h e (by simp) q.symm)]
    exact wask_absent d w l (i + 1) fun x hx => h x (by simp [hx])
theorem wask_here (d : Wy) (a b : Nat) (l2 : List Went) (w : World) : ∀ (l1 : List Went) (i : Nat), (∀ e ∈ l1, e.1 ≠ d) → (Instr.findAsking 56 (wkey d) (wents (l1 ++ (d, a, b) :: l2)) i).run Try.prog w = .ok (some (i + l1.length, bptr a)) w
  | [], i, _ => by
    show (Instr.findAsking 56 (wkey d) ({ key := wkey d, val := bptr a, born := b } :: wents l2) i).run Try.prog w = _
    unfold Instr.findAsking
    rw [Sem.run_bind, runEqWK, (eqWy_iff d d).2 rfl]
    rfl
  | e :: l1, i, h => by
    show (Instr.findAsking 56 (wkey d) ({ key := wkey e.1, val := bptr e.2.1, born := e.2.2 } :: wents (l1 ++ (d, a, b) :: l2)) i).run Try.prog w = _
    unfold Instr.findAsking
    rw [Sem.run_bind, runEqWK, eqWy_no (fun q => h e (by simp) q.symm)]
    have := wask_here d a b l2 w l1 (i + 1) fun x hx => h x (by simp [hx])
    simp only [Result.andThen_ok, Bool.false_eq_true, if_false, this, List.length_cons]
    congr 3
    omega
theorem wkey_absent (d : Wy) (l : List Went) (h : ∀ e ∈ l, e.1 ≠ d) (w : World) : (Instr.findKey 56 (wkey d) (wents l)).run Try.prog w = .ok none w := by
  unfold Instr.findKey
  rw [Sem.run_bind, run_underlying Try.underlying56]
  cases l with
  | nil => rfl
  | cons e l => exact wask_absent d w (e :: l) 0 h
theorem wkey_here (d : Wy) (a b : Nat) (l1 l2 : List Went) (h : ∀ e ∈ l1, e.1 ≠ d) (w : World) : (Instr.findKey 56 (wkey d) (wents (l1 ++ (d, a, b) :: l2))).run Try.prog w = .ok (some (l1.length, bptr a)) w := by
  unfold Instr.findKey
  rw [Sem.run_bind, run_underlying Try.underlying56]
  have h1 := wask_here d a b l2 w l1 0 h
  rw [Nat.zero_add] at h1
  cases l1 with
  | nil => exact h1
  | cons e l => exact h1
theorem check_way (e : Bool) (d : Wy) (w : World) : (Instr.checkKey e 10000 56 (wkey d)).run Try.prog w = .ok () w := by kernel_rfl
theorem wsplit_at (d : Wy) : ∀ (l : List Went), d ∈ l.map (·.1) → ∃ l1 a b l2, l = l1 ++ (d, a, b) :: l2 ∧ ∀ e ∈ l1, e.1 ≠ d
  | [], h => by simp at h
  | e :: l, h => by
    by_cases he : e.1 = d
    · exact ⟨[], e.2.1, e.2.2, l, by rw [← he]; rfl, fun x hx => by simp at hx⟩
    · obtain ⟨l1, a, b, l2, h1, h2⟩ := wsplit_at d l (by
        rw [List.map_cons] at h
        rcases List.mem_cons.1 h with h | h
        · exact absurd h.symm he
        · exact h)
      exact ⟨e :: l1, a, b, l2, by rw [h1]; rfl, fun x hx => by
        rcases List.mem_cons.1 hx with rfl | hx
        · exact he
        · exact h2 x hx⟩
theorem wabsent_of {d : Wy} {l : List Went} (h : d ∉ l.map (·.1)) : ∀ e ∈ l, e.1 ≠ d := fun e he q => h (List.mem_map.2 ⟨e, he, q⟩)
/-- a map of ways -/
def WMap (w : World) (r c : Nat) (l : List Went) : Prop := w.heap[r]? = some (.map (wents l).toArray c)
theorem run_wlook_no {w : World} {r c : Nat} {l : List Went} (h : WMap w r c l) (d : Wy) (hd : d ∉ l.map (·.1)) : (Instr.lookup 47 (.map (some r)) (wkey d) false).run Try.prog w = .ok (.pointer none) w := by
  have hg := MapKept.run_getObj_map (P := Try.prog) h
  have hz : (zeroValue 52).run Try.prog w = .ok (.pointer none) w := by kernel_rfl
  have hk := wkey_absent d l (wabsent_of hd) w
  unfold Instr.lookup
  simp only [Sem.run_bind, run_underlying Try.underlying47, Result.andThen_ok, hg, Sem.run_pure, check_way, hk, hz]
  rfl
theorem run_wlook_nil (w : World) (d : Wy) : (Instr.lookup 47 (.map none) (wkey d) false).run Try.prog w = .ok (.pointer none) w := by
  have hz : (zeroValue 52).run Try.prog w = .ok (.pointer none) w := by kernel_rfl
  unfold Instr.lookup
  simp only [Sem.run_bind, run_underlying Try.underlying47, Result.andThen_ok, Sem.run_pure, check_way, hz]
  rfl
theorem run_wlook_yes {w : World} {r c : Nat} {l : List Went} (h : WMap w r c l) (hn : (l.map (·.1)).Nodup) (d : Wy) (a b : Nat) (hd : (d, a, b) ∈ l) : (Instr.lookup 47 (.map (some r)) (wkey d) false).run Try.prog w = .ok (bptr a) w := by
  have hg := MapKept.run_getObj_map (P := Try.prog) h
  obtain ⟨l1, l2, rfl⟩ := List.append_of_mem hd
  rw [List.map_append, List.map_cons, List.nodup_append, List.nodup_cons] at hn
  have hk := wkey_here d a b l1 l2 (fun e he q => hn.2.2 e.1 (List.mem_map.2 ⟨e, he, rfl⟩) d (List.mem_cons_self ..) q) w
  unfold Instr.lookup
  simp only [Sem.run_bind, run_underlying Try.underlying47, Result.andThen_ok, hg, Sem.run_pure, check_way, hk]
  rfl
/-- the world with the map at r turned -/
def wmapTo (w : World) (r : Nat) (o : Obj) : World := { w with heap := w.heap.setIfInBounds r o }
theorem wmapTo_at {w : World} {r : Nat} {o o' : Obj} (h : w.heap[r]? = some o) : (wmapTo w r o').heap[r]? = some o' := by
  have hlt := (Array.getElem?_eq_some_iff.1 h).1
  show (w.heap.setIfInBounds r o')[r]? = some o'
  rw [Array.getElem?_setIfInBounds, if_pos rfl, if_pos hlt]
theorem wmapTo_grown (w : World) (r : Nat) (o : Obj) : w.grownBy (wmapTo w r o) (some r) :=
  ⟨rfl, rfl, rfl, by simp [wmapTo], fun i hi hne => by
    show (w.heap.setIfInBounds r o)[i]? = w.heap[i]?
    rw [Array.getElem?_setIfInBounds, if_neg (fun e => hne (by rw [e]))]⟩
theorem run_wput {w : World} {r c : Nat} {l : List Went} (h : WMap w r c l) (d : Wy) (a : Nat) (hd : d ∉ l.map (·.1)) :
    (Instr.mapUpdate 47 (.map (some r)) (wkey d) (bptr a)).run Try.prog w = .ok () (wmapTo w r (.map (wents (l ++ [(d, a, c)])).toArray (c + 1))) := by
  have hg := MapKept.run_getObj_map (P := Try.prog) h
  have hk := wkey_absent d l (wabsent_of hd) w
  have hs := MapKept.run_setObj_map (P := Try.prog) (.map (wents (l ++ [(d, a, c)])).toArray (c + 1)) h
  have he : (wents l).toArray.push { key := wkey d, val := bptr a, born := c } = (wents (l ++ [(d, a, c)])).toArray := by simp [wents]
  unfold Instr.mapUpdate
  simp only [Sem.run_bind, run_underlying Try.underlying47, Result.andThen_ok, hg, check_way, hk, he]
  exact hs
end Go.Proofs.Ytfdiclamjgldnaa
