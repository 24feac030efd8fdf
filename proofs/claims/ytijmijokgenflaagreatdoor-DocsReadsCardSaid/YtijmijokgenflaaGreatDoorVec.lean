/- Rows of 64 numbers by value: what is at a place, whether two are the same. No number of a program stands here. -/
import Derived.Test.YtijmijokgenflaaGreatDoorMem
import Derived.Deep.MidRow
import Derived.Deep.WholeRow
import Derived.Laws.StructEq
namespace Go.Proofs.YtijmijokgenflaaGreatDoor
open Go Go.RowKit
set_option linter.unusedVariables false

/-- the cells of a row of 64 numbers -/
def vf (f : Nat → Int) : Array Value := ((List.range 64).map fun i => Value.int .i64 (f i)).toArray
theorem vf_size (f : Nat → Int) : (vf f).size = 64 := by simp [vf]
theorem vf_get (f : Nat → Int) (i : Nat) (h : i < 64) : (vf f)[i]? = some (.int .i64 (f i)) := by simp [vf, h]
theorem vf_none (f : Nat → Int) (i : Nat) (h : 64 ≤ i) : (vf f)[i]? = none := by simp [vf, h]
theorem vf_congr {f g : Nat → Int} (h : ∀ i, i < 64 → f i = g i) : vf f = vf g := by
  unfold vf
  congr 1
  apply List.map_congr_left
  intro i hi
  rw [h i (List.mem_range.1 hi)]
theorem vf_one (f : Nat → Int) : (vf f).all (·.oneCell') = true := by
  rw [Array.all_eq_true_iff_forall_mem]
  intro v hv
  simp [vf] at hv
  obtain ⟨i, _, rfl⟩ := hv
  rfl
/-- one place turned -/
def vset (f : Nat → Int) (k : Nat) (x : Int) : Nat → Int := fun i => if i = k then x else f i
theorem vf_set (f : Nat → Int) (k : Nat) (x : Int) : (vf f).setIfInBounds k (.int .i64 x) = vf (vset f k x) := by
  apply Array.ext_getElem?
  intro i
  rw [Array.getElem?_setIfInBounds]
  by_cases h : k = i
  · subst h
    by_cases hk : k < 64
    · rw [if_pos rfl, if_pos (by rw [vf_size]; exact hk), vf_get _ _ hk]; simp [vset]
    · simp [vf_size, hk, vf_none _ _ (by omega : 64 ≤ k)]
  · rw [if_neg h]
    by_cases hi : i < 64
    · rw [vf_get _ _ hi, vf_get _ _ hi]; simp [vset, show i ≠ k from fun e => h e.symm]
    · rw [vf_none _ _ (by omega), vf_none _ _ (by omega)]

/-- a type of rows of 64 ints -/
structure Vec (P : Program) (t e : TypeId) : Prop where
  array : P.underlying t = some (.array 64 e)
  elem : P.underlying e = some (.int .i64)
  info : (P.info? e).map (·.size) = some 1
  whole : (P.info? t).map (·.size) = some 64

section
variable {P : Program} {t e : TypeId}

theorem Vec.sizeOf (V : Vec P t e) (w : World) : (Go.sizeOf e).run P w = .ok 1 w := by
  cases h : P.info? e with
  | none => have := V.info; simp [h] at this
  | some i => have := V.info; simp [h] at this; simp [Go.sizeOf, typeInfo, h, this]
theorem Vec.isAgg (V : Vec P t e) (w : World) : (Go.isAgg e).run P w = .ok false w := by
  unfold Go.isAgg
  rw [Sem.run_bind, run_underlying V.elem w]
  rfl
theorem Vec.part (V : Vec P t e) (cs : Array Value) (i : Nat) (v : Value) (h : cs[i]? = some v) (w : World) : (Go.part e cs i).run P w = .ok v w := by
  unfold Go.part
  rw [Sem.run_bind, V.isAgg w]
  simp [Result.andThen, h]
/-- 'a[i]' -/
theorem Vec.index (V : Vec P t e) (f : Nat → Int) (k : IntKind) (x : Int) (i : Nat) (hx : x = i) (hi : i < 64) (w : World) : (Instr.index t (.agg (vf f)) (.int k x)).run P w = .ok (.int .i64 (f i)) w := by
  subst hx
  have hlt : (0 : Int) ≤ (i : Int) ∧ (i : Int) < ((64 : Nat) : Int) := by omega
  simp only [Instr.index, asIntOf, Sem.run_bind, Sem.run_pure, Result.andThen_ok, run_underlying V.array w, hlt, and_self, if_true, V.sizeOf w, Nat.mul_one, Int.toNat_natCast]
  exact V.part (vf f) i _ (vf_get f i hi) w
/-- are two the same at all places of a list? -/
def vsame (f g : Nat → Int) : List Nat → Bool
  | [] => true
  | i :: l => (f i == g i) && vsame f g l
theorem vsame_all (f g : Nat → Int) (l : List Nat) : vsame f g l = true ↔ ∀ i, i ∈ l → f i = g i := by
  induction l with
  | nil => simp [vsame]
  | cons i l ih => simp [vsame, ih]
/-- are two the same? -/
def veq (f g : Nat → Int) : Bool := vsame f g (List.range 64)
theorem veq_iff (f g : Nat → Int) : veq f g = true ↔ ∀ i, i < 64 → f i = g i := by
  unfold veq
  rw [vsame_all]
  simp
theorem veq_of {f g : Nat → Int} (h : ∀ i, i < 64 → f i = g i) : veq f g = true := (veq_iff f g).2 h
theorem veq_no {f g : Nat → Int} (i : Nat) (hi : i < 64) (h : f i ≠ g i) : veq f g = false := by
  cases e : veq f g with
  | false => rfl
  | true => exact absurd ((veq_iff f g).1 e i hi) h
theorem veq_self (f : Nat → Int) : veq f f = true := veq_of fun _ _ => rfl
theorem veq_vf {f g : Nat → Int} (h : veq f g = true) : vf f = vf g := vf_congr ((veq_iff f g).1 h)

theorem Vec.equalIn (V : Vec P t e) (d : Nat) (f g : Nat → Int) (w : World) : (Op.equalIn (d + 2) t (.agg (vf f)) (.agg (vf g))).run P w = .ok (veq f g) w := by
  have key : ∀ l : List Nat, (∀ i, i ∈ l → i < 64) → ∀ w : World,
      (forIn l ((none, ()) : Option Bool × Unit) (fun i _ => do
        let a ← Go.part e (vf f) (i * 1)
        let b ← Go.part e (vf g) (i * 1)
        let r ← Op.equalIn (d + 1) e a b
        if (!r) = true then pure (ForInStep.done (some false, ())) else pure (ForInStep.yield (none, ()))) : Sem (Option Bool × Unit)).run P w = .ok (if vsame f g l then (none, ()) else (some false, ())) w := by
    intro l
    induction l with
    | nil => intro _ w; simp [vsame]
    | cons i l ih =>
      intro h w
      have hi := h i (by simp)
      simp only [List.forIn_cons, Sem.run_bind, Nat.mul_one, V.part (vf f) i _ (vf_get f i hi) w, V.part (vf g) i _ (vf_get g i hi) w, Result.andThen_ok, run_equalIn_int w d e .i64 .i64 (f i) (g i) V.elem]
      by_cases hq : f i = g i
      · have := ih (fun j hj => h j (by simp [hj])) w
        simp only [Nat.mul_one] at this
        simp only [hq, beq_self_eq_true, Bool.not_true, Bool.false_eq_true, if_false, Sem.run_pure, Result.andThen_ok, vsame, Bool.true_and]
        exact this
      · simp [hq, vsame]
  have hk := key (List.range 64) (fun i hi => List.mem_range.1 hi) w
  unfold Op.equalIn
  simp only [Sem.run_bind, run_underlying V.array w, Result.andThen_ok, V.sizeOf w]
  rw [List.range_eq_range'] at hk
  simp only [Std.Legacy.Range.forIn_eq_forIn_range', Std.Legacy.Range.size, Nat.sub_zero, Nat.add_one_sub_one, Nat.div_one, hk, Result.andThen_ok]
  unfold veq
  rw [List.range_eq_range']
  cases vsame f g (List.range' 0 64) <;> simp
theorem Vec.eql (V : Vec P t e) (f g : Nat → Int) (w : World) : (binOp .eql t (.agg (vf f)) (.agg (vf g))).run P w = .ok (.bool (veq f g)) w := by
  rw [run_eql_struct, V.equalIn 9998 f g w]; rfl
theorem Vec.neq (V : Vec P t e) (f g : Nat → Int) (w : World) : (binOp .neq t (.agg (vf f)) (.agg (vf g))).run P w = .ok (.bool (!veq f g)) w := by
  rw [run_neq_struct, V.equalIn 9998 f g w]; rfl
/-- the row of noughts -/
theorem vf_zero : vf (fun _ => 0) = Array.replicate 64 (.int .i64 0) := by
  apply Array.ext_getElem?
  intro i
  by_cases h : i < 64
  · rw [vf_get _ _ h]; simp [h]
  · rw [vf_none _ _ (by omega)]; simp [h]
end
end Go.Proofs.YtijmijokgenflaaGreatDoor
