/- Heaps of sorted: entries of two numbers, their row, what is done to it (plain and as operations). -/
import Derived.Test.YtiadljcfcncbkaaPairs
import Derived.Test.YtiadljcfcncbkaaRgMore
import Derived.WalkKit
import Derived.Deep.MidRow
namespace Go.Proofs.Ytiadljcfcncbkaa
open Go Go.RowKit
set_option linter.unusedVariables false

namespace Hp
/-- an entry: what it is, its turn -/
abbrev E := Int × Int
def d : E := (0, 0)
def sw (l : List E) (i j : Nat) : List E := (l.set i (l.getD j d)).set j (l.getD i d)
theorem sw_len (l : List E) (i j : Nat) : (sw l i j).length = l.length := by unfold sw; rw [List.length_set, List.length_set]
def riseF (lt : E → E → Bool) : Nat → List E → Nat → List E
  | 0, l, _ => l
  | f + 1, l, k => if k = 0 then l else if lt (l.getD k d) (l.getD ((k - 1) / 2) d) then riseF lt f (sw l k ((k - 1) / 2)) ((k - 1) / 2) else l
def rise (lt : E → E → Bool) (l : List E) : List E := riseF lt l.length l (l.length - 1)
def nxt (lt : E → E → Bool) (l : List E) (k : Nat) : Nat := if 2 * k + 2 < l.length ∧ lt (l.getD (2 * k + 2) d) (l.getD (2 * k + 1) d) = true then 2 * k + 2 else 2 * k + 1
def sinkF (lt : E → E → Bool) : Nat → List E → Nat → List E
  | 0, l, _ => l
  | f + 1, l, k => if 2 * k + 1 < l.length then (if lt (l.getD (nxt lt l k) d) (l.getD k d) then sinkF lt f (sw l k (nxt lt l k)) (nxt lt l k) else l) else l
def sink (lt : E → E → Bool) (l : List E) : List E := sinkF lt l.length l 0
/-- the cells of entries -/
def ev (e : E) : Value := .agg #[.int .i64 e.1, .int .i64 e.2]
def ecs (l : List E) : List (Value × Value) := l.map fun e => (.int .i64 e.1, .int .i64 e.2)
theorem ecs_len (l : List E) : (ecs l).length = l.length := by simp [ecs]
theorem ecs_set (l : List E) (i : Nat) (e : E) (hi : i < l.length) : ((pc (ecs l)).set (i * 2) (.int .i64 e.1)).set (i * 2 + 1) (.int .i64 e.2) = pc (ecs (l.set i e)) := by
  have h : ∀ (l : List (Value × Value)) (i : Nat) (x y : Value), i < l.length → ((pc l).set (i * 2) x).set (i * 2 + 1) y = pc (l.set i (x, y)) := by
    intro l
    induction l with
    | nil => intro i x y h; simp at h
    | cons z l ih =>
      intro i x y h
      cases i with
      | zero => rfl
      | succ i =>
        rw [pc_cons, show (i + 1) * 2 = i * 2 + 1 + 1 from by omega, show i * 2 + 1 + 1 + 1 = (i * 2 + 1) + 1 + 1 from rfl]
        simp only [List.set_cons_succ]
        rw [ih i x y (by simpa using h), pc_cons]
  rw [h _ _ _ _ (by rw [ecs_len]; exact hi)]
  congr 1
  simp [ecs, List.map_set]
end Hp
open Hp
/-- entries that lie in a row of the call's own -/
def ERow (w : World) (B G cap : Nat) (l : List E) : Prop := w.ownsRow B 89 2 (.slice (some ⟨G, 0, none⟩) l.length cap) l.length (pc (ecs l))
theorem ERow.lt {w : World} {B G cap : Nat} {l : List E} (h : ERow w B G cap l) : G < w.heap.size := by
  rcases h.2 with ⟨h', _⟩ | ⟨g, cap', cur, h', _, hg, _⟩
  · cases h'
  · injection h' with h1 _ _
    cases h1
    exact (Array.getElem?_eq_some_iff.1 hg).1
theorem ERow.cells {w : World} {B G cap : Nat} {l : List E} (h : ERow w B G cap l) (i : Nat) (hi : i < l.length) : w.cell? ⟨G, i * 2, none⟩ = some (.int .i64 (l.getD i d).1) ∧ w.cell? ⟨G, i * 2 + 1, none⟩ = some (.int .i64 (l.getD i d).2) := by
  obtain ⟨_, p, cap', e, _, _, h3⟩ := own_pc h
  rw [ecs_len] at e
  injection e with e1 _ _
  subst e1
  obtain ⟨g, e2, _, _, h4⟩ := h3 _ rfl
  cases e2
  obtain ⟨c0, c1⟩ := h4 i (by rw [ecs_len]; exact hi)
  have : l.getD i d = l[i] := by simp [List.getD, List.getElem?_eq_getElem hi]
  rw [this]
  exact ⟨by rw [c0]; simp [ecs], by rw [c1]; simp [ecs]⟩
theorem ERow.frozen {w : World} {B G cap : Nat} {l : List E} (h : ERow w B G cap l) (j : Nat) : w.frozen? ⟨G, j, none⟩ = false := World.ownsRow.frozenAt h j
/-- an entry is put in its place -/
def setE (w : World) (G i : Nat) (e : E) : World := (w.setCell ⟨G, i * 2, none⟩ (.int .i64 e.1)).setCell ⟨G, i * 2 + 1, none⟩ (.int .i64 e.2)
theorem ERow.set {w : World} {B G cap : Nat} {l : List E} (h : ERow w B G cap l) (i : Nat) (e : E) (hi : i < l.length) : ERow (setE w G i e) B G cap (l.set i e) ∧ w.grownBy (setE w G i e) (some G) := by
  obtain ⟨h1, g1⟩ := World.ownsRow.stored h (i * 2) (.int .i64 e.1)
  obtain ⟨h2, g2⟩ := World.ownsRow.stored h1 (i * 2 + 1) (.int .i64 e.2)
  rw [ecs_set l i e hi] at h2
  unfold ERow setE
  rw [List.length_set]
  exact ⟨h2, ⟨g2.os.trans g1.os, g2.tape.trans g1.tape, g2.output.trans g1.output, Nat.le_trans g1.size g2.size, fun k hk hne => (g2.block k (Nat.lt_of_lt_of_le hk g1.size) hne).trans (g1.block k hk hne)⟩⟩
theorem ERow.kept {w w' : World} {B G cap : Nat} {l : List E} (h : ERow w B G cap l) (hb : Below w.heap.size w w') : ERow w' B G cap l := own_later2 h hb
theorem grown_trans {w w' w'' : World} {G : Nat} (h : w.grownBy w' (some G)) (k : w'.grownBy w'' (some G)) : w.grownBy w'' (some G) :=
  ⟨k.os.trans h.os, k.tape.trans h.tape, k.output.trans h.output, Nat.le_trans h.size k.size, fun j hj hne => (k.block j (Nat.lt_of_lt_of_le hj h.size) hne).trans (h.block j hj hne)⟩
theorem grown_below {w w' : World} {G : Nat} (h : Below w.heap.size w w') : w.grownBy w' (some G) := ⟨h.os, h.tape, h.output, h.size, fun j hj _ => h.block j hj⟩
theorem grown_refl (w : World) (G : Nat) : w.grownBy w (some G) := ⟨rfl, rfl, rfl, Nat.le_refl _, fun _ _ _ => rfl⟩

/-- an order that a closure tells, of entries that may be, in worlds that may be -/
structure Tell (F : FuncId) (caps : Array Value) (lt : E → E → Bool) (dom : E → Prop) (S : World → Prop) : Prop where
  tell : ∀ a b w, dom a → dom b → S w → Calls Try.prog F (#[ev a, ev b] ++ caps) w fun e w' => e = .returned (.bool (lt a b)) ∧ Below w.heap.size w w'
  enter : ∀ args w, (callFunc F args).run Try.prog w = .ok (.enter F args) w
/-- a world's condition that looks at no entry of a row -/
def Free (G : Nat) (S : World → Prop) : Prop := ∀ w w', S w → w.grownBy w' (some G) → S w'
theorem exec_tell {P : Program} {o : Oper} {a : Act} {w : World} (f : Operand) (xs : Array Operand) (tys : Array TypeId) (ho : o.op = .call { callee := .value f, args := xs, argTypes := tys }) (F : FuncId) (caps : Array Value) (hf : a.eval f = .func (.func F) #[] caps) (args : Array Value) (hargs : xs.map a.eval = args)
    (hc : (callFunc F (args ++ caps)).run P w = .ok (.enter F (args ++ caps)) w) : (execOp a.eval o).run P w = .ok (.enter F (args ++ caps)) w := by
  unfold execOp
  simp only [ho]
  unfold resolve
  simp only [hf, hargs]
  simp [Deferred.ofValue, invoke, hc, Sem.run_bind]
theorem sw_mem {l : List E} {i j : Nat} (hi : i < l.length) (hj : j < l.length) {dom : E → Prop} (h : ∀ e ∈ l, dom e) : ∀ e ∈ sw l i j, dom e := by
  have g : ∀ k, k < l.length → dom (l.getD k d) := fun k hk => by rw [List.getD, List.getElem?_eq_getElem hk]; exact h _ (List.getElem_mem hk)
  intro e he
  unfold sw at he
  rcases List.mem_or_eq_of_mem_set he with he | rfl
  · rcases List.mem_or_eq_of_mem_set he with he | rfl
    · exact h e he
    · exact g j hj
  · exact g i hi
theorem dom_at {l : List E} {dom : E → Prop} (h : ∀ e ∈ l, dom e) {k : Nat} (hk : k < l.length) : dom (l.getD k d) := by
  rw [List.getD, List.getElem?_eq_getElem hk]; exact h _ (List.getElem_mem hk)
theorem sizeE (w : World) : (sizeOf 89).run Try.prog w = .ok 2 w := by kernel_rfl
section
variable {o : Oper} {a : Act} {w : World}
theorem exec_idxE (x y : Operand) (ho : o.op = .indexAddr 72 x y) (G len cap k : Nat) (hx : a.eval x = .slice (some ⟨G, 0, none⟩) len cap) (hy : a.eval y = .int .i64 (k : Int)) (hk : k < len) (w : World) :
    (execOp a.eval o).run Try.prog w = .ok (.value (.pointer (some ⟨G, k * 2, none⟩))) w := by
  have hu : Try.prog.underlying 72 = some (.slice (Try.prog.elem 72)) := by kernel_rfl
  have he : Try.prog.elem 72 = 89 := by kernel_rfl
  unfold execOp
  simp only [ho, hx, hy]
  refine run_value_of ?_
  rw [run_indexAt_slice (h := hu), if_pos (by omega), he, sizeE]
  simp only [Result.andThen_ok, Int.toNat_natCast]
  rw [Addr.add_mid, Nat.zero_add]
theorem exec_loadE (x : Operand) (ho : o.op = .load 89 x) (G k : Nat) (e : E) (hx : a.eval x = .pointer (some ⟨G, k * 2, none⟩)) (h0 : w.cell? ⟨G, k * 2, none⟩ = some (.int .i64 e.1)) (h1 : w.cell? ⟨G, k * 2 + 1, none⟩ = some (.int .i64 e.2)) :
    (execOp a.eval o).run Try.prog w = .ok (.value (ev e)) w := by
  unfold execOp
  simp only [ho, hx]
  refine run_value_of ?_
  refine run_loadAt_mid w G (k * 2) 89 [.int .i64 e.1, .int .i64 e.2] _ (fun j v hj => ?_) Try.underlying89 rfl (by kernel_rfl)
  match j with
  | 0 => cases hj; exact h0
  | 1 => cases hj; exact h1
theorem exec_storeE (x y : Operand) (ho : o.op = .store 89 x y) (G k : Nat) (e : E) (hx : a.eval x = .pointer (some ⟨G, k * 2, none⟩)) (hy : a.eval y = ev e) {B cap : Nat} {l : List E} (hr : ERow w B G cap l) (hk : k < l.length) :
    (execOp a.eval o).run Try.prog w = .ok .skip (setE w G k e) := by
  obtain ⟨c0, c1⟩ := hr.cells k hk
  have f0 := hr.frozen (k * 2)
  have f1 := hr.frozen (k * 2 + 1)
  have h := run_storeAt_mid (P := Try.prog) w G (k * 2) 89 #[.int .i64 e.1, .int .i64 e.2] (fun j hj => by
    match j, hj with
    | 0, _ => exact ⟨by rw [Nat.add_zero, c0]; rfl, f0⟩
    | 1, _ => exact ⟨by rw [c1]; rfl, f1⟩) (by kernel_rfl) (by simp [Value.oneCell'])
  unfold execOp
  simp only [ho, hx, hy, ev]
  simp only [Sem.run_bind, h]
  rfl
end
end Go.Proofs.Ytiadljcfcncbkaa
