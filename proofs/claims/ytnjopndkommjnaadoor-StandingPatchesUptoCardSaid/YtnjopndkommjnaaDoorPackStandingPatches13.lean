/- The statement StandingPatches, proved for every input that its row reads: part 13 of 54. -/
import Derived.Test.YtnjopndkommjnaaDoorPackStandingPatches10
/- Rows of changes. -/
namespace Go.Proofs.YtnjopndkommjnaaDoor
open Go Go.RowKit
set_option linter.unusedVariables false
set_option maxRecDepth 1000000

def Chg.cells (x : Chg) : List Value := [.int .i64 x.kind, .string x.hit.id, .int .i64 x.hit.score]
theorem Chg.cells_len (x : Chg) : x.cells.length = 3 := rfl
theorem Chg.cells_one (x : Chg) : ∀ u ∈ x.cells, u.oneCell' = true := by
  intro u hu
  simp [Chg.cells] at hu
  rcases hu with rfl | rfl | rfl <;> rfl
def ccl (L : List Chg) : List Value := L.flatMap Chg.cells
theorem ccl_length (L : List Chg) : (ccl L).length = L.length * 3 := flat_len Chg.cells_len L
theorem ccl_append (a b : List Chg) : ccl (a ++ b) = ccl a ++ ccl b := by simp [ccl]
theorem ccl_snoc (l : List Chg) (x : Chg) : ccl (l ++ [x]) = ccl l ++ x.cells := by rw [ccl_append]; simp [ccl]
theorem ccl_one (L : List Chg) : ∀ u ∈ ccl L, u.oneCell' = true := by
  intro u hu
  obtain ⟨x, _, h⟩ := List.mem_flatMap.1 hu
  exact x.cells_one u h
theorem ccl_take : ∀ (L : List Chg) (k : Nat), ccl (L.take k) = (ccl L).take (k * 3)
  | [], k => by simp [ccl]
  | x :: L, 0 => by simp [ccl]
  | x :: L, k + 1 => by
    have h := ccl_take L k
    rw [List.take_succ_cons, show ccl (x :: L.take k) = x.cells ++ ccl (L.take k) from rfl, show ccl (x :: L) = x.cells ++ ccl L from rfl, h, show (k + 1) * 3 = x.cells.length + k * 3 by rw [Chg.cells_len]; omega, List.take_length_add_append]
structure ChgsAt (w : World) (p : Option Addr) (L : List Chg) : Prop where
  row : L ≠ [] → ∃ b o, p = some ⟨b, o, none⟩ ∧ w.rangeAt b o (ccl L)
  none : p = none → L = []
theorem ChgsAt.below {w w' : World} {p : Option Addr} {L : List Chg} (h : ChgsAt w p L) (hb : Below w.heap.size w w') : ChgsAt w' p L :=
  ⟨fun hn => by
    obtain ⟨b, o, rfl, hr⟩ := h.row hn
    exact ⟨b, o, rfl, range_below hr hb⟩, h.none⟩
theorem ChgsAt.at {w : World} {p : Option Addr} {L : List Chg} (h : ChgsAt w p L) {i : Nat} (hi : i < L.length) :
    ∃ b o, p = some ⟨b, o, Option.none⟩ ∧ b < w.heap.size ∧ w.rangeAt b (o + i * 3) L[i].cells := by
  obtain ⟨b, o, rfl, hr⟩ := h.row (by intro e; subst e; simp at hi)
  have hr2 : w.rangeAt b (o + i * 3) L[i].cells := fun j u hu => by
    have hj : j < 3 := (List.getElem?_eq_some_iff.1 hu).1
    have := hr (i * 3 + j) u (by rw [show ccl L = L.flatMap Chg.cells from rfl, flat_get Chg.cells_len L i hi j hj]; exact hu)
    rw [Nat.add_assoc]; exact this
  exact ⟨b, o, rfl, World.block_lt_of_cell? w _ (hr2 0 _ rfl), hr2⟩
theorem chg_cells {w : World} {b o : Nat} {x : Chg} (h : w.rangeAt b o x.cells) :
    w.cell? ⟨b, o, none⟩ = some (.int .i64 x.kind) ∧ w.cell? ⟨b, o + 1, none⟩ = some (.string x.hit.id) ∧ w.cell? ⟨b, o + 2, none⟩ = some (.int .i64 x.hit.score) :=
  ⟨h 0 _ rfl, h 1 _ rfl, h 2 _ rfl⟩
theorem ccl_setLL (M : List Chg) (a : Nat) (ha : a < M.length) (y : Chg) : setLL (ccl M) (a * 3) y.cells = ccl (M.set a y) := by
  apply List.ext_getElem?
  intro i
  have hl := ccl_length M
  rw [setLL_get _ _ _ (by rw [Chg.cells_len, hl]; omega)]
  by_cases hi : i < M.length * 3
  · have h2 := flat_get Chg.cells_len (M.set a y) (i / 3) (by simp; omega) (i % 3) (by omega)
    have h1 := flat_get Chg.cells_len M (i / 3) (by omega) (i % 3) (by omega)
    rw [show i / 3 * 3 + i % 3 = i by omega] at h1 h2
    change (ccl M)[i]? = _ at h1
    change (ccl (M.set a y))[i]? = _ at h2
    rw [h1, h2, Chg.cells_len]
    by_cases he : a = i / 3
    · subst he
      rw [if_pos (by omega)]
      simp only [List.getElem_set_self]
      rw [show i - i / 3 * 3 = i % 3 by omega]
    · rw [if_neg (by omega), List.getElem_set_ne he]
  · rw [if_neg (by rw [Chg.cells_len]; omega), List.getElem?_eq_none (by omega), List.getElem?_eq_none (by rw [ccl_length]; simp; omega)]
theorem infoChg : (Tryd.prog.info? 30).map (fun i => (i.zero, i.size, i.bytes)) = some (some (.agg #[.int .i64 0, .string ByteArray.empty, .int .i64 0]), 3, 32) := by kernel_rfl
theorem sizeChg (x : Chg) : (Tryd.prog.info? 30).map (·.size) = some x.cells.length := by rw [Chg.cells_len]; kernel_rfl
theorem own_atC {w : World} {B : Nat} {v : Value} {L : List Chg} (hr : w.ownsRow B 30 3 v L.length (ccl L)) : ∃ p c, v = .slice p L.length c ∧ L.length ≤ c ∧ ChgsAt w p L ∧ (∀ a, p = some a → ∃ b o, a = ⟨b, o, Option.none⟩) := by
  rcases hr.2 with ⟨rfl, h0⟩ | ⟨g, cap, cur, rfl, hB, hg, hc, hm, hs, ht⟩
  · have : L = [] := List.eq_nil_of_length_eq_zero h0
    subst this
    exact ⟨none, 0, rfl, Nat.le_refl _, ⟨fun hn => absurd rfl hn, fun _ => rfl⟩, fun a ha => by cases ha⟩
  · refine ⟨some ⟨g, 0, none⟩, cap, rfl, hc, ⟨fun _ => ⟨g, 0, rfl, fun j u hu => ?_⟩, fun e => by cases e⟩, fun a ha => by obtain rfl := Option.some.inj ha; exact ⟨g, 0, rfl⟩⟩
    have hj : j < L.length * 3 := by rw [← ccl_length]; exact (List.getElem?_eq_some_iff.1 hu).1
    have := hr.cellAt j hj
    rw [Nat.zero_add, this]; exact hu
theorem exec_idxC {o : Oper} {a : Act} (x y : Operand) (ho : o.op = .indexAddr 26 x y) (b f len cap k : Nat) (hx : a.eval x = .slice (some ⟨b, f, none⟩) len cap) (hy : a.eval y = .int .i64 (k : Int)) (hk : k < len) (w : World) :
    (execOp a.eval o).run Tryd.prog w = .ok (.value (.pointer (some ⟨b, f + k * 3, none⟩))) w := by
  have hs : ∀ w : World, (sizeOf (Tryd.prog.elem 26)).run Tryd.prog w = .ok 3 w := fun w => by kernel_rfl
  unfold execOp
  simp only [ho, hx, hy]
  refine run_value_of ?_
  rw [run_indexAt_slice (h := Tryd.underlying26), if_pos (by omega), hs]
  simp only [Result.andThen_ok, Int.toNat_natCast]
  cases k <;> simp [Addr.add]
end Go.Proofs.YtnjopndkommjnaaDoor
