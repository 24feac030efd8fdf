/- The statement StandingPatches, proved for every input that its row reads: part 10 of 54. -/
import Derived.Test.YtnjopndkommjnaaDoorPackStandingPatches9
import Derived.Test.YtnjopndkommjnaaDoorCells
import Derived.Test.YtnjopndkommjnaaDoorRegionFree
/- Rows of hits. -/
namespace Go.Proofs.YtnjopndkommjnaaDoor
open Go Go.RowKit
set_option linter.unusedVariables false
set_option maxRecDepth 1000000

def Ht.cells (x : Ht) : List Value := [.string x.id, .int .i64 x.score]
theorem Ht.cells_len (x : Ht) : x.cells.length = 2 := rfl
theorem Ht.cells_one (x : Ht) : ∀ u ∈ x.cells, u.oneCell' = true := by
  intro u hu
  simp [Ht.cells] at hu
  rcases hu with rfl | rfl <;> rfl
def hcl (L : List Ht) : List Value := L.flatMap Ht.cells
theorem hcl_length (L : List Ht) : (hcl L).length = L.length * 2 := flat_len Ht.cells_len L
theorem hcl_append (a b : List Ht) : hcl (a ++ b) = hcl a ++ hcl b := by simp [hcl]
theorem hcl_snoc (l : List Ht) (x : Ht) : hcl (l ++ [x]) = hcl l ++ x.cells := by rw [hcl_append]; simp [hcl]
theorem hcl_one (L : List Ht) : ∀ u ∈ hcl L, u.oneCell' = true := by
  intro u hu
  obtain ⟨x, _, h⟩ := List.mem_flatMap.1 hu
  exact x.cells_one u h
theorem hcl_take : ∀ (L : List Ht) (k : Nat), hcl (L.take k) = (hcl L).take (k * 2)
  | [], k => by simp [hcl]
  | x :: L, 0 => by simp [hcl]
  | x :: L, k + 1 => by
    have h := hcl_take L k
    rw [List.take_succ_cons, show hcl (x :: L.take k) = x.cells ++ hcl (L.take k) from rfl, show hcl (x :: L) = x.cells ++ hcl L from rfl, h, show (k + 1) * 2 = x.cells.length + k * 2 by rw [Ht.cells_len]; omega, List.take_length_add_append]
structure HtsAt (w : World) (p : Option Addr) (L : List Ht) : Prop where
  row : L ≠ [] → ∃ b o, p = some ⟨b, o, none⟩ ∧ w.rangeAt b o (hcl L)
  none : p = none → L = []
theorem HtsAt.below {w w' : World} {p : Option Addr} {L : List Ht} (h : HtsAt w p L) (hb : Below w.heap.size w w') : HtsAt w' p L :=
  ⟨fun hn => by
    obtain ⟨b, o, rfl, hr⟩ := h.row hn
    exact ⟨b, o, rfl, range_below hr hb⟩, h.none⟩
theorem HtsAt.at {w : World} {p : Option Addr} {L : List Ht} (h : HtsAt w p L) {i : Nat} (hi : i < L.length) :
    ∃ b o, p = some ⟨b, o, Option.none⟩ ∧ b < w.heap.size ∧ w.rangeAt b (o + i * 2) L[i].cells := by
  obtain ⟨b, o, rfl, hr⟩ := h.row (by intro e; subst e; simp at hi)
  have hr2 : w.rangeAt b (o + i * 2) L[i].cells := fun j u hu => by
    have hj : j < 2 := (List.getElem?_eq_some_iff.1 hu).1
    have := hr (i * 2 + j) u (by rw [show hcl L = L.flatMap Ht.cells from rfl, flat_get Ht.cells_len L i hi j hj]; exact hu)
    rw [Nat.add_assoc]; exact this
  exact ⟨b, o, rfl, World.block_lt_of_cell? w _ (hr2 0 _ rfl), hr2⟩
theorem ht_cells {w : World} {b o : Nat} {x : Ht} (h : w.rangeAt b o x.cells) :
    w.cell? ⟨b, o, none⟩ = some (.string x.id) ∧ w.cell? ⟨b, o + 1, none⟩ = some (.int .i64 x.score) :=
  ⟨h 0 _ rfl, h 1 _ rfl⟩
theorem hcl_setLL (M : List Ht) (a : Nat) (ha : a < M.length) (y : Ht) : setLL (hcl M) (a * 2) y.cells = hcl (M.set a y) := by
  apply List.ext_getElem?
  intro i
  have hl := hcl_length M
  rw [setLL_get _ _ _ (by rw [Ht.cells_len, hl]; omega)]
  by_cases hi : i < M.length * 2
  · have h2 := flat_get Ht.cells_len (M.set a y) (i / 2) (by simp; omega) (i % 2) (by omega)
    have h1 := flat_get Ht.cells_len M (i / 2) (by omega) (i % 2) (by omega)
    rw [show i / 2 * 2 + i % 2 = i by omega] at h1 h2
    change (hcl M)[i]? = _ at h1
    change (hcl (M.set a y))[i]? = _ at h2
    rw [h1, h2, Ht.cells_len]
    by_cases he : a = i / 2
    · subst he
      rw [if_pos (by omega)]
      simp only [List.getElem_set_self]
      rw [show i - i / 2 * 2 = i % 2 by omega]
    · rw [if_neg (by omega), List.getElem_set_ne he]
  · rw [if_neg (by rw [Ht.cells_len]; omega), List.getElem?_eq_none (by omega), List.getElem?_eq_none (by rw [hcl_length]; simp; omega)]
theorem infoHt : (Tryd.prog.info? 28).map (fun i => (i.zero, i.size, i.bytes)) = some (some (.agg #[.string ByteArray.empty, .int .i64 0]), 2, 24) := by kernel_rfl
theorem sizeHt (x : Ht) : (Tryd.prog.info? 28).map (·.size) = some x.cells.length := by rw [Ht.cells_len]; kernel_rfl
theorem own_atH {w : World} {B : Nat} {v : Value} {L : List Ht} (hr : w.ownsRow B 28 2 v L.length (hcl L)) : ∃ p c, v = .slice p L.length c ∧ L.length ≤ c ∧ HtsAt w p L ∧ (∀ a, p = some a → ∃ b o, a = ⟨b, o, Option.none⟩) := by
  rcases hr.2 with ⟨rfl, h0⟩ | ⟨g, cap, cur, rfl, hB, hg, hc, hm, hs, ht⟩
  · have : L = [] := List.eq_nil_of_length_eq_zero h0
    subst this
    exact ⟨none, 0, rfl, Nat.le_refl _, ⟨fun hn => absurd rfl hn, fun _ => rfl⟩, fun a ha => by cases ha⟩
  · refine ⟨some ⟨g, 0, none⟩, cap, rfl, hc, ⟨fun _ => ⟨g, 0, rfl, fun j u hu => ?_⟩, fun e => by cases e⟩, fun a ha => by obtain rfl := Option.some.inj ha; exact ⟨g, 0, rfl⟩⟩
    have hj : j < L.length * 2 := by rw [← hcl_length]; exact (List.getElem?_eq_some_iff.1 hu).1
    have := hr.cellAt j hj
    rw [Nat.zero_add, this]; exact hu
theorem exec_idxH {o : Oper} {a : Act} (x y : Operand) (ho : o.op = .indexAddr 22 x y) (b f len cap k : Nat) (hx : a.eval x = .slice (some ⟨b, f, none⟩) len cap) (hy : a.eval y = .int .i64 (k : Int)) (hk : k < len) (w : World) :
    (execOp a.eval o).run Tryd.prog w = .ok (.value (.pointer (some ⟨b, f + k * 2, none⟩))) w := by
  have hs : ∀ w : World, (sizeOf (Tryd.prog.elem 22)).run Tryd.prog w = .ok 2 w := fun w => by kernel_rfl
  unfold execOp
  simp only [ho, hx, hy]
  refine run_value_of ?_
  rw [run_indexAt_slice (h := Tryd.underlying22), if_pos (by omega), hs]
  simp only [Result.andThen_ok, Int.toNat_natCast]
  cases k <;> simp [Addr.add]
end Go.Proofs.YtnjopndkommjnaaDoor
