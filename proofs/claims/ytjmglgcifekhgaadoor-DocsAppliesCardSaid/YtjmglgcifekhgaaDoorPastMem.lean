/- Events: how they lie; slices.Clone of them and of their dots. -/
import Derived.Test.YtjmglgcifekhgaaDoorDotClone
import Derived.Deep.MidRow
import Derived.Shelf.SlicesE.Clone
import Derived.Test.YtjmglgcifekhgaaDoorProg
namespace Go.Proofs
open Go.Shelf
end Go.Proofs
namespace Go.Proofs.YtjmglgcifekhgaaDoor
open Go Go.RowKit
set_option linter.unusedVariables false

/-! Rows of things of k cells -/
section
variable {α : Type} {f : α → List Value} {k : Nat}
theorem flat_len (hk : ∀ x, (f x).length = k) : ∀ l : List α, (l.flatMap f).length = l.length * k
  | [] => by simp
  | x :: l => by
    rw [List.flatMap_cons, List.length_append, hk, flat_len hk l, List.length_cons, Nat.add_mul]; omega
theorem flat_get (hk : ∀ x, (f x).length = k) : ∀ (l : List α) (i : Nat) (hi : i < l.length) (j : Nat) (hj : j < k), (l.flatMap f)[i * k + j]? = (f l[i])[j]?
  | x :: l, 0, _, j, hj => by
    rw [List.flatMap_cons, Nat.zero_mul, Nat.zero_add, List.getElem?_append_left (by rw [hk]; exact hj)]; rfl
  | x :: l, i + 1, hi, j, hj => by
    rw [List.flatMap_cons, show (i + 1) * k + j = k + (i * k + j) from by rw [Nat.add_mul]; omega, List.getElem?_append_right (by rw [hk]; omega), hk, Nat.add_sub_cancel_left, flat_get hk l i (by simpa using hi) j hj]
    rfl
theorem flat_set (hk : ∀ x, (f x).length = k) (j : Nat) (hj : j < k) (u : Value) (y : α) : ∀ (l : List α) (i : Nat) (hi : i < l.length) (hy : f y = (f l[i]).set j u), (l.flatMap f).set (i * k + j) u = (l.set i y).flatMap f
  | x :: l, 0, _, hy => by
    have hy' : f y = (f x).set j u := hy
    rw [List.flatMap_cons, Nat.zero_mul, Nat.zero_add, List.set_append_left _ _ (by rw [hk]; exact hj), List.set_cons_zero, List.flatMap_cons, hy']
  | x :: l, i + 1, hi, hy => by
    have hy' : f y = (f (l[i]'(by simpa using hi))).set j u := hy
    rw [List.flatMap_cons, show (i + 1) * k + j = k + (i * k + j) from by rw [Nat.add_mul]; omega, List.set_append_right _ _ (by rw [hk]; omega), hk, Nat.add_sub_cancel_left, flat_set hk j hj u y l i (by simpa using hi) hy', List.set_cons_succ, List.flatMap_cons]
end

/-- an event -/
structure Ev where
  rep : Int
  n : Int
  time : Int
  kind : Int
  doc : ByteArray
  field : Int
  text : ByteArray
  gone : List Dt
/-- an event, and where its dots lie -/
structure EvP where
  e : Ev
  p : Option Addr
  c : Nat
def EvP.cells (x : EvP) : List Value := [.int .i64 x.e.rep, .int .i64 x.e.n, .int .i64 x.e.time, .int .i64 x.e.kind, .string x.e.doc, .int .i64 x.e.field, .string x.e.text, .slice x.p x.e.gone.length x.c]
theorem EvP.cells_len (x : EvP) : x.cells.length = 8 := rfl
theorem EvP.cells_one (x : EvP) : ∀ u ∈ x.cells, u.oneCell' = true := by
  intro u hu
  simp [EvP.cells] at hu
  rcases hu with rfl | rfl | rfl | rfl | rfl | rfl | rfl | rfl <;> rfl
def ecl (L : List EvP) : List Value := L.flatMap EvP.cells
theorem ecl_length (L : List EvP) : (ecl L).length = L.length * 8 := flat_len EvP.cells_len L
theorem ecl_append (a b : List EvP) : ecl (a ++ b) = ecl a ++ ecl b := by simp [ecl]
theorem ecl_one (L : List EvP) : ∀ u ∈ ecl L, u.oneCell' = true := by
  intro u hu
  obtain ⟨x, _, h⟩ := List.mem_flatMap.1 hu
  exact x.cells_one u h
/-- the dots that an event takes away lie where it says -/
def EvP.Ok (w : World) (x : EvP) : Prop := DRow w x.p x.e.gone ∧ (x.p = none → x.e.gone = [])
theorem EvP.Ok.below {w w' : World} {x : EvP} (h : x.Ok w) (hb : Below w.heap.size w w') : x.Ok w' := ⟨h.1.below hb, h.2⟩
/-- events that lie at p -/
structure EvsAt (w : World) (p : Option Addr) (L : List EvP) : Prop where
  row : L ≠ [] → ∃ b o, p = some ⟨b, o, none⟩ ∧ w.rangeAt b o (ecl L)
  ok : ∀ x ∈ L, x.Ok w
  none : p = none → L = []
theorem EvsAt.below {w w' : World} {p : Option Addr} {L : List EvP} (h : EvsAt w p L) (hb : Below w.heap.size w w') : EvsAt w' p L :=
  ⟨fun hn => by
    obtain ⟨b, o, rfl, hr⟩ := h.row hn
    exact ⟨b, o, rfl, range_below hr hb⟩, fun x hx => (h.ok x hx).below hb, h.none⟩
theorem EvsAt.at {w : World} {p : Option Addr} {L : List EvP} (h : EvsAt w p L) {i : Nat} (hi : i < L.length) :
    ∃ b o, p = some ⟨b, o, Option.none⟩ ∧ b < w.heap.size ∧ w.rangeAt b (o + i * 8) L[i].cells := by
  obtain ⟨b, o, rfl, hr⟩ := h.row (by intro e; subst e; simp at hi)
  have hr2 : w.rangeAt b (o + i * 8) L[i].cells := fun j u hu => by
    have hj : j < 8 := (List.getElem?_eq_some_iff.1 hu).1
    have := hr (i * 8 + j) u (by rw [show ecl L = L.flatMap EvP.cells from rfl, flat_get EvP.cells_len L i hi j hj]; exact hu)
    rw [Nat.add_assoc]; exact this
  exact ⟨b, o, rfl, World.block_lt_of_cell? w _ (hr2 0 _ rfl), hr2⟩

theorem infoEv : (Tryd.prog.info? 31).map (fun i => (i.zero, i.size, i.bytes)) = some (some (.agg #[.int .i64 0, .int .i64 0, .int .i64 0, .int .i64 0, .string ByteArray.empty, .int .i64 0, .string ByteArray.empty, .slice none 0 0]), 8, 96) := by kernel_rfl
end Go.Proofs.YtjmglgcifekhgaaDoor
