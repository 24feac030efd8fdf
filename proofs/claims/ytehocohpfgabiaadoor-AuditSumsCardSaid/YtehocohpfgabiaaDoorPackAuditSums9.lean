/- The statement AuditSums, proved for every input that its row reads: part 9 of 54. -/
import Derived.Test.YtehocohpfgabiaaDoorPackAuditSums8
/- Rows of dots in memory. -/
namespace Go.Proofs.YtehocohpfgabiaaDoor
open Go Go.RowKit
set_option linter.unusedVariables false

def dvs (d : Dt) : List Value := [.int .i64 d.1, .int .i64 d.2]
def dcl (l : List Dt) : List Value := l.flatMap dvs
theorem dcl_cons (d : Dt) (l : List Dt) : dcl (d :: l) = .int .i64 d.1 :: .int .i64 d.2 :: dcl l := rfl
theorem dcl_length : ∀ l : List Dt, (dcl l).length = l.length * 2
  | [] => rfl
  | d :: l => by rw [dcl_cons, List.length_cons, List.length_cons, dcl_length l, List.length_cons]; omega
theorem dcl_append (a b : List Dt) : dcl (a ++ b) = dcl a ++ dcl b := by simp [dcl]
theorem dcl_get : ∀ (l : List Dt) (i : Nat) (hi : i < l.length), (dcl l)[i * 2]? = some (.int .i64 l[i].1) ∧ (dcl l)[i * 2 + 1]? = some (.int .i64 l[i].2)
  | d :: l, 0, _ => ⟨rfl, rfl⟩
  | d :: l, i + 1, hi => by
    have := dcl_get l i (by simpa using hi)
    rw [dcl_cons, show (i + 1) * 2 = i * 2 + 1 + 1 from by omega, show i * 2 + 1 + 1 + 1 = (i * 2 + 1) + 1 + 1 from rfl]
    simpa using this
theorem dcl_one (l : List Dt) : ∀ u ∈ dcl l, u.oneCell' = true := by
  intro u hu
  obtain ⟨d, _, h⟩ := List.mem_flatMap.1 hu
  simp [dvs] at h
  rcases h with rfl | rfl <;> rfl
theorem dcl_at (l : List Dt) (j : Nat) (u : Value) (h : (dcl l)[j]? = some u) : ∃ i, ∃ hi : i < l.length, (j = i * 2 ∧ u = .int .i64 l[i].1) ∨ (j = i * 2 + 1 ∧ u = .int .i64 l[i].2) := by
  have hj : j < l.length * 2 := by rw [← dcl_length]; exact (List.getElem?_eq_some_iff.1 h).1
  refine ⟨j / 2, by omega, ?_⟩
  obtain ⟨g1, g2⟩ := dcl_get l (j / 2) (by omega)
  rcases Nat.mod_two_eq_zero_or_one j with e | e
  · left
    have e2 : j / 2 * 2 = j := by omega
    rw [e2, h] at g1
    exact ⟨e2.symm, Option.some.inj g1⟩
  · right
    have e2 : j / 2 * 2 + 1 = j := by omega
    rw [e2, h] at g2
    exact ⟨e2.symm, Option.some.inj g2⟩

/-- dots that lie at p -/
def DRow (w : World) (p : Option Addr) (l : List Dt) : Prop := l ≠ [] → ∃ b o, p = some ⟨b, o, none⟩ ∧ w.rangeAt b o (dcl l)
theorem range_lt {w : World} {b o : Nat} {l : List Dt} (h : w.rangeAt b o (dcl l)) (hn : l ≠ []) : b < w.heap.size := by
  cases l with
  | nil => exact absurd rfl hn
  | cons d l => exact World.block_lt_of_cell? w _ (h 0 _ rfl)
theorem DRow.below {w w' : World} {p : Option Addr} {l : List Dt} (h : DRow w p l) (hb : Below w.heap.size w w') : DRow w' p l := fun hn => by
  obtain ⟨b, o, rfl, hr⟩ := h hn
  exact ⟨b, o, rfl, range_below hr hb⟩
theorem DRow.nil (w : World) (p : Option Addr) : DRow w p [] := fun h => absurd rfl h
/-- a row of dots, one's own -/
structure OwnD (w : World) (g : Nat) (l : List Dt) : Prop where
  range : w.rangeAt g 0 (dcl l)
  free : ∀ j, j < l.length * 2 → w.frozen? ⟨g, j, none⟩ = false
  lt : g < w.heap.size
theorem OwnD.later {w w' : World} {g : Nat} {l : List Dt} (h : OwnD w g l) (hb : Below w.heap.size w w') : OwnD w' g l :=
  ⟨range_below h.range hb, fun j hj => (hb.frozen (p := ⟨g, j, none⟩) h.lt).trans (h.free j hj), Nat.lt_of_lt_of_le h.lt hb.size⟩
theorem OwnD.kept {w w' : World} {g : Nat} {l : List Dt} (h : OwnD w g l) {row : Option Nat} (hg : w.grownBy w' row) (hne : some g ≠ row) : OwnD w' g l :=
  ⟨fun j u hu => by
    have h1 := h.range j u hu
    rw [World.cell?_of_block (w := w) (a := ⟨g, 0 + j, none⟩) (hg.block g h.lt hne)]; exact h1,
  fun j hj => by rw [World.frozen?_of_block (w := w) (a := ⟨g, j, none⟩) (hg.block g h.lt hne)]; exact h.free j hj, Nat.lt_of_lt_of_le h.lt hg.size⟩
theorem OwnD.row {w : World} {g : Nat} {l : List Dt} (h : OwnD w g l) : DRow w (some ⟨g, 0, none⟩) l := fun _ => ⟨g, 0, rfl, h.range⟩
theorem OwnD.cells {w : World} {g : Nat} {l : List Dt} (h : OwnD w g l) (i : Nat) (hi : i < l.length) : w.cell? ⟨g, i * 2, none⟩ = some (.int .i64 l[i].1) ∧ w.cell? ⟨g, i * 2 + 1, none⟩ = some (.int .i64 l[i].2) := by
  obtain ⟨g1, g2⟩ := dcl_get l i hi
  have h1 := h.range _ _ g1
  have h2 := h.range _ _ g2
  rw [Nat.zero_add] at h1 h2
  exact ⟨h1, h2⟩

theorem infoDt : (Tryd.prog.info? 39).map (fun i => (i.zero, i.size, i.bytes)) = some (some (.agg #[.int .i64 0, .int .i64 0]), 2, 16) := by kernel_rfl
/-- what a call owns lies where it is -/
theorem own_drow {w : World} {B : Nat} {v : Value} {n : Nat} {l : List Dt} (h : w.ownsRow B 39 2 v n (dcl l)) :
    n = l.length ∧ ∃ p cap, v = .slice p l.length cap ∧ l.length ≤ cap ∧ DRow w p l ∧ (p = none → l = [] ∧ cap = 0) ∧ (∀ a, p = some a → ∃ g, a = ⟨g, 0, none⟩ ∧ B ≤ g ∧ OwnD w g l) := by
  have hlen : n = l.length := by have := h.1; rw [dcl_length] at this; omega
  subst hlen
  refine ⟨rfl, ?_⟩
  rcases h.2 with ⟨rfl, hn⟩ | ⟨g, cap, cur, rfl, hle, hcur, hnc, hcm, hsz, htk⟩
  · obtain rfl := List.eq_nil_of_length_eq_zero hn
    exact ⟨none, 0, rfl, Nat.le_refl _, DRow.nil _ _, fun _ => ⟨rfl, rfl⟩, fun a ha => by cases ha⟩
  · have hO : OwnD w g l := by
      refine ⟨fun j u hu => ?_, fun j _ => frozen_of_row _ _ _ _ _ hcur, (Array.getElem?_eq_some_iff.1 hcur).1⟩
      have hj : j < l.length * 2 := by rw [← dcl_length]; exact (List.getElem?_eq_some_iff.1 hu).1
      have := congrArg (·[j]?) htk
      simp only [List.getElem?_take, if_pos hj, Array.getElem?_toList] at this
      rw [Nat.zero_add, cell_of_row _ g j _ _ _ hcur, this]; exact hu
    exact ⟨some ⟨g, 0, none⟩, cap, rfl, hnc, hO.row, fun e => (by cases e), fun a ha => by
      obtain rfl := Option.some.inj ha
      exact ⟨g, rfl, hle, hO⟩⟩

end Go.Proofs.YtehocohpfgabiaaDoor
