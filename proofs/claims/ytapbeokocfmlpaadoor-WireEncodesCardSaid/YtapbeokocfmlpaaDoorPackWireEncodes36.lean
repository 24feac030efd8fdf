/- The statement WireEncodes, proved for every input that its row reads: part 36 of 54. -/
import Derived.Test.YtapbeokocfmlpaaDoorPackWireEncodes34
import Derived.Test.YtapbeokocfmlpaaDoorPackWireEncodes24
import Derived.Test.YtapbeokocfmlpaaDoorPackWireEncodes35
import Derived.Test.YtapbeokocfmlpaaDoorPackWireEncodes32
/- A reader that Read made: Rising, on what was written; and ints of the call's own. -/
namespace Go.Proofs.YtapbeokocfmlpaaDoor
open Go Go.RowKit

theorem own_stays {w w' : World} {B R : Nat} {ty : TypeId} {n : Nat} {v : Value} {xs : List Value} (h : w.ownsRow B ty 1 v n xs) (hg : w.grownBy w' (some R)) (hR : R < B) : w'.ownsRow B ty 1 v n xs := by
  refine ⟨h.1, ?_⟩
  rcases h.2 with q | ⟨g, cap, cur, q1, q2, q3, q4⟩
  · exact .inl q
  · exact .inr ⟨g, cap, cur, q1, q2, by rw [hg.block g (Array.getElem?_eq_some_iff.1 q3).1 (fun e => by have := Option.some.inj e; omega)]; exact q3, q4⟩
theorem grown_under {a w w' : World} {R : Option Nat} (h : a.grownBy w R) (hb : Below a.heap.size w w') : a.grownBy w' R :=
  ⟨hb.os.trans h.os, hb.tape.trans h.tape, hb.output.trans h.output, Nat.le_trans h.size hb.size, fun k hk hne => (hb.block k hk).trans (h.block k hk hne)⟩
theorem grown_carry {a w w' : World} {R : Option Nat} (h : a.grownBy w R) (hb : Below a.heap.size w w') : a.grownBy w' R :=
  ⟨hb.os.trans h.os, hb.tape.trans h.tape, hb.output.trans h.output, Nat.le_trans h.size hb.size, fun k hk hne => (hb.block k hk).trans (h.block k hk hne)⟩

namespace Cod
theorem gaps_split (l : List Int) (k n : Nat) (h : k ≤ n) : ∃ r, gaps l n = gaps l k ++ r := by
  induction n with
  | zero => obtain rfl : k = 0 := by omega
            exact ⟨[], by simp [gaps]⟩
  | succ n ih =>
    by_cases e : k = n + 1
    · subst e; exact ⟨[], by simp⟩
    · obtain ⟨r, hr⟩ := ih (by omega)
      exact ⟨r ++ enc (gap l n), by simp only [gaps, hr, List.append_assoc]⟩
def rem (l : List Int) (n k : Nat) : List UInt8 := (gaps l n).drop (gaps l k).length
theorem rem_zero (l : List Int) (n : Nat) : rem l n 0 = gaps l n := rfl
theorem rem_end (l : List Int) (n : Nat) : rem l n n = [] := by simp [rem]
theorem rem_step (l : List Int) (n k : Nat) (h : k < n) : rem l n k = enc (gap l k) ++ rem l n (k + 1) := by
  obtain ⟨r, hr⟩ := gaps_split l (k + 1) n h
  unfold rem
  rw [hr, List.drop_left]
  show (gaps l k ++ enc (gap l k) ++ r).drop _ = _
  rw [List.append_assoc, List.drop_left]
theorem rem_len (l : List Int) (n k : Nat) : (rem l n k).length ≤ (gaps l n).length := by simp [rem]
end Cod

end Go.Proofs.YtapbeokocfmlpaaDoor
/- Lists that rise: one more at the end; the last is the greatest. And slices.Equal over ints. -/
namespace Go.Proofs.YtapbeokocfmlpaaDoor
open Go Go.RowKit
namespace Cod
theorem riseFrom_snoc (acc : List Int) (x : Int) : ∀ last : Int, riseFrom last acc = acc.length → acc.getLastD last < x → riseFrom last (acc ++ [x]) = acc.length + 1 := by
  induction acc with
  | nil => intro last _ h; simp at h; simp [riseFrom, h]
  | cons y r ih =>
    intro last h1 h2
    simp only [riseFrom, List.length_cons] at h1
    simp only [List.cons_append, riseFrom, List.length_cons]
    split at h1
    · rename_i hy
      rw [if_pos hy, ih y (by omega) (by rw [List.getLastD_cons] at h2; exact h2)]
    · omega
theorem last_getD (acc : List Int) : acc.getLastD (-1) = lastOf acc acc.length := by
  unfold lastOf
  rw [List.getLastD_eq_getLast?, List.getLast?_eq_getElem?, List.getD]
  split
  · rename_i h; simp [h]
  · rename_i h
    rw [List.getElem?_eq_getElem (by omega)]; rfl
theorem rise_snoc (acc : List Int) (x : Int) (h : riseN acc = acc.length) (hx : lastOf acc acc.length < x) : riseN (acc ++ [x]) = (acc ++ [x]).length := by
  unfold riseN at h ⊢
  rw [riseFrom_snoc acc x (-1) h (by rw [last_getD]; exact hx), List.length_append]; rfl
theorem rise_up (l : List Int) (h : riseN l = l.length) (i d : Nat) (hi : i + d < l.length) : l.getD i 0 ≤ l.getD (i + d) 0 := by
  induction d with
  | zero => exact Int.le_refl _
  | succ d ih =>
    have h1 := ih (by omega)
    have h2 := rise_lt l (i + d + 1) (by rw [h]; omega)
    have h3 : lastOf l (i + d + 1) = l.getD (i + d) 0 := by simp [lastOf]
    rw [h3] at h2
    show l.getD i 0 ≤ l.getD (i + d + 1) 0
    omega
/-- no number of a list is above one -/
def Top (top : Int) (l : List Int) : Prop := (-1 ≤ top ∧ top ≤ 9223372036854775807) ∧ ∀ i, i < l.length → l.getD i 0 ≤ top
theorem top_nil : Top 0 [] := ⟨by omega, fun i hi => by simp at hi⟩
theorem top_last (l : List Int) (h : riseN l = l.length) (h0 : 0 < l.length) (hw : -9223372036854775808 ≤ l.getD (l.length - 1) 0 ∧ l.getD (l.length - 1) 0 ≤ 9223372036854775807) : Top (l.getD (l.length - 1) 0) l := by
  have h2 := rise_lt l (l.length - 1) (by rw [h]; omega)
  have h3 := last_ge l (l.length - 1) (by rw [h]; omega)
  refine ⟨⟨by omega, hw.2⟩, fun i hi => ?_⟩
  have := rise_up l h i (l.length - 1 - i) (by omega)
  rwa [show i + (l.length - 1 - i) = l.length - 1 from by omega] at this
end Cod

end Go.Proofs.YtapbeokocfmlpaaDoor
/- A reader of any bytes: Read, Err, Left, Fail, take, number, Num, Rising. -/
namespace Go.Proofs.YtapbeokocfmlpaaDoor
open Go Go.RowKit
set_option linter.unusedVariables false

theorem grownA_refl (w : World) (row : Option Nat) : w.grownBy w row := ⟨rfl, rfl, rfl, Nat.le_refl _, fun _ _ _ => rfl⟩
theorem fail_grown (w : World) (B c : Nat) : w.grownBy ((w.setCell ⟨B, 1, none⟩ (.int .i64 (c : Int))).setCell ⟨B, 0, none⟩ (.slice none 0 0)) (some B) :=
  ⟨rfl, rfl, rfl, by simp [World.setCell], fun k _ hne => by
    rw [Below.heap_setCell _ _ _ _ (fun e => hne (by rw [e])), Below.heap_setCell _ _ _ _ (fun e => hne (by rw [e]))]⟩
end Go.Proofs.YtapbeokocfmlpaaDoor
/- A reader of any bytes: take, number, Num. -/
namespace Go.Proofs.YtapbeokocfmlpaaDoor
open Go Go.RowKit
set_option linter.unusedVariables false

theorem ownI_stays {w w' : World} {T R : Nat} {ty : TypeId} {n : Nat} {v : Value} {xs : List Value} (h : w.ownsRow T ty 1 v n xs) (hg : w.grownBy w' (some R)) (hR : R < T) : w'.ownsRow T ty 1 v n xs := own_stays h hg hR
theorem numS_small {many : Int} {s : Cod.S} (h0 : 0 ≤ many) : ((Cod.numS many s).1 : Int) ≤ many := by
  by_cases h : (Cod.numS many s).2.2 = 0
  · exact (Cod.numS_le h).1
  · rw [Cod.numS_zero h]; exact h0

end Go.Proofs.YtapbeokocfmlpaaDoor
