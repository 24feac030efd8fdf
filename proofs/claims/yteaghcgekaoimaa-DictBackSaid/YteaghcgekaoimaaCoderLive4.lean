/- A reader that Read made: Rising, on what was written; and ints of the call's own. -/
import Derived.Test.YteaghcgekaoimaaCoderLive3
import Derived.Test.YteaghcgekaoimaaCoderRising
import Derived.Test.YteaghcgekaoimaaMemIntsOwn
namespace Go.Proofs.Yteaghcgekaoimaa
open Go Go.RowKit

theorem own_stays {w w' : World} {B R : Nat} {ty : TypeId} {n : Nat} {v : Value} {xs : List Value} (h : w.ownsRow B ty 1 v n xs) (hg : w.grownBy w' (some R)) (hR : R < B) : w'.ownsRow B ty 1 v n xs := by
  refine ⟨h.1, ?_⟩
  rcases h.2 with q | ⟨g, cap, cur, q1, q2, q3, q4⟩
  · exact .inl q
  · exact .inr ⟨g, cap, cur, q1, q2, by rw [hg.block g (Array.getElem?_eq_some_iff.1 q3).1 (fun e => by have := Option.some.inj e; omega)]; exact q3, q4⟩
theorem Rd.lt {w : World} {B : Nat} {l : List UInt8} (h : Rd w B l) : B < w.heap.size := by
  obtain ⟨_, _, _, hh, _, _⟩ := h
  exact (Array.getElem?_eq_some_iff.1 hh).1
/-- what is allotted above leaves a reader as it is -/
theorem Rd.below {w w' : World} {B : Nat} {l : List UInt8} (h : Rd w B l) (hb : Below w.heap.size w w') : Rd w' B l := by
  have hlt := h.lt
  obtain ⟨b, o, c, hh, hc, hl, hbB⟩ := h
  refine ⟨b, o, c, by rw [hb.block B hlt]; exact hh, fun i hi => ?_, hl, hbB⟩
  have h1 := hc i hi
  rw [hb.cell (p := ⟨b, o + i, none⟩) (World.block_lt_of_cell? w _ h1)]; exact h1
theorem Rd.under {w w' : World} {B T : Nat} {l : List UInt8} (h : Rd w B l) (hT : B < T) (hb : Below T w w') : Rd w' B l := by
  obtain ⟨b, o, c, hh, hc, hl, hbB⟩ := h
  refine ⟨b, o, c, by rw [hb.block B hT]; exact hh, fun i hi => ?_, hl, hbB⟩
  rw [hb.cell (p := ⟨b, o + i, none⟩) (Nat.lt_trans hbB hT)]; exact hc i hi
theorem grown_under {a w w' : World} {R : Option Nat} (h : a.grownBy w R) (hb : Below a.heap.size w w') : a.grownBy w' R :=
  ⟨hb.os.trans h.os, hb.tape.trans h.tape, hb.output.trans h.output, Nat.le_trans h.size hb.size, fun k hk hne => (hb.block k hk).trans (h.block k hk hne)⟩
theorem grown_carry {a w w' : World} {R : Option Nat} (h : a.grownBy w R) (hb : Below a.heap.size w w') : a.grownBy w' R :=
  ⟨hb.os.trans h.os, hb.tape.trans h.tape, hb.output.trans h.output, Nat.le_trans h.size hb.size, fun k hk hne => (hb.block k hk).trans (h.block k hk hne)⟩

namespace Cod
theorem gaps_split (l : List Int) (k n : Nat) (h : k ≤ n) : ∃ r, gaps l n = gaps l k ++ r := by
  induction n with
  | zero => obtain rfl : k = 0 := by omega
            exact ⟨[], by simp [gaps]⟩
  | succ n ih =>
    by_cases e : k = n + 1
    · subst e; exact ⟨[], by simp⟩
    · obtain ⟨r, hr⟩ := ih (by omega)
      exact ⟨r ++ enc (gap l n), by simp only [gaps, hr, List.append_assoc]⟩
def rem (l : List Int) (n k : Nat) : List UInt8 := (gaps l n).drop (gaps l k).length
theorem rem_zero (l : List Int) (n : Nat) : rem l n 0 = gaps l n := rfl
theorem rem_end (l : List Int) (n : Nat) : rem l n n = [] := by simp [rem]
theorem rem_step (l : List Int) (n k : Nat) (h : k < n) : rem l n k = enc (gap l k) ++ rem l n (k + 1) := by
  obtain ⟨r, hr⟩ := gaps_split l (k + 1) n h
  unfold rem
  rw [hr, List.drop_left]
  show (gaps l k ++ enc (gap l k) ++ r).drop _ = _
  rw [List.append_assoc, List.drop_left]
theorem rem_len (l : List Int) (n k : Nat) : (rem l n k).length ≤ (gaps l n).length := by simp [rem]
end Cod

/-- what Rising comes to -/
def GotI (w : World) (B : Nat) (l : List Int) (m : List UInt8) (e : Ending) (w' : World) : Prop :=
  ∃ v, e = .returned v ∧ w'.ownsRow w.heap.size 3 1 v l.length (ints l) ∧ Rd w' B m ∧ w.grownBy w' (some B)

end Go.Proofs.Yteaghcgekaoimaa
