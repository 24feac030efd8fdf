/- The document's Valid, Count and Cut, and utf's Count and Cut, exactly. -/
import Derived.Test.YtldfomggeleolaaDoorUtfEnds
import Derived.Test.YtldfomggeleolaaDoorUtfValid
import Derived.Test.YtldfomggeleolaaDoorUtfCut2
namespace Go.Proofs.YtldfomggeleolaaDoor
open Go Go.RowKit

namespace Utf
theorem ends_at (s : ByteArray) (all : List Nat) (k f p : Nat) (h : all.drop k = ends s f p) (hf : s.size ≤ p + f) (hk : k < all.length) :
    p < s.size ∧ all.getD k 0 = p + (nx s p).2 ∧ all.drop (k + 1) = ends s (f - 1) (p + (nx s p).2) := by
  have hp : p < s.size := by
    rcases Nat.lt_or_ge p s.size with e | e
    · exact e
    · rw [ends_end s f p e] at h
      have := congrArg List.length h
      simp at this; omega
  rw [ends_step s f p hp hf, List.drop_eq_getElem_cons hk] at h
  injection h with h1 h2
  exact ⟨hp, by simp [List.getD, List.getElem?_eq_getElem hk, h1], h2⟩
theorem ends_no (s : ByteArray) (all : List Nat) (k f p : Nat) (h : all.drop k = ends s f p) (hf : s.size ≤ p + f) (hk : all.length ≤ k) : s.size ≤ p := by
  rcases Nat.lt_or_ge p s.size with e | e
  · rw [ends_step s f p e hf, List.drop_eq_nil_of_le hk] at h
    cases h
  · exact e
theorem lastIn_succ (n : Int) (l : List Nat) (k : Nat) (h : k < l.length) : lastIn n 0 (l.take (k + 1)) = if ((l.getD k 0 : Nat) : Int) ≤ n then l.getD k 0 else lastIn n 0 (l.take k) := by
  unfold lastIn
  rw [List.take_succ_eq_append_getElem h, List.foldl_append]
  simp [List.getD, List.getElem?_eq_getElem h]
theorem lastIn_le (n : Int) (l : List Nat) (B : Nat) (h : ∀ e ∈ l, e ≤ B) : lastIn n 0 l ≤ B := by
  unfold lastIn
  have : ∀ (l : List Nat) (a : Nat), (∀ e ∈ l, e ≤ B) → a ≤ B → l.foldl (fun (a : Nat) (e : Nat) => if (e : Int) ≤ n then e else a) a ≤ B := by
    intro l
    induction l with
    | nil => intro a _ ha; exact ha
    | cons e l ih =>
      intro a h ha
      rw [List.foldl_cons]
      exact ih _ (fun x hx => h x (by simp [hx])) (by split; exact h e (by simp); exact ha)
  exact this l 0 h (Nat.zero_le _)
theorem ends_within (s : ByteArray) : ∀ f p, ∀ e ∈ ends s f p, e ≤ s.size := by
  intro f
  induction f with
  | zero => intro p e h; simp [ends] at h
  | succ f ih =>
    intro p e h
    rw [ends] at h
    split at h
    · rename_i hp
      have := nx_step s p hp
      rcases List.mem_cons.1 h with rfl | h
      · omega
      · exact ih _ e h
    · simp at h
end Utf

/-- a text that is handed back, and what was there -/
def RetT (w : World) (s : ByteArray) (e : Ending) (w' : World) : Prop := e = .returned (.string s) ∧ Below w.heap.size w w'

end Go.Proofs.YtldfomggeleolaaDoor
