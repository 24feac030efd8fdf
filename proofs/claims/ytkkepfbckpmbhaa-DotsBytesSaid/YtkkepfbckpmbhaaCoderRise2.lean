/- Lists that rise: one more at the end; the last is the greatest. And slices.Equal over ints. -/
import Derived.Test.YtkkepfbckpmbhaaCoderLive4
import Derived.Test.YtkkepfbckpmbhaaEqualI
namespace Go.Proofs.Ytkkepfbckpmbhaa
open Go Go.RowKit
namespace Cod
theorem riseFrom_snoc (acc : List Int) (x : Int) : ∀ last : Int, riseFrom last acc = acc.length → acc.getLastD last < x → riseFrom last (acc ++ [x]) = acc.length + 1 := by
  induction acc with
  | nil => intro last _ h; simp at h; simp [riseFrom, h]
  | cons y r ih =>
    intro last h1 h2
    simp only [riseFrom, List.length_cons] at h1
    simp only [List.cons_append, riseFrom, List.length_cons]
    split at h1
    · rename_i hy
      rw [if_pos hy, ih y (by omega) (by rw [List.getLastD_cons] at h2; exact h2)]
    · omega
theorem last_getD (acc : List Int) : acc.getLastD (-1) = lastOf acc acc.length := by
  unfold lastOf
  rw [List.getLastD_eq_getLast?, List.getLast?_eq_getElem?, List.getD]
  split
  · rename_i h; simp [h]
  · rename_i h
    rw [List.getElem?_eq_getElem (by omega)]; rfl
theorem rise_snoc (acc : List Int) (x : Int) (h : riseN acc = acc.length) (hx : lastOf acc acc.length < x) : riseN (acc ++ [x]) = (acc ++ [x]).length := by
  unfold riseN at h ⊢
  rw [riseFrom_snoc acc x (-1) h (by rw [last_getD]; exact hx), List.length_append]; rfl
theorem rise_up (l : List Int) (h : riseN l = l.length) (i d : Nat) (hi : i + d < l.length) : l.getD i 0 ≤ l.getD (i + d) 0 := by
  induction d with
  | zero => exact Int.le_refl _
  | succ d ih =>
    have h1 := ih (by omega)
    have h2 := rise_lt l (i + d + 1) (by rw [h]; omega)
    have h3 : lastOf l (i + d + 1) = l.getD (i + d) 0 := by simp [lastOf]
    rw [h3] at h2
    show l.getD i 0 ≤ l.getD (i + d + 1) 0
    omega
/-- no number of a list is above one -/
def Top (top : Int) (l : List Int) : Prop := (-1 ≤ top ∧ top ≤ 9223372036854775807) ∧ ∀ i, i < l.length → l.getD i 0 ≤ top
theorem top_nil : Top 0 [] := ⟨by omega, fun i hi => by simp at hi⟩
theorem top_last (l : List Int) (h : riseN l = l.length) (h0 : 0 < l.length) (hw : -9223372036854775808 ≤ l.getD (l.length - 1) 0 ∧ l.getD (l.length - 1) 0 ≤ 9223372036854775807) : Top (l.getD (l.length - 1) 0) l := by
  have h2 := rise_lt l (l.length - 1) (by rw [h]; omega)
  have h3 := last_ge l (l.length - 1) (by rw [h]; omega)
  refine ⟨⟨by omega, hw.2⟩, fun i hi => ?_⟩
  have := rise_up l h i (l.length - 1 - i) (by omega)
  rwa [show i + (l.length - 1 - i) = l.length - 1 from by omega] at this
end Cod

end Go.Proofs.Ytkkepfbckpmbhaa
