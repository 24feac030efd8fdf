/- Lists that rise: one more at the end; the last is the greatest. And slices.Equal over ints. -/
import Derived.Test.YtgdhaijaiogiiaaCoderLive4
namespace Go.Proofs.Ytgdhaijaiogiiaa
open Go Go.RowKit
namespace Cod
theorem riseFrom_snoc (acc : List Int) (x : Int) : ∀ last : Int, riseFrom last acc = acc.length → acc.getLastD last < x → riseFrom last (acc ++ [x]) = acc.length + 1 := by
  induction acc with
  | nil => intro last _ h; simp at h; simp [riseFrom, h]
  | cons y r ih =>
    intro last h1 h2
    simp only [riseFrom, List.length_cons] at h1
    simp only [List.cons_append, riseFrom, List.length_cons]
    split at h1
    · rename_i hy
      rw [if_pos hy, ih y (by omega) (by rw [List.getLastD_cons] at h2; exact h2)]
    · omega
theorem last_getD (acc : List Int) : acc.getLastD (-1) = lastOf acc acc.length := by
  unfold lastOf
  rw [List.getLastD_eq_getLast?, List.getLast?_eq_getElem?, List.getD]
  split
  · rename_i h; simp [h]
  · rename_i h
    rw [List.getElem?_eq_getElem (by omega)]; rfl
theorem rise_snoc (acc : List Int) (x : Int) (h : riseN acc = acc.length) (hx : lastOf acc acc.length < x) : riseN (acc ++ [x]) = (acc ++ [x]).length := by
  unfold riseN at h ⊢
  rw [riseFrom_snoc acc x (-1) h (by rw [last_getD]; exact hx), List.length_append]; rfl
theorem rise_up (l : List Int) (h : riseN l = l.length) (i d : Nat) (hi : i + d < l.length) : l.getD i 0 ≤ l.getD (i + d) 0 := by
  induction d with
  | zero => exact Int.le_refl _
  | succ d ih =>
    have h1 := ih (by omega)
    have h2 := rise_lt l (i + d + 1) (by rw [h]; omega)
    have h3 : lastOf l (i + d + 1) = l.getD (i + d) 0 := by simp [lastOf]
    rw [h3] at h2
    show l.getD i 0 ≤ l.getD (i + d + 1) 0
    omega
/-- no number of a list is above one -/
def Top (top : Int) (l : List Int) : Prop := (-1 ≤ top ∧ top ≤ 9223372036854775807) ∧ ∀ i, i < l.length → l.getD i 0 ≤ top
theorem top_nil : Top 0 [] := ⟨by omega, fun i hi => by simp at hi⟩
theorem top_last (l : List Int) (h : riseN l = l.length) (h0 : 0 < l.length) (hw : -9223372036854775808 ≤ l.getD (l.length - 1) 0 ∧ l.getD (l.length - 1) 0 ≤ 9223372036854775807) : Top (l.getD (l.length - 1) 0) l := by
  have h2 := rise_lt l (l.length - 1) (by rw [h]; omega)
  have h3 := last_ge l (l.length - 1) (by rw [h]; omega)
  refine ⟨⟨by omega, hw.2⟩, fun i hi => ?_⟩
  have := rise_up l h i (l.length - 1 - i) (by omega)
  rwa [show i + (l.length - 1 - i) = l.length - 1 from by omega] at this
end Cod

set_option maxHeartbeats 1000000 in
theorem equalI_any (p1 p2 : Option Addr) (c1 c2 : Nat) (l : List Int) (w : World) (h1 : LiesI w p1 l) (h2 : LiesI w p2 l) (hn : l.length ≤ 1000000) :
    Calls Try.prog 26 #[.slice p1 l.length c1, .slice p2 l.length c2] w fun e w' => e = .returned (.bool true) ∧ Below w.heap.size w w' := by
  have H1 := Lib.hid h1; have H2 := Lib.hid h2; clear h1 h2
  go_enter Try.func26, Try.ntmps26
  go_wp2
  go_loopw [13] (fun i wr => ∃ k : Nat, k ≤ l.length ∧ i = .int .i64 k ∧ Below w.heap.size w wr) (fun i _ => l.length - (intOf i).toNat)
  case atStart => exact ⟨0, Nat.zero_le _, rfl, Below.refl _ _⟩
  case round =>
    obtain ⟨k, hk, rfl, hb⟩ := hrel
    have HB := Lib.hid hb; clear hb
    by_cases hkl : k < l.length
    · obtain ⟨b1, o1, rfl, _, q1⟩ := (H1.out.below HB.out).at (by omega)
      obtain ⟨b2, o2, rfl, _, q2⟩ := (H2.out.below HB.out).at (by omega)
      have r1 := q1 k hkl; have r2 := q2 k hkl
      clear q1 q2
      generalize l.getD k 0 = x at r1 r2
      have hkl' : (k : Int) < l.length := by omega
      go_wp2
      go_quiet (fail)
      go_wp2
      go_roundw
      case rel => exact ⟨k + 1, by omega, by go_num, below_drewN HB.out _⟩
      case measure => simp [intOf]; omega
    · obtain rfl : k = l.length := by omega
      go_wp2
      go_ret
      exact ⟨rfl, HB.out⟩
end Go.Proofs.Ytgdhaijaiogiiaa
