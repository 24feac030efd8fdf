/- How two hits stand: score.Less, and the document's. -/
import Derived.Test.YtnjopndkommjnaaDoorCellsG
import Derived.Test.YtnjopndkommjnaaDoorHitMem
import Derived.Test.YtnjopndkommjnaaDoorStdGoodP
namespace Go.Proofs.YtnjopndkommjnaaDoor
open Go Go.RowKit
set_option linter.unusedVariables false
set_option maxRecDepth 1000000

theorem less_is (x y : Ht) (w : World) : Calls Tryd.prog 26 #[.agg x.cells.toArray, .agg y.cells.toArray] w (RetBool w (ltH x y)) := by
  obtain ⟨xi, xs⟩ := x
  obtain ⟨yi, ys⟩ := y
  change Calls Tryd.prog 26 #[.agg #[.string xi, .int .i64 xs], .agg #[.string yi, .int .i64 ys]] w _
  by_cases h1 : ys < xs
  · have e : ltH ⟨xi, xs⟩ ⟨yi, ys⟩ = true := by unfold ltH; simp [h1]
    rw [e]
    go_enter Tryd.func26, Tryd.ntmps26
    go_wp2
    go_ret
    exact ⟨rfl, thenBelow (below_alloc _ _) (below_alloc _ _)⟩
  · by_cases h2 : xs = ys
    · subst h2
      cases h3 : ltB xi yi with
      | true =>
        have e : ltH ⟨xi, xs⟩ ⟨yi, xs⟩ = true := by unfold ltH; simp [h3]
        have h3' : Op.bytesLess xi.toList yi.toList = true := h3
        rw [e]
        clear e h3
        go_enter Tryd.func26, Tryd.ntmps26
        go_wp2
        go_ret
        exact ⟨rfl, thenBelow (below_alloc _ _) (below_alloc _ _)⟩
      | false =>
        have e : ltH ⟨xi, xs⟩ ⟨yi, xs⟩ = false := by unfold ltH; simp [h3]
        have h3' : Op.bytesLess xi.toList yi.toList = false := h3
        rw [e]
        clear e h3
        go_enter Tryd.func26, Tryd.ntmps26
        go_wp2
        go_ret
        exact ⟨rfl, thenBelow (below_alloc _ _) (below_alloc _ _)⟩
    · have e : ltH ⟨xi, xs⟩ ⟨yi, ys⟩ = false := by unfold ltH; simp [h1, h2]
      rw [e]
      go_enter Tryd.func26, Tryd.ntmps26
      go_wp2
      go_ret
      exact ⟨rfl, thenBelow (below_alloc _ _) (below_alloc _ _)⟩
theorem refLess_is (x y : Ht) (w : World) : Calls Tryd.prog 27 #[.agg x.cells.toArray, .agg y.cells.toArray] w (RetBool w (ltH x y)) := by
  obtain ⟨xi, xs⟩ := x
  obtain ⟨yi, ys⟩ := y
  change Calls Tryd.prog 27 #[.agg #[.string xi, .int .i64 xs], .agg #[.string yi, .int .i64 ys]] w _
  by_cases h1 : ys < xs
  · have e : ltH ⟨xi, xs⟩ ⟨yi, ys⟩ = true := by unfold ltH; simp [h1]
    rw [e]
    go_enter Tryd.func27, Tryd.ntmps27
    go_wp2
    go_ret
    exact ⟨rfl, thenBelow (below_alloc _ _) (below_alloc _ _)⟩
  · by_cases h2 : xs = ys
    · subst h2
      cases h3 : ltB xi yi with
      | true =>
        have e : ltH ⟨xi, xs⟩ ⟨yi, xs⟩ = true := by unfold ltH; simp [h3]
        have h3' : Op.bytesLess xi.toList yi.toList = true := h3
        rw [e]
        clear e h3
        go_enter Tryd.func27, Tryd.ntmps27
        go_wp2
        go_ret
        exact ⟨rfl, thenBelow (below_alloc _ _) (below_alloc _ _)⟩
      | false =>
        have e : ltH ⟨xi, xs⟩ ⟨yi, xs⟩ = false := by unfold ltH; simp [h3]
        have h3' : Op.bytesLess xi.toList yi.toList = false := h3
        rw [e]
        clear e h3
        go_enter Tryd.func27, Tryd.ntmps27
        go_wp2
        go_ret
        exact ⟨rfl, thenBelow (below_alloc _ _) (below_alloc _ _)⟩
    · have e : ltH ⟨xi, xs⟩ ⟨yi, ys⟩ = false := by unfold ltH; simp [h1, h2]
      rw [e]
      go_enter Tryd.func27, Tryd.ntmps27
      go_wp2
      go_ret
      exact ⟨rfl, thenBelow (below_alloc _ _) (below_alloc _ _)⟩
end Go.Proofs.YtnjopndkommjnaaDoor
