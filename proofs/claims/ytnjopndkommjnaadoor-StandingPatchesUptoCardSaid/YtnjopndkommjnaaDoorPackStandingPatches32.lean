/- The statement StandingPatches, proved for every input that its row reads: part 32 of 54. -/
import Derived.Test.YtnjopndkommjnaaDoorCellsG
import Derived.Test.YtnjopndkommjnaaDoorTabSPlain
import Derived.Test.YtnjopndkommjnaaDoorPackStandingPatches10
import Derived.Test.YtnjopndkommjnaaDoorPackStandingPatches31
/- cmp.Compare of two texts. -/
namespace Go.Proofs.YtnjopndkommjnaaDoor
open Go Go.RowKit
set_option linter.unusedVariables false
set_option maxRecDepth 1000000

/-- how two texts stand -/
def cmpS (a b : ByteArray) : Int := if ltB a b then -1 else if ltB b a then 1 else 0
theorem isNaNS_is (x : ByteArray) (w : World) : Calls Tryd.prog 36 #[.string x] w fun e w' => e = .returned (.bool false) ∧ w = w' := by
  go_enter Tryd.func36, Tryd.ntmps36
  go_wp2
  go_ret
  exact ⟨ret_bool (by simp), rfl⟩
theorem compareS_is (x y : ByteArray) (w : World) : Calls Tryd.prog 23 #[.string x, .string y] w fun e w' => e = .returned (.int .i64 (cmpS x y)) ∧ w = w' := by
  have Nx := Lib.hid (isNaNS_is x w); have Ny := Lib.hid (isNaNS_is y w)
  unfold cmpS
  cases h : ltB x y with
  | true =>
    have h' : Op.bytesLess x.toList y.toList = true := h
    rw [if_pos rfl]
    clear h
    go_enter Tryd.func23, Tryd.ntmps23
    go_wp2_with fail
    refine Nx.out.mono ?_
    rintro e w' ⟨rfl, rfl⟩
    go_wp2_with fail
    refine Ny.out.mono ?_
    rintro e w' ⟨rfl, rfl⟩
    go_wp2
    go_ret
    exact ⟨rfl, rfl⟩
  | false =>
    have h' : Op.bytesLess x.toList y.toList = false := h
    rw [if_neg (by decide)]
    clear h
    cases h2 : ltB y x with
    | true =>
      have h2' : Op.bytesLess y.toList x.toList = true := h2
      have hne : (x.toList == y.toList) = false := by
        rw [beq_eq_false_iff_ne]
        intro e
        have e2 : ltB x y = ltB y x := by unfold ltB; rw [e]
        rw [h2] at e2
        have e3 : ltB x y = false := h'
        rw [e3] at e2
        cases e2
      rw [if_pos rfl]
      clear h2
      go_enter Tryd.func23, Tryd.ntmps23
      go_wp2_with fail
      refine Nx.out.mono ?_
      rintro e w' ⟨rfl, rfl⟩
      go_wp2_with fail
      refine Ny.out.mono ?_
      rintro e w' ⟨rfl, rfl⟩
      go_wp2
      go_ret
      exact ⟨rfl, rfl⟩
    | false =>
      have h2' : Op.bytesLess y.toList x.toList = false := h2
      have hne : (x.toList == y.toList) = true := by
        have e3 : ltB x y = false := h'
        rw [lin_B.tot x y e3 h2]
        simp
      rw [if_neg (by decide)]
      clear h2
      go_enter Tryd.func23, Tryd.ntmps23
      go_wp2_with fail
      refine Nx.out.mono ?_
      rintro e w' ⟨rfl, rfl⟩
      go_wp2_with fail
      refine Ny.out.mono ?_
      rintro e w' ⟨rfl, rfl⟩
      go_wp2
      go_ret
      exact ⟨rfl, rfl⟩
end Go.Proofs.YtnjopndkommjnaaDoor
/- How two hits stand: score.Less, and the document's. -/
namespace Go.Proofs.YtnjopndkommjnaaDoor
open Go Go.RowKit
set_option linter.unusedVariables false
set_option maxRecDepth 1000000

theorem less_is (x y : Ht) (w : World) : Calls Tryd.prog 26 #[.agg x.cells.toArray, .agg y.cells.toArray] w (RetBool w (ltH x y)) := by
  obtain ⟨xi, xs⟩ := x
  obtain ⟨yi, ys⟩ := y
  change Calls Tryd.prog 26 #[.agg #[.string xi, .int .i64 xs], .agg #[.string yi, .int .i64 ys]] w _
  by_cases h1 : ys < xs
  · have e : ltH ⟨xi, xs⟩ ⟨yi, ys⟩ = true := by unfold ltH; simp [h1]
    rw [e]
    go_enter Tryd.func26, Tryd.ntmps26
    go_wp2
    go_ret
    exact ⟨rfl, thenBelow (below_alloc _ _) (below_alloc _ _)⟩
  · by_cases h2 : xs = ys
    · subst h2
      cases h3 : ltB xi yi with
      | true =>
        have e : ltH ⟨xi, xs⟩ ⟨yi, xs⟩ = true := by unfold ltH; simp [h3]
        have h3' : Op.bytesLess xi.toList yi.toList = true := h3
        rw [e]
        clear e h3
        go_enter Tryd.func26, Tryd.ntmps26
        go_wp2
        go_ret
        exact ⟨rfl, thenBelow (below_alloc _ _) (below_alloc _ _)⟩
      | false =>
        have e : ltH ⟨xi, xs⟩ ⟨yi, xs⟩ = false := by unfold ltH; simp [h3]
        have h3' : Op.bytesLess xi.toList yi.toList = false := h3
        rw [e]
        clear e h3
        go_enter Tryd.func26, Tryd.ntmps26
        go_wp2
        go_ret
        exact ⟨rfl, thenBelow (below_alloc _ _) (below_alloc _ _)⟩
    · have e : ltH ⟨xi, xs⟩ ⟨yi, ys⟩ = false := by unfold ltH; simp [h1, h2]
      rw [e]
      go_enter Tryd.func26, Tryd.ntmps26
      go_wp2
      go_ret
      exact ⟨rfl, thenBelow (below_alloc _ _) (below_alloc _ _)⟩
theorem refLess_is (x y : Ht) (w : World) : Calls Tryd.prog 27 #[.agg x.cells.toArray, .agg y.cells.toArray] w (RetBool w (ltH x y)) := by
  obtain ⟨xi, xs⟩ := x
  obtain ⟨yi, ys⟩ := y
  change Calls Tryd.prog 27 #[.agg #[.string xi, .int .i64 xs], .agg #[.string yi, .int .i64 ys]] w _
  by_cases h1 : ys < xs
  · have e : ltH ⟨xi, xs⟩ ⟨yi, ys⟩ = true := by unfold ltH; simp [h1]
    rw [e]
    go_enter Tryd.func27, Tryd.ntmps27
    go_wp2
    go_ret
    exact ⟨rfl, thenBelow (below_alloc _ _) (below_alloc _ _)⟩
  · by_cases h2 : xs = ys
    · subst h2
      cases h3 : ltB xi yi with
      | true =>
        have e : ltH ⟨xi, xs⟩ ⟨yi, xs⟩ = true := by unfold ltH; simp [h3]
        have h3' : Op.bytesLess xi.toList yi.toList = true := h3
        rw [e]
        clear e h3
        go_enter Tryd.func27, Tryd.ntmps27
        go_wp2
        go_ret
        exact ⟨rfl, thenBelow (below_alloc _ _) (below_alloc _ _)⟩
      | false =>
        have e : ltH ⟨xi, xs⟩ ⟨yi, xs⟩ = false := by unfold ltH; simp [h3]
        have h3' : Op.bytesLess xi.toList yi.toList = false := h3
        rw [e]
        clear e h3
        go_enter Tryd.func27, Tryd.ntmps27
        go_wp2
        go_ret
        exact ⟨rfl, thenBelow (below_alloc _ _) (below_alloc _ _)⟩
    · have e : ltH ⟨xi, xs⟩ ⟨yi, ys⟩ = false := by unfold ltH; simp [h1, h2]
      rw [e]
      go_enter Tryd.func27, Tryd.ntmps27
      go_wp2
      go_ret
      exact ⟨rfl, thenBelow (below_alloc _ _) (below_alloc _ _)⟩
end Go.Proofs.YtnjopndkommjnaaDoor
