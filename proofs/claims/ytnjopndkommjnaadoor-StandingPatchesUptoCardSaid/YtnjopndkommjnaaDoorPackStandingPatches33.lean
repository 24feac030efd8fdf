/- The statement StandingPatches, proved for every input that its row reads: part 33 of 54. -/
import Derived.Test.YtnjopndkommjnaaDoorPackStandingPatches32
import Derived.Test.YtnjopndkommjnaaDoorPackStandingPatches22
import Derived.Test.YtnjopndkommjnaaDoorPackStandingPatches9
/- standing.Diff's order, and changes put in it. -/
namespace Go.Proofs.YtnjopndkommjnaaDoor
open Go Go.RowKit
set_option linter.unusedVariables false
set_option maxRecDepth 1000000

theorem cmpS_lt (a b : ByteArray) : decide (cmpS a b < 0) = ltB a b := by
  unfold cmpS
  cases e : ltB a b with
  | true => simp
  | false => cases e2 : ltB b a <;> simp
theorem diff1_is (x y : Chg) (w : World) : Calls Tryd.prog 22 #[.agg x.cells.toArray, .agg y.cells.toArray] w fun e w' => e = .returned (.int .i64 (cmpS x.hit.id y.hit.id)) ∧ Below w.heap.size w w' := by
  have CS := Lib.hid (compareS_is x.hit.id y.hit.id)
  obtain ⟨xk, xi, xs⟩ := x
  obtain ⟨yk, yi, ys⟩ := y
  dsimp only at CS ⊢
  change Calls Tryd.prog 22 #[.agg #[.int .i64 xk, .string xi, .int .i64 xs], .agg #[.int .i64 yk, .string yi, .int .i64 ys]] w _
  go_enter Tryd.func22, Tryd.ntmps22
  go_wp2_with fail
  refine (CS.out _).mono ?_
  rintro e w2 ⟨rfl, rfl⟩
  go_wp2
  go_ret
  exact ⟨rfl, thenBelow (below_alloc _ _) (below_alloc _ _)⟩
theorem diff_tells : TellsC 22 #[] ltC where
  enter := fun args w => by kernel_rfl
  tell := fun x y w => by
    have h := diff1_is x y w
    rw [show (#[.agg x.cells.toArray, .agg y.cells.toArray] ++ #[] : Array Value) = #[.agg x.cells.toArray, .agg y.cells.toArray] from rfl]
    refine h.mono ?_
    rintro e w' ⟨rfl, hb⟩
    exact ⟨_, rfl, cmpS_lt _ _, hb⟩
/-- nothing is in order -/
theorem insNil (F : FuncId) (w : World) : Calls Tryd.prog 42 #[.slice none 0 0, .int .i64 0, .int .i64 0, .func (.func F) #[] #[]] w (fun e w' => e = .returned (.tuple #[]) ∧ w' = w) := by
  go_enter Tryd.func42, Tryd.ntmps42
  go_wp2
  go_loopw [8] (fun v wr => v = .int .i64 1 ∧ wr = w) (fun v _ => 0)
  case atStart => exact ⟨rfl, rfl⟩
  case round =>
    obtain ⟨rfl, hw⟩ := hrel
    subst wr
    go_wp2
    exact bodyPost_end (results_none rfl _ _ _) rfl ⟨rfl, rfl⟩
theorem stbNil (F : FuncId) (w : World) : Calls Tryd.prog 35 #[.slice none 0 0, .int .i64 0, .func (.func F) #[] #[]] w (fun e w' => e = .returned (.tuple #[]) ∧ w' = w) := by
  have HC := Lib.hid (insNil F w)
  go_enter Tryd.func35, Tryd.ntmps35
  go_wp2
  go_loopw [7, 8] (fun x y wr => x = .int .i64 0 ∧ y = .int .i64 20 ∧ wr = w) (fun _ y _ => 0)
  case atStart => exact ⟨rfl, rfl, rfl⟩
  case round =>
    obtain ⟨rfl, rfl, hw⟩ := hrel
    subst wr
    go_wp2_with fail
    refine HC.out.mono ?_
    rintro e w2 ⟨rfl, hw2⟩
    subst w2
    clear HC
    dsimp only
    go_wp2
    go_loopw [6] (fun x wr => x = .int .i64 20 ∧ wr = w) (fun x _ => 0)
    case atStart => exact ⟨rfl, rfl⟩
    case round =>
      obtain ⟨rfl, hw⟩ := hrel
      subst wr
      go_wp2
      exact bodyPost_end (results_none rfl _ _ _) rfl ⟨rfl, rfl⟩
theorem stsNil (F : FuncId) (w : World) : Calls Tryd.prog 21 #[.slice none 0 0, .func (.func F) #[] #[]] w (fun e w' => e = .returned (.tuple #[]) ∧ w' = w) := by
  have HC := Lib.hid (stbNil F w)
  go_enter Tryd.func21, Tryd.ntmps21
  go_wp2_with fail
  refine HC.out.mono ?_
  rintro e w2 ⟨rfl, hw2⟩
  subst w2
  clear HC
  dsimp only
  go_wp2
  exact bodyPost_end (results_none rfl _ _ _) rfl ⟨rfl, rfl⟩
/-- a row of one's own, or nothing, put in order -/
theorem stsAny (B : Nat) (p : Option Addr) (c : Nat) (L : List Chg) (w : World) (h : w.ownsRow B 30 3 (.slice p L.length c) L.length (ccl L)) (hn : L.length ≤ 1000000) (hB : B ≤ w.heap.size) :
    Calls Tryd.prog 21 #[.slice p L.length c, .func (.func 22) #[] #[]] w (fun e w' => e = .returned (.tuple #[]) ∧ w'.ownsRow B 30 3 (.slice p L.length c) L.length (ccl (isrt ltC L)) ∧ Below B w w') := by
  rcases h.2 with ⟨h0, h1⟩ | ⟨g, cap, cur, h0, hg, _⟩
  · injection h0 with h0 h2 h3
    subst h0
    obtain rfl := List.eq_nil_of_length_eq_zero h2
    subst h3
    refine (stsNil _ w).mono ?_
    rintro e w' ⟨rfl, rfl⟩
    exact ⟨rfl, h, Below.refl _ _⟩
  · injection h0 with h0 h2 h3
    subst h0
    subst h3
    refine (stsC_is ltC sw_C 22 #[] diff_tells B g c L w h hn).mono ?_
    rintro e w' ⟨rfl, hr, hgr⟩
    have e1 := isrt_len (lt := ltC) L
    unfold RowC at hr
    rw [e1] at hr
    exact ⟨rfl, hr, grown_below hgr hB hg⟩
end Go.Proofs.YtnjopndkommjnaaDoor
