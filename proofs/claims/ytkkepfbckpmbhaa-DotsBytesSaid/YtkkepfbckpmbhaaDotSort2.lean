/- SortFunc of three dots. -/
import Derived.Test.YtkkepfbckpmbhaaDotSort
import Derived.Lib.Tables
namespace Go.Proofs.Ytkkepfbckpmbhaa
open Go Go.RowKit
set_option linter.unusedVariables false

def Sorted3 (w : World) (b : Nat) (e : Ending) (w' : World) : Prop := e = .returned (.tuple #[]) ∧ Six w' b 3 4 6 ∧ w.grownBy w' (some b)
set_option maxHeartbeats 2000000 in
set_option maxRecDepth 100000 in
theorem pdq3 (b cap : Nat) (lim : Int) (w : World) (h : Six w b 4 3 6) :
    Calls Try.prog 77 #[.slice (some ⟨b, 0, none⟩) 3 cap, .int .i64 0, .int .i64 3, .int .i64 lim, .func (.func 11) #[] #[]] w (Sorted3 w b) := by
  have I := Lib.hid (ins3 b cap w h)
  clear h
  go_enter Try.func77, Try.ntmps77
  go_wp2
  refine wp_loop_rounds 1 ?_
  rw [rounds_succ]
  go_wp2_with fail
  refine I.out.mono ?_
  rintro e w2 ⟨rfl, h2, h3⟩
  have E : Hid (Sorted3 w b (.returned (.tuple #[])) w2) := ⟨rfl, h2, h3⟩
  clear h2 h3 I
  go_wp2
  go_end0
  exact E.out
theorem len3 (w : World) : Calls Try.prog 78 #[.int .u64 3] w fun e w' => e = .returned (.int .i64 2) ∧ w = w' := by
  go_enter Try.func78, Try.ntmps78
  go_wp2
  have h8 : wrap64 (wrap64 (Lib.len8 3)) = 2 := by decide +kernel
  go_ret
  exact ⟨(show Ending.returned (Value.int .i64 (wrap64 (wrap64 (Lib.len8 3)))) = _ by rw [h8]), rfl⟩
set_option maxHeartbeats 1000000 in
theorem sort3 (b cap : Nat) (w : World) (h : Six w b 4 3 6) :
    Calls Try.prog 62 #[.slice (some ⟨b, 0, none⟩) 3 cap, .func (.func 11) #[] #[]] w (Sorted3 w b) := by
  have P := Lib.hid (pdq3 b cap 2 w h)
  have L := Lib.hid (len3 w)
  clear h
  go_enter Try.func62, Try.ntmps62
  go_wp2_with fail
  refine L.out.mono ?_
  rintro e w' ⟨rfl, rfl⟩
  go_wp2_with fail
  refine P.out.mono ?_
  rintro e w2 ⟨rfl, h2, h3⟩
  have E : Hid (Sorted3 w b (.returned (.tuple #[])) w2) := ⟨rfl, h2, h3⟩
  clear h2 h3 P
  go_wp2
  go_end0
  exact E.out
end Go.Proofs.Ytkkepfbckpmbhaa
