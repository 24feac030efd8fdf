/- The contracts of strings.Clone, strings.HasPrefix and utf's Cut. -/
import Derived.Test.YtnmigbbokmibnaaDoorUtfValid
import Derived.Lib.Strings
import Derived.Lib.Walk
import Derived.Lib.BufferWrite
import Derived.Lib.UnsafeStr
import Derived.Laws.MakeOwn
namespace Go.Proofs.YtnmigbbokmibnaaDoor
open Go Go.RowKit

/-- a text's beginning is one -/
theorem stringslite_prefix (s : ByteArray) (p : Nat) (w : World) (hp : p ≤ s.size) (hs : s.size ≤ 140737488351232) : Calls Tryd.prog 72 #[.string s, .string (s.extract 0 p)] w fun e w' => e = .returned (.bool true) ∧ w = w' := by
  have h1 : (s.extract 0 p).size = p := by rw [ByteArray.size_extract]; omega
  generalize hc : s.extract 0 p = c at h1
  have h2 : c.size ≤ s.size := by omega
  have h3 : s.extract 0 c.size = c := by rw [h1, hc]
  clear hc h1 hp
  go_enter Tryd.func72, Tryd.ntmps72
  go_wp2
  go_ret
  exact ⟨ret_bool (by first | rfl | (simp; done) | simp [h3]), rfl⟩
theorem prefix_is (s : ByteArray) (p : Nat) (w : World) (hp : p ≤ s.size) (hs : s.size ≤ 140737488351232) : Calls Tryd.prog 51 #[.string s, .string (s.extract 0 p)] w fun e w' => e = .returned (.bool true) ∧ w = w' := by
  have h := stringslite_prefix s p w hp hs
  go_enter Tryd.func51, Tryd.ntmps51
  go_wp2_with fail
  refine h.mono ?_
  rintro e w' ⟨rfl, rfl⟩
  go_wp2_with fail
  go_ret
  exact ⟨rfl, rfl⟩
end Go.Proofs.YtnmigbbokmibnaaDoor
