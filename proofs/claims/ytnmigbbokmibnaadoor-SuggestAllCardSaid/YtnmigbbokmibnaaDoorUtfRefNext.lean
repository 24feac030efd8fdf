/- The contract of the document's own Next. -/
import Derived.Test.YtnmigbbokmibnaaDoorUtfMatch
import Derived.Test.YtnmigbbokmibnaaDoorUtfRef
import Derived.Test.YtnmigbbokmibnaaDoorUtfCut2
import Derived.Deep.QuietTactic
import Derived.BigQuiet
namespace Go.Proofs.YtnmigbbokmibnaaDoor
open Go Go.RowKit

theorem value_is (c : Nat) (w : World) (h : c < 256) : Calls Tryd.prog 69 #[.int .u8 c] w fun e w' => e = .returned (.int .i64 ((c % 64 : Nat) : Int)) ∧ w = w' := by
  go_enter Tryd.func69, Tryd.ntmps69
  go_wp2
  go_ret
  exact ⟨ret_intU (by first | rfl | (simp; done) | (simp; omega)), rfl⟩

theorem refNext_out (s : ByteArray) (at_ : Int) (w : World) (h : at_ < 0 ∨ (s.size : Int) ≤ at_) : Calls Tryd.prog 45 #[.string s, .int .i64 at_] w fun e w' => e = .returned (.tuple #[.int .i64 (-1), .int .i64 0]) ∧ w = w' := by
  rcases h with h | h
  · go_enter Tryd.func45, Tryd.ntmps45
    go_wp2
    go_ret2
    exact ⟨rfl, rfl⟩
  · by_cases h0 : at_ < 0
    all_goals
      go_enter Tryd.func45, Tryd.ntmps45
      go_wp2
      go_ret2
      exact ⟨rfl, rfl⟩

namespace Utf
theorem gt_ext (s : ByteArray) (p i : Nat) (h : p + i < s.size) : gt (s.extract p s.size) i = gt s (p + i) := by
  have hs : (s.extract p s.size).size = s.size - p := by rw [ByteArray.size_extract]; omega
  rw [← gt_at (s.extract p s.size) i (by omega), ← gt_at s (p + i) h, ByteArray.getElem_extract]
theorem mt_test (s S : ByteArray) (p k : Nat) (hfit : p + k + 1 ≤ s.size) (hS : S.size = s.size - p) (hG : ∀ i, p + i < s.size → gt S i = gt s (p + i)) :
    (enc (rk s p k : Nat) == (S.extract 0 (k + 1)).toList) = true ↔ mt s p k := by
  rw [beq_iff_eq, Lib.toList_data]
  have hz : (S.extract 0 (k + 1)).size = k + 1 := pre_size S (k + 1) (by omega)
  have hl : (S.extract 0 (k + 1)).data.toList.length = k + 1 := by rw [Array.length_toList]; exact hz
  have hg : ∀ i, i ≤ k → ((S.extract 0 (k + 1)).data.toList.getD i 0).toNat = gt s (p + i) := fun i hi => by
    rw [← hG i (by omega), ← gt_pre S (k + 1) i (by omega) (by omega)]; rfl
  generalize (S.extract 0 (k + 1)).data.toList = T at hl hg
  unfold mt
  constructor
  · intro e
    rw [e]
    exact ⟨hfit, hl, hg⟩
  · intro ⟨_, h1, h2⟩
    refine List.ext_getElem (by rw [h1, hl]) fun i i1 i2 => ?_
    have a := h2 i (by omega); have b := hg i (by omega)
    rw [List.getD, List.getElem?_eq_getElem i1, Option.getD_some] at a
    rw [List.getD, List.getElem?_eq_getElem i2, Option.getD_some] at b
    exact UInt8.toNat_inj.1 (a.trans b.symm)
end Utf
def RetN (w : World) (x : Int × Nat) (e : Ending) (w' : World) : Prop := e = .returned (.tuple #[.int .i64 x.1, .int .i64 (x.2 : Nat)]) ∧ Below w.heap.size w w'

end Go.Proofs.YtnmigbbokmibnaaDoor
