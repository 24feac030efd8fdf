/- The statement StandingPatches, proved for every input that its row reads: part 35 of 54. -/
import Derived.Test.YtnjopndkommjnaaDoorPackStandingPatches34
import Derived.Test.YtnjopndkommjnaaDoorPackStandingPatches28
/- The example that every law of layer 34 ends with. -/
namespace Go.Proofs.YtnjopndkommjnaaDoor
open Go Go.RowKit
set_option linter.unusedVariables false
set_option maxRecDepth 1000000

def exA : ByteArray := ⟨#[97]⟩
def exB : ByteArray := ⟨#[98]⟩
def exOld : List Ht := [⟨exA, 3⟩, ⟨exB, 2⟩]
def exNow : List Ht := [⟨exB, 4⟩]
theorem ex_len : (diffL exOld exNow).length = 2 := by decide +kernel
theorem ex_ok : ∀ x ∈ diffL exOld exNow, -9223372036854775808 ≤ x.hit.score ∧ x.hit.score ≤ 9223372036854775807 := by decide +kernel
theorem ex_is : diffL exOld exNow = [⟨2, ⟨exA, 3⟩⟩, ⟨3, ⟨exB, 4⟩⟩] := by
  have h1 : scoresOf exNow exA = [] := by decide +kernel
  have h2 : scoresOf exNow exB = [4] := by decide +kernel
  have h3 : scoresOf exOld exB = [2] := by decide +kernel
  have h4 : ltB exA exB = true := by decide +kernel
  have e1 : wentL exOld exNow = [⟨2, ⟨exA, 3⟩⟩] := by simp [wentL, exOld, h1, h2]
  have e2 : cameL exOld exNow = [⟨3, ⟨exB, 4⟩⟩] := by simp [cameL, exNow, cameOf, h3]
  unfold diffL
  rw [e1, e2]
  have h5 : ltB exB exA = false := by decide +kernel
  simp [isrt, mrg, ltC, h4, h5]
theorem ex_text : textL (diffL exOld exNow) = [45, 97, 32, 51, 10, 126, 98, 32, 52, 10] := by
  rw [ex_is]
  have n3 : Lib.itoa 3 = [51] := by simp [Lib.itoa, Lib.decDigits]
  have n4 : Lib.itoa 4 = [52] := by simp [Lib.itoa, Lib.decDigits]
  have m2 : markB 2 = ⟨#[45]⟩ := by decide +kernel
  have m3 : markB 3 = ⟨#[126]⟩ := by decide +kernel
  simp [textL, lineL, lineB, numB, n3, n4, m2, m3, exA, exB]
theorem hits_block {w : World} {g : Nat} {cs : Array Value} {t : TypeId} {m : Nat × Nat} (L : List Ht) (h : w.heap[g]? = some (.cells cs t m)) (e : cs.toList = hcl L) : HtsAt w (some ⟨g, 0, none⟩) L :=
  ⟨fun _ => ⟨g, 0, rfl, by rw [← e]; exact range_of_block h⟩, fun hp => by cases hp⟩
set_option maxHeartbeats 4000000 in
theorem awake34_is (w : World) (hP : Pow w) : Calls Tryd.prog 8 #[] w (RetBool w true) := by
  have HP := Lib.hid hP
  clear hP
  go_enter Tryd.func8, Tryd.ntmps8
  have b1 := below_alloc w (.cells #[.string exA, .int .i64 3, .string exB, .int .i64 2] 28)
  have h1 := heap_alloc_new w (.cells #[.string exA, .int .i64 3, .string exB, .int .i64 2] 28)
  have z1 : (w.alloc (.cells #[.string exA, .int .i64 3, .string exB, .int .i64 2] 28)).heap.size = w.heap.size + 1 := by simp
  have b2 := below_alloc (w.alloc (.cells #[.string exA, .int .i64 3, .string exB, .int .i64 2] 28)) (.cells #[.string exB, .int .i64 4] 28)
  have h2 := heap_alloc_new (w.alloc (.cells #[.string exA, .int .i64 3, .string exB, .int .i64 2] 28)) (.cells #[.string exB, .int .i64 4] 28)
  rw [z1] at h2
  have h1' := (b2.block w.heap.size (by rw [z1]; omega)).trans h1
  have O := hits_block exOld h1' rfl
  have N := hits_block exNow h2 rfl
  have DI := Lib.hid (diff_is _ _ 2 1 exOld exNow _ O (by decide) N (by decide))
  have B2 := Lib.hid (thenBelow b1 b2)
  clear b1 h1 z1 b2 h2 h1' O N
  go_wp2_with fail
  refine DI.out.mono ?_
  rintro e w3 ⟨v, rfl, o3, b3⟩
  have B3 := Lib.hid (thenBelow B2.out b3)
  obtain ⟨p, c, rfl, _, C3, _⟩ := own_atC o3
  have TX := Lib.hid (text_is p c _ w3 C3 (by rw [ex_len]; omega) ex_ok (by rw [ex_text]; decide) (HP.out.later B3.out))
  rw [ex_text] at TX
  clear DI b3 o3 C3 B2
  dsimp only
  go_wp2_with fail
  refine TX.out.mono ?_
  rintro e w4 ⟨rfl, b4⟩
  have B4 := Lib.hid (thenBelow B3.out b4)
  clear TX b4
  dsimp only
  go_wp2
  go_ret
  exact ⟨ret_bool (by decide +kernel), B4.out⟩
end Go.Proofs.YtnjopndkommjnaaDoor
