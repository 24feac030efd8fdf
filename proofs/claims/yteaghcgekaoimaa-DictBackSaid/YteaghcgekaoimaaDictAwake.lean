/- The example that each law of layer 18 ends with. -/
import Derived.Test.YteaghcgekaoimaaDictBytes
namespace Go.Proofs.Yteaghcgekaoimaa
open Go Go.RowKit
set_option linter.unusedVariables false

def exWords : List ByteArray := [⟨#[102, 111, 120]⟩, ⟨#[102, 111, 120, 101, 115]⟩, ⟨#[114, 117, 110]⟩]
def exBytes : List UInt8 := [3, 0, 3, 102, 111, 120, 3, 2, 101, 115, 0, 3, 114, 117, 110]
theorem exVerdict : verdict exWords = 0 := by decide +kernel
theorem exUpto : dictUpto exWords 3 = exBytes := by decide +kernel
theorem liesS_lit (w : World) (ty : TypeId) (m : Nat × Nat) (l : List ByteArray) (cs : Array Value) (hcs : cs = (l.map Value.string).toArray) : LiesS (w.alloc (.cells cs ty m)) (some ⟨w.heap.size, 0, none⟩) l := by
  subst hcs
  intro _
  refine ⟨w.heap.size, 0, rfl, fun i hi => ?_⟩
  rw [Nat.zero_add, cell_of_row _ _ _ _ _ _ (heap_alloc_new w _)]
  simp [List.getD, List.getElem?_eq_getElem hi]
theorem not_five {l : List ByteArray} (h : verdict l = 0) : l.length ≤ 16384 ∧ Proper l := by
  rcases verdict_cases l with ⟨h1, _⟩ | ⟨_, h2, h3⟩ | ⟨h1, _⟩
  · rw [h] at h1; exact absurd h1 (by decide)
  · exact ⟨h2, h3⟩
  · rw [h] at h1; exact absurd h1 (by decide)
set_option maxHeartbeats 4000000 in
theorem awake18 (w : World) : Calls Try.prog 7 #[] w (Yes w) := by
  have BU := Lib.hid (build_is (some ⟨w.heap.size, 0, none⟩) 3 exWords (w.alloc (.cells (exWords.map Value.string).toArray 9)) (liesS_lit w _ _ exWords _ rfl) (fun h => by cases h) (Nat.le_refl _))
  go_enter Try.func7, Try.ntmps7
  go_wp2_with fail
  refine BU.out.mono ?_
  rintro e w1 ⟨hb1, ⟨_, D, rfl, hd⟩ | ⟨hne, _⟩⟩
  · have BY := Lib.hid (dictBytes_is D exWords w1 hd (not_five exVerdict).2 (not_five exVerdict).1)
    have B1 : Hid (Below w.heap.size w w1) := thenBelow ((Below.refl _ _).alloc (Nat.le_refl _) _) hb1
    clear hb1 hd BU
    go_wp2_with fail
    refine BY.out.mono ?_
    intro e w2 h2
    rw [show dictUpto exWords exWords.length = exBytes from exUpto] at h2
    obtain ⟨p2, c2, rfl, _, _, _, hl2, hb2⟩ := h2.bytes
    have L2 := Lib.hid hl2; have B2 := Lib.hid (thenBelow B1.out hb2)
    clear h2 hl2 hb2 BY B1
    go_wp2_with fail
    refine (equal_any _ _ _ _ _ _ exBytes exBytes _ (L2.out.alloc _) (lies_lit _ _ _ exBytes _ rfl) rfl rfl).mono ?_
    rintro e w' ⟨rfl, rfl⟩
    go_wp2_with fail
    go_ret
    exact ⟨by simp, thenBelow B2.out ((Below.refl _ _).alloc (Nat.le_refl _) _)⟩
  · exact absurd exVerdict hne
end Go.Proofs.Yteaghcgekaoimaa
