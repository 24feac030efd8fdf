/- The example that each law of layer 15 ends with. -/
import Derived.Test.YtldfomggeleolaaDoorTokWords
import Derived.Test.YtldfomggeleolaaDoorTokEqual
namespace Go.Proofs.YtldfomggeleolaaDoor
open Go Go.RowKit
set_option linter.unusedVariables false

theorem row2_lit (w : World) (t : TypeId) (l : List (Value × Value)) (cs : Array Value) (hcs : cs = (pc l).toArray) : Row2 (w.alloc (.cells cs t)) (some ⟨w.heap.size, 0, none⟩) l := fun i hi => by
  have h := heap_alloc_new w (.cells cs t)
  obtain ⟨g1, g2⟩ := pc_get l i hi
  subst hcs
  refine ⟨w.heap.size, rfl, by simp, ?_, ?_⟩
  · rw [cell_of_row _ _ _ _ _ _ h]; simpa using g1
  · rw [cell_of_row _ _ _ _ _ _ h]; simpa using g2
set_option maxHeartbeats 4000000 in
set_option maxRecDepth 100000 in
theorem awake15 (w : World) (hT : Tables w) : Calls Tryd.prog 7 #[] w fun e w' => e = .returned (.bool true) ∧ Below w.heap.size w w' := by
  have WD := tokWords_is ⟨#[82, 101, 100, 44, 32, 114, 101, 100, 32, 70, 79, 88]⟩ w (by decide) hT
  rw [ex15] at WD
  have W1 := Lib.hid WD
  clear WD hT
  go_enter Tryd.func7, Tryd.ntmps7
  go_wp2_with fail
  refine W1.out.mono ?_
  rintro e w1 ⟨v, rfl, hown, hb⟩
  obtain ⟨p, c, rfl, hc, hrow⟩ := own_row2 hown
  rw [tkl_len] at hc ⊢
  have RO := Lib.hid hrow; have B := Lib.hid hb
  clear hown hb hrow W1
  go_wp2_with fail
  have hb2 := (Below.refl w1.heap.size w1).alloc (Nat.le_refl _) (.cells #[.string ⟨#[114, 101, 100]⟩, .int .i64 0, .string ⟨#[114, 101, 100]⟩, .int .i64 1, .string ⟨#[102, 111, 120]⟩, .int .i64 2] 26)
  refine (equalTok_same [(⟨#[114, 101, 100]⟩, 0), (⟨#[114, 101, 100]⟩, 1), (⟨#[102, 111, 120]⟩, 2)] p (some ⟨w1.heap.size, 0, none⟩) c 3 _ (by decide) (RO.out.below hb2) (row2_lit w1 26 _ _ rfl)).mono ?_
  rintro e w3 ⟨rfl, hb3⟩
  have B3 := Lib.hid (B.out.trans ((hb2.trans (hb3.mono hb2.size)).mono B.out.size))
  clear hb2 hb3
  go_wp2
  go_ret
  exact ⟨rfl, B3.out⟩
end Go.Proofs.YtldfomggeleolaaDoor
