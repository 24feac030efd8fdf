/- The walk of PagesNobody, but for the example that the law ends with. -/
import Derived.Test.YtfgjcgonlpbdbaaPgState
namespace Go.Proofs.Ytfgjcgonlpbdbaa
open Go Go.RowKit
set_option linter.unusedVariables false

/-- the two devices that the law asks -/
def TwoDisks (w : World) (A : Nat) : Prop := ∀ k, k < 2 → ∃ p, w.cell? ⟨A, k, none⟩ = some (.pointer p) ∧ NoDisk w p
theorem TwoDisks.below {w w' : World} {A : Nat} (h : TwoDisks w A) (hb : Below w.heap.size w w') : TwoDisks w' A := fun k hk => by
  obtain ⟨p, h1, h2⟩ := h k hk
  exact ⟨p, (hb.cell (p := ⟨A, k, none⟩) (World.block_lt_of_cell? w _ h1)).trans h1, h2.below hb⟩

set_option maxHeartbeats 8000000 in
set_option maxRecDepth 100000 in
theorem pagesNobody_of (AWAKE : ∀ w : World, Calls Try.prog 9 #[] w (Yes w)) (i n : Int) (bp kp : Option Addr) (bl bc kl kc : Nat) (W : World) :
    Calls Try.prog 6 #[.int .i64 i, .int .i64 n, .slice bp bl bc, .slice kp kl kc] W (Yes W) := by
  have AW0 := Lib.hid AWAKE
  clear AWAKE
  go_enter Try.func6, Try.ntmps6
  go_wp2_with fail
  have hbel : Below W.heap.size W ((W.alloc (.cells #[.bool false, .int .i64 0, .slice none 0 0, .map none] 56)).alloc (.cells #[.pointer none, .pointer (some ⟨W.heap.size, 0, none⟩)] 23)) := ((Below.refl _ _).alloc (Nat.le_refl _) _).alloc (by simp) _
  have htwo : TwoDisks ((W.alloc (.cells #[.bool false, .int .i64 0, .slice none 0 0, .map none] 56)).alloc (.cells #[.pointer none, .pointer (some ⟨W.heap.size, 0, none⟩)] 23)) (W.heap.size + 1) := by
    intro k hk
    rcases (show k = 0 ∨ k = 1 by omega) with rfl | rfl
    · exact ⟨none, by rw [World.cell?_alloc_at _ _ _ _ (by simp)]; rfl, .inl rfl⟩
    · exact ⟨some ⟨W.heap.size, 0, none⟩, by rw [World.cell?_alloc_at _ _ _ _ (by simp)]; rfl, .inr ⟨_, rfl, by rw [Below.heap_alloc _ _ _ (by simp)]; exact heap_alloc_new W _⟩⟩
  generalize ((W.alloc (.cells #[.bool false, .int .i64 0, .slice none 0 0, .map none] 56)).alloc (.cells #[.pointer none, .pointer (some ⟨W.heap.size, 0, none⟩)] 23)) = w2 at *
  have HB := Lib.hid hbel; have TW := Lib.hid htwo
  clear hbel htwo
  go_loopw [17] (fun j wr => ∃ k : Nat, k ≤ 2 ∧ j = .int .i64 k ∧ Below w2.heap.size w2 wr) (fun j _ => 2 - (intOf j).toNat)
  case atStart => exact ⟨0, by omega, rfl, Below.refl _ _⟩
  case round =>
    obtain ⟨k, hk, rfl, hb⟩ := hrel
    have BB := Lib.hid hb
    clear hb
    by_cases hlt : k < 2
    · obtain ⟨p, hc, hv⟩ := (TW.out.below BB.out) k hlt
      have V := Lib.hid hv
      have hlt' : (k : Int) < 2 := by omega
      clear hv
      have C := Lib.hid (nobody_read p i wr V.out)
      go_wp2_with fail
      refine C.out.mono ?_
      rintro e w' ⟨rfl, rfl⟩
      clear C
      have C := Lib.hid (sizeD_is p 0 wr V.out.sized)
      go_wp2_with fail
      refine C.out.mono ?_
      rintro e w' ⟨rfl, rfl⟩
      clear C
      have C := Lib.hid (nobody_loose p wr V.out)
      go_wp2_with fail
      refine C.out.mono ?_
      rintro e w' ⟨rfl, rfl⟩
      clear C
      have C := Lib.hid (nobody_write p i (.slice bp bl bc) wr V.out)
      go_wp2_with fail
      refine C.out.mono ?_
      rintro e w' ⟨rfl, rfl⟩
      clear C
      have C := Lib.hid (nobody_sync p wr V.out)
      go_wp2_with fail
      refine C.out.mono ?_
      rintro e w' ⟨rfl, rfl⟩
      clear C
      have C := Lib.hid (nobody_crash p (.slice kp kl kc) (.int .i64 i) (.int .i64 n) wr V.out)
      go_wp2_with fail
      refine C.out.mono ?_
      rintro e w' ⟨rfl, rfl⟩
      clear C
      have C := Lib.hid (nobody_fuse p (.int .i64 n) wr V.out)
      go_wp2_with fail
      refine C.out.mono ?_
      rintro e w' ⟨rfl, rfl⟩
      clear C
      have C := Lib.hid (nobody_dead p wr V.out)
      go_wp2_with fail
      refine C.out.mono ?_
      rintro e w' ⟨rfl, rfl⟩
      clear C
      have C := Lib.hid (nobody_clone p wr V.out)
      go_wp2_with fail
      refine C.out.mono ?_
      rintro e w' ⟨rfl, rfl⟩
      clear C
      go_wp2
      go_roundw
      case rel => exact ⟨k + 1, by omega, by go_num, BB.out⟩
      case measure => simp [intOf]; omega
    · obtain rfl : k = 2 := by omega
      have AW := Lib.hid (AW0.out wr)
      have B9 := Lib.hid (HB.out.trans (BB.out.mono HB.out.size))
      go_wp2_with fail
      refine AW.out.mono ?_
      rintro e w9 ⟨rfl, hb9⟩
      have B10 := Lib.hid (thenBelow B9.out hb9)
      go_wp2
      go_ret
      exact ⟨rfl, B10.out⟩
end Go.Proofs.Ytfgjcgonlpbdbaa
