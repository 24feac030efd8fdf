/- Within of rows of 64, of both. -/
import Derived.Test.YtimfcedkmdbnfaaVecJoin
namespace Go.Proofs.Ytimfcedkmdbnfaa
open Go Go.RowKit

/-- what a call that hands back a bool, and turns nothing that was, comes to -/
def RetBool (w : World) (b : Bool) (e : Ending) (w' : World) : Prop := e = .returned (.bool b) ∧ Below w.heap.size w w'
/-- is each number of one at most that of another one at all places of a list? -/
def vle (f g : Nat → Int) : Bool := (List.range 64).all fun i => f i ≤ g i
theorem vle_iff (f g : Nat → Int) : vle f g = true ↔ ∀ i, i < 64 → f i ≤ g i := by simp [vle]
theorem vle_no {f g : Nat → Int} (i : Nat) (hi : i < 64) (h : g i < f i) : vle f g = false := by
  cases e : vle f g with
  | false => rfl
  | true => exact absurd ((vle_iff f g).1 e i hi) (by omega)
theorem vle_eq (f g : Nat → Int) : veq (fun i => max (f i) (g i)) g = vle f g := by
  rw [Bool.eq_iff_iff, veq_iff, vle_iff]
  exact ⟨fun h i hi => by have := h i hi; omega, fun h i hi => by have := h i hi; omega⟩

set_option maxHeartbeats 1000000 in
set_option maxRecDepth 100000 in
theorem refWithin_is (a b : Nat → Int) (w : World) : Calls Try.prog 21 #[.agg (vf a), .agg (vf b)] w (RetBool w (vle a b)) := by
  go_enter Try.func21, Try.ntmps21
  go_wp2_with (refine wpList_vbox vecI rfl _ rfl a rfl ?_)
  intro ga w1 la ra hb1
  have B1 := Lib.hid hb1; have RA1 := Lib.hid ra
  clear hb1 ra
  go_wp2_with (refine wpList_vbox vecI rfl _ rfl b rfl ?_)
  intro gb w2 lb rb hb2
  have B2 := Lib.hid (thenBelow B1.out hb2); have RA2 := Lib.hid (RA1.out.later hb2); have RB2 := Lib.hid rb
  clear hb2 rb
  go_wp2_with (refine wpList_vload vecI rfl _ rfl ga rfl _ a RA2.out ?_)
  go_wp2
  go_loop [8] (fun i => ∃ k : Nat, k ≤ 64 ∧ i = .int .i64 k ∧ ∀ i, i < k → a i ≤ b i) (fun i => 64 - (intOf i).toNat)
  case atStart => exact ⟨0, by omega, rfl, fun i h => by omega⟩
  case round =>
    obtain ⟨k, hk, rfl, hle⟩ := hrel
    have LE := Lib.hid hle
    clear hle
    by_cases hlt : k < 64
    · have hi := vecI.index a .i64 k k rfl hlt
      have hc := RB2.out.cell k hlt
      have hkI : (k : Int) < 64 := by omega
      by_cases hgt : a k > b k
      · have NO := Lib.hid (vle_no k hlt hgt)
        generalize a k = y at hi hgt
        generalize b k = x at hc hgt
        go_wp2
        go_ret
        exact ⟨by rw [NO.out]; rfl, B2.out⟩
      · have hS : Hid (∀ i, i < k + 1 → a i ≤ b i) := by
          intro i h
          by_cases e : i = k
          · subst e; omega
          · exact LE.out i (by omega)
        generalize a k = y at hi hgt
        generalize b k = x at hc hgt
        go_wp2
        go_round
        case rel => exact ⟨k + 1, by omega, by go_num, hS.out⟩
        case measure => simp [intOf]; omega
    · obtain rfl : k = 64 := by omega
      have YES := Lib.hid ((vle_iff a b).2 LE.out)
      go_wp2
      go_ret
      exact ⟨by rw [YES.out]; rfl, B2.out⟩

set_option maxHeartbeats 1000000 in
set_option maxRecDepth 100000 in
theorem ownWithin_is (a b : Nat → Int) (w : World) : Calls Try.prog 16 #[.agg (vf a), .agg (vf b)] w (RetBool w (vle a b)) := by
  have HE := vecI.eql (fun i => max (a i) (b i)) b
  rw [vle_eq] at HE
  generalize vle a b = r at HE
  go_enter Try.func16, Try.ntmps16
  go_wp2_with (refine wpList_vbox vecI rfl _ rfl a rfl ?_)
  intro ga w1 la ra hb1
  have B1 := Lib.hid hb1; have RA1 := Lib.hid ra
  clear hb1 ra
  go_wp2_with (refine wpList_vbox vecI rfl _ rfl b rfl ?_)
  intro gb w2 lb rb hb2
  have B2 := Lib.hid (thenBelow B1.out hb2); have RA2 := Lib.hid (RA1.out.later hb2); have RB2 := Lib.hid rb
  clear hb2 rb
  have BL := Lib.hid (ownJoin_is a b)
  have cJ := quiet_call (w := w2) (ownJoin_is a b)
  go_wp2
  refine wp_region_quiet_below (by kernel_rfl) (by kernel_rfl) ?_
  refine wpQuiet_vload vecI rfl _ rfl ga rfl _ a (fun _ h => RA2.out.quiet h) ?_
  refine wpQuiet_vload vecI rfl _ rfl gb rfl _ b (fun _ h => RB2.out.quiet h) ?_
  quiet_step (exact cJ _ _)
  refine wpQuiet_vload vecI rfl _ rfl gb rfl _ b (fun _ h => RB2.out.quiet h) ?_
  repeat (quiet_step (fail))
  refine wpQuiet_nil ?_
  intro _ hw'
  obtain ⟨⟨dq, osq⟩, hw''⟩ := hw'
  subst hw''
  go_wp2
  go_ret
  exact ⟨rfl, B2.out.trans ((below_regrown w2 dq osq).mono B2.out.size)⟩
end Go.Proofs.Ytimfcedkmdbnfaa
