/- A past that came in, and whether its list is nil. -/
import Derived.Test.YtimfcedkmdbnfaaPastOpen
namespace Go.Proofs.Ytimfcedkmdbnfaa
open Go Go.RowKit
set_option linter.unusedVariables false

theorem open_pastN {H : Type} {enc : TypeId × Value → H} {W : World} {base : Nat} {v : Value} {d : DataW H} {ps : List MemPlace} (hv : Value.okWide Try.prog W .any base 26 v)
    (h : DataW.Trod enc Try.prog W 0 (fun _ => true) true 26 v d ps) : ∃ (F : Nat → Int) (p : Option Addr) (c : Nat) (L : List EvP), v = .agg (pcs (.slice p L.length c) F) ∧ EvsAt W p L ∧ (∀ a, p = some a → ∃ b o, a = ⟨b, o, none⟩) ∧ (L.length ≤ c ∧ (p = none → c = 0)) := by
  obtain ⟨fuel, hf⟩ := h
  obtain ⟨F, p, n, c, E, hcs, _, hC⟩ := trod_past Try.underlying26 vecI (by kernel_rfl) (by kernel_rfl) Try.underlying22 (by kernel_rfl) (by kernel_rfl) (by kernel_rfl) ⟨rfl, rfl⟩ ⟨rfl, rfl⟩
    (fun n cs x h => trod_event Try.underlying35 Try.underlying32 Try.underlying3 Try.underlying9 Try.underlying33 (by kernel_rfl) (by kernel_rfl) (by kernel_rfl) (by kernel_rfl) (by kernel_rfl) ⟨rfl, rfl⟩ ⟨rfl, rfl⟩ ⟨rfl, rfl⟩ ⟨rfl, rfl⟩ ⟨rfl, rfl⟩ ⟨rfl, rfl⟩ ⟨rfl, rfl⟩ ⟨rfl, rfl⟩ ⟨rfl, rfl⟩ h) hf
  simp only [Value.okWide, Try.underlying26] at hv
  obtain ⟨xs, rfl, hxs, ts, hts, _, hrow⟩ := hv
  simp only [Value.cells] at hcs
  have hx : xs = pcs (.slice p n c) F := by
    apply Array.toList_inj.1
    rw [hcs, pcs]
  subst hx
  obtain ⟨L, hl, hD⟩ := evs_lie hC
  have hT := typesP
  rw [hts] at hT
  simp only [Option.map_some, Option.some.injEq, Prod.mk.injEq] at hT
  obtain ⟨u, hu, hok⟩ := hrow 0 (.slice p n c) (pcs_zero _ _)
  rw [hT.1, show 0 % 65 = 0 from rfl, hT.2] at hu
  obtain rfl := Option.some.inj hu
  refine ⟨F, p, c, L, by rw [hl], hD, fun a e => ?_, by rw [hl]; exact hC.le, fun e => (hC.nil e).2⟩
  subst e
  simp only [Cell.okWide, Try.underlying22, Cell.ok, World.has] at hok
  obtain ⟨b, o, spot⟩ := a
  obtain rfl : spot = none := hok.2.2.2.1
  exact ⟨b, o, rfl⟩
end Go.Proofs.Ytimfcedkmdbnfaa
