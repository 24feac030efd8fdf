/- slices.Clone of dots. -/
import Derived.Test.YtimfcedkmdbnfaaDotMem
import Derived.Shelf.SlicesE.Clone
import Derived.Test.YtimfcedkmdbnfaaProg
namespace Go.Proofs
open Go.Shelf
def Try.laysCloneD_ren : Go.Shelf.Ren := ⟨fun | 41 => 33 | n => n, fun | 22 => 33 | 23 => 32 | 4 => 4 | n => n, fun | n => n⟩
theorem Try.laysCloneD : Go.Proofs.SlLaysE0.n41 Try.prog Try.laysCloneD_ren := {
  mixed := by kernel_rfl
  f41 := ⟨Try.f33.name, by decide, Try.func33.trans (congrArg some (by kernel_rfl))⟩
  t4 := Try.underlying4
  a4 := Try.isAgg4
  z4 := Try.sizeOf4
  v4 := Try.zeroValue4
  t22 := Try.underlying33
  a22 := Try.isAgg33
  z22 := Try.sizeOf33
  v22 := Try.zeroValue33 }
end Go.Proofs
namespace Go.Proofs.Ytimfcedkmdbnfaa
open Go Go.RowKit
set_option linter.unusedVariables false
/-- slices.Clone -/
theorem cloneD_is (p : Option Addr) (c : Nat) (l : List Dt) (w : World) (h : DRow w p l) (hp : p = none → l = []) (ho : ∀ a, p = some a → ∃ b o, a = ⟨b, o, none⟩) (hbig : l.length ≤ 10000) :
    Calls Try.prog 33 #[.slice p l.length c] w fun e w' => ∃ v, e = .returned v ∧ w'.ownsRow w.heap.size 32 2 v l.length (dcl l) ∧ Below w.heap.size w w' := by
  cases p with
  | none =>
    obtain rfl := hp rfl
    exact (AnyE.slices_Clone_nil Try.laysCloneD 0 c w).mono fun e w' ⟨h1, h2⟩ => ⟨_, h1, h2 ▸ ⟨rfl, .inl ⟨rfl, rfl⟩⟩, h2 ▸ Below.refl _ _⟩
  | some a =>
    obtain ⟨b, o, rfl⟩ := ho a rfl
    obtain ⟨i0, hi, hz0, hz1, hz2⟩ := info_parts infoDt
    refine (AnyE.slices_Clone Try.laysCloneD i0 _ 2 16 hi hz0 hz1 hz2 rfl (by decide) Try.sizeOf32 b o l.length c (dcl l) w (dcl_length l) (by unfold maxLen; omega) (by omega) ?_ (dcl_one l)).mono fun e w' ⟨v, h1, h2, h3, h4⟩ => ⟨v, h1, h2, h4⟩
    intro j u hu
    by_cases hn : l = []
    · subst hn; simp [dcl] at hu
    · obtain ⟨b', o', e, hr⟩ := h hn
      cases e
      exact hr j u hu

end Go.Proofs.Ytimfcedkmdbnfaa
