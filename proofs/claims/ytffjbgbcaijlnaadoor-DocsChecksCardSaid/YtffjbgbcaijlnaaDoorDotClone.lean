/- slices.Clone of dots. -/
import Derived.Test.YtffjbgbcaijlnaaDoorDotMem
import Derived.Shelf.SlicesE.Clone
import Derived.Test.YtffjbgbcaijlnaaDoorProg
namespace Go.Proofs
open Go.Shelf
def Tryd.laysCloneD_ren : Go.Shelf.Ren := ⟨fun | 41 => 100 | n => n, fun | 22 => 24 | 23 => 23 | 4 => 4 | n => n, fun | n => n⟩
theorem Tryd.laysCloneD : Go.Proofs.SlLaysE0.n41 Tryd.prog Tryd.laysCloneD_ren := {
  mixed := by kernel_rfl
  f41 := ⟨Tryd.f100.name, by decide, Tryd.func100.trans (congrArg some (by kernel_rfl))⟩
  t4 := Tryd.underlying4
  a4 := Tryd.isAgg4
  z4 := Tryd.sizeOf4
  v4 := Tryd.zeroValue4
  t22 := Tryd.underlying24
  a22 := Tryd.isAgg24
  z22 := Tryd.sizeOf24
  v22 := Tryd.zeroValue24 }
end Go.Proofs
namespace Go.Proofs.YtffjbgbcaijlnaaDoor
open Go Go.RowKit
set_option linter.unusedVariables false
/-- slices.Clone -/
theorem cloneD_is (p : Option Addr) (c : Nat) (l : List Dt) (w : World) (h : DRow w p l) (hp : p = none → l = []) (ho : ∀ a, p = some a → ∃ b o, a = ⟨b, o, none⟩) (hbig : l.length ≤ 10000) :
    Calls Tryd.prog 100 #[.slice p l.length c] w fun e w' => ∃ v, e = .returned v ∧ w'.ownsRow w.heap.size 23 2 v l.length (dcl l) ∧ Below w.heap.size w w' := by
  cases p with
  | none =>
    obtain rfl := hp rfl
    exact (AnyE.slices_Clone_nil Tryd.laysCloneD 0 c w).mono fun e w' ⟨h1, h2⟩ => ⟨_, h1, h2 ▸ ⟨rfl, .inl ⟨rfl, rfl⟩⟩, h2 ▸ Below.refl _ _⟩
  | some a =>
    obtain ⟨b, o, rfl⟩ := ho a rfl
    obtain ⟨i0, hi, hz0, hz1, hz2⟩ := info_parts infoDt
    refine (AnyE.slices_Clone Tryd.laysCloneD i0 _ 2 16 hi hz0 hz1 hz2 rfl (by decide) Tryd.sizeOf23 b o l.length c (dcl l) w (dcl_length l) (by unfold maxLen; omega) (by omega) ?_ (dcl_one l)).mono fun e w' ⟨v, h1, h2, h3, h4⟩ => ⟨v, h1, h2, h4⟩
    intro j u hu
    by_cases hn : l = []
    · subst hn; simp [dcl] at hu
    · obtain ⟨b', o', e, hr⟩ := h hn
      cases e
      exact hr j u hu

end Go.Proofs.YtffjbgbcaijlnaaDoor
