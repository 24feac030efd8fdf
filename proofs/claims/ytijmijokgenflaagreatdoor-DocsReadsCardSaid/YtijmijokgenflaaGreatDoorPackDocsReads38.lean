/- The statement DocsReads, proved for every input that its row reads: part 38 of 54. -/
import Derived.Test.YtijmijokgenflaaGreatDoorPackDocsReads17
import Derived.Lib.Strings
import Derived.Lib.Walk
import Derived.Lib.BufferWrite
import Derived.Lib.UnsafeStr
import Derived.Laws.MakeOwn
/- The contracts of strings.Clone, strings.HasPrefix and utf's Cut. -/
namespace Go.Proofs.YtijmijokgenflaaGreatDoor
open Go Go.RowKit

namespace Utf
/-- stepping from q one comes to p -/
def rc (s : ByteArray) (p : Nat) : Nat → Nat → Prop
  | 0, q => q = p
  | f + 1, q => q = p ∨ (q < s.size ∧ rc s p f (q + (nx s q).2))
theorem rc_le {s : ByteArray} {p : Nat} : ∀ (f q : Nat), rc s p f q → q ≤ p
  | 0, q, h => by simp only [rc] at h; omega
  | f + 1, q, h => by
    simp only [rc] at h
    rcases h with h | ⟨_, h⟩
    · omega
    · have := rc_le f _ h; omega
theorem rc_ext {s : ByteArray} {p : Nat} (hp : p < s.size) : ∀ (f q : Nat), rc s p f q → rc s (p + (nx s p).2) (f + 1) q
  | 0, q, h => by
    simp only [rc] at h
    subst h
    exact .inr ⟨hp, rfl⟩
  | f + 1, q, h => by
    have h' := h
    simp only [rc] at h
    rcases h with h | ⟨h1, h2⟩
    · subst h
      exact .inr ⟨hp, .inl rfl⟩
    · exact .inr ⟨h1, rc_ext hp f _ h2⟩
theorem pre_size (s : ByteArray) (p : Nat) (hp : p ≤ s.size) : (s.extract 0 p).size = p := by rw [ByteArray.size_extract]; omega
theorem gt_pre (s : ByteArray) (p i : Nat) (hp : p ≤ s.size) (hi : i < p) : gt (s.extract 0 p) i = gt s i := by
  rw [← gt_at (s.extract 0 p) i (by rw [pre_size s p hp]; exact hi), ← gt_at s i (by omega)]
  rw [ByteArray.getElem_extract]
  simp
theorem acc_pre (s : ByteArray) (p q : Nat) (hp : p ≤ s.size) : ∀ j, q + j < p → acc (s.extract 0 p) q j = acc s q j
  | 0, h => by simp only [acc]; rw [gt_pre s p q hp (by omega)]
  | j + 1, h => by simp only [acc]; rw [acc_pre s p q hp j (by omega), gt_pre s p (q + 1 + j) hp (by omega)]
theorem ok_of (s : ByteArray) (q : Nat) (h : ¬ (nx s q).1 < 0) : ok s q := by
  refine Classical.byContradiction fun hn => h ?_
  rw [nx_no hn]; decide
theorem nx_pre (s : ByteArray) (p q : Nat) (hp : p ≤ s.size) (h : ok s q) (hq : q + (nx s q).2 ≤ p) : nx (s.extract 0 p) q = nx s q := by
  have h2 : (nx s q).2 = led (gt s q) + 1 := by rw [nx_yes h]
  rw [h2] at hq
  have hg := gt_pre s p q hp (by omega)
  have ha := acc_pre s p q hp (led (gt s q)) (by omega)
  have hk : ok (s.extract 0 p) q := by
    unfold ok
    rw [hg, ha, pre_size s p hp]
    refine ⟨by omega, fun j hj => ?_, h.2.2⟩
    have := h.2.1 j hj
    unfold cont at this ⊢
    rw [gt_pre s p (q + 1 + j) hp (by omega)]
    exact this
  rw [nx_yes hk, nx_yes h, hg, ha]
theorem vd_pre (s : ByteArray) (p : Nat) (hp : p ≤ s.size) : ∀ (f q g g' : Nat), rc s p f q → vd s g q = true → s.size ≤ q + g → vd (s.extract 0 p) g' q = true
  | 0, q, g, g', h, _, _ => by
    simp only [rc] at h
    exact vd_end _ _ _ (by rw [pre_size s p hp]; omega)
  | f + 1, q, g, g', h, hv, hg => by
    simp only [rc] at h
    rcases h with h | ⟨h1, h2⟩
    · exact vd_end _ _ _ (by rw [pre_size s p hp]; omega)
    · have hle := rc_le f _ h2
      have hn : ¬ (nx s q).1 < 0 := fun hn => by rw [vd_no s g q h1 hg hn] at hv; cases hv
      have hok := ok_of s q hn
      have hst := nx_step s q h1
      rw [vd_step s g q h1 hg hn] at hv
      have ih := fun g' => vd_pre s p hp f (q + (nx s q).2) (g - 1) g' h2 hv (by omega)
      cases g' with
      | zero => rfl
      | succ g' =>
        rw [vd, nx_pre s p q hp hok hle, if_neg hn, ih g']
        split <;> rfl
theorem valid_pre (s : ByteArray) (p f : Nat) (hp : p ≤ s.size) (h : rc s p f 0) (hv : valid s = true) : valid (s.extract 0 p) = true :=
  vd_pre s p hp f 0 s.size _ h hv (by omega)
/-- where Cut cuts -/
def Cuts (s : ByteArray) (n : Int) (p : Nat) : Prop := p ≤ s.size ∧ (p = 0 ∨ (p : Int) ≤ n) ∧ (∃ f, rc s p f 0) ∧ (p = s.size ∨ n < p + 4)
end Utf

def CutTo (s : ByteArray) (n : Int) (w : World) (e : Ending) (w' : World) : Prop := ∃ p, e = .returned (.string (s.extract 0 p)) ∧ Utf.Cuts s n p ∧ Below w.heap.size w w'

end Go.Proofs.YtijmijokgenflaaGreatDoor
