/- A reader that Read made, as far as what it is asked is there: each of its methods. -/
import Derived.Test.YtffjbgbcaijlnaaDoorCoderRef2
import Derived.Lib.BitFns
import Derived.BigQuiet
import Derived.Deep.QuietTactic
namespace Go.Proofs.YtffjbgbcaijlnaaDoor
open Go Go.RowKit

theorem tab8 : ∀ n : Fin 256, (Lib.len8tab.data.toList.getD n.val 0).toNat = Lib.bitLen n.val := by decide +kernel
theorem size8 : Lib.len8tab.size = 256 := by decide +kernel
theorem tab8_get (x : Nat) (h : x < Lib.len8tab.size) : (Lib.len8tab[x]'h).toNat = Lib.bitLen x := by
  have h2 : x < 256 := by rw [← size8]; exact h
  rw [← tab8 ⟨x, h2⟩]
  congr 1
  have h3 : x < Lib.len8tab.data.toList.length := by rw [Array.length_toList]; exact h
  show Lib.len8tab.data[x] = _
  simp only [List.getD, List.getElem?_eq_getElem h3, Option.getD_some, Array.getElem_toList]
theorem bitLen_le (x : Nat) (h : x ≤ 255) : Lib.bitLen x ≤ 8 := Lib.bitLen_le8 ⟨x, by omega⟩

set_option maxHeartbeats 4000000 in
set_option maxRecDepth 100000 in
theorem len8_any (x : Nat) (w : World) (h : x ≤ 255) : Calls Tryd.prog 101 #[.int .u8 x] w fun e w' => e = .returned (.int .i64 (Lib.bitLen x : Nat)) ∧ w = w' := by
  have hs : x < Lib.len8tab.size := by rw [size8]; omega
  have hl := bitLen_le x h
  have hg := tab8_get x hs
  have HG := Lib.hid hg; clear hg
  go_enter Tryd.func101, Tryd.ntmps101
  go_wp2
  go_ret
  exact ⟨ret_int (by rw [HG.out, IntWalk.wrap64_in _ ⟨by omega, by omega⟩]), rfl⟩

theorem lz8_any (x : Nat) (w : World) (h : x ≤ 255) : Calls Tryd.prog 92 #[.int .u8 x] w fun e w' => e = .returned (.int .i64 ((8 - Lib.bitLen x : Nat) : Int)) ∧ w = w' := by
  have hl := bitLen_le x h
  have h8 := len8_any x w h
  go_enter Tryd.func92, Tryd.ntmps92
  go_wp2_with (go_at_call 101; refine h8.mono ?_; rintro e w' ⟨rfl, rfl⟩)
  go_ret
  exact ⟨ret_int (by omega), rfl⟩

/-! ### the plain part of reading a number -/
theorem ones_of : ∀ n : Fin 256, ∀ k : Fin 9, (256 - 2 ^ (8 - k.val) ≤ n.val ∧ (k.val < 8 → n.val < 256 - 2 ^ (7 - k.val))) → 8 - Lib.bitLen (255 - n.val) = k.val := by decide +kernel
theorem head_ones (x : Nat) (hx : x < 18446744073709551616) : 8 - Lib.bitLen (255 - Cod.head x (Cod.bh x)) = Cod.bh x := by
  have h1 := Cod.head_lt x hx
  have h8 := Cod.bh_le x
  refine ones_of ⟨_, h1⟩ ⟨Cod.bh x, by omega⟩ ⟨?_, fun h7 => ?_⟩
  · show 256 - 2 ^ (8 - Cod.bh x) ≤ Cod.head x (Cod.bh x)
    unfold Cod.head; exact Nat.le_add_right _ _
  · simp only at h7 ⊢
    have ht := Cod.top_lt x hx _ rfl
    have hp := Cod.pow_parts (Cod.bh x) h8
    have hp3 := hp.2.2 (by omega)
    unfold Cod.head
    generalize x / 256 ^ Cod.bh x = t at ht ⊢
    omega
theorem mask_head : ∀ n : Fin 256, ∀ k : Fin 8, n.val &&& (127 / 2 ^ k.val) = n.val % 2 ^ (7 - k.val) := by decide +kernel
theorem top_of (x : Nat) (hx : x < 18446744073709551616) : Cod.head x (Cod.bh x) &&& (127 / 2 ^ Cod.bh x) = x / 256 ^ Cod.bh x := by
  have h1 := Cod.head_lt x hx
  have h8 := Cod.bh_le x
  have ht := Cod.top_lt x hx _ rfl
  have hp := Cod.pow_parts (Cod.bh x) h8
  by_cases h7 : Cod.bh x ≤ 7
  · have hm := mask_head ⟨_, h1⟩ ⟨Cod.bh x, by omega⟩
    simp only at hm
    rw [hm]
    have ht2 : x / 256 ^ Cod.bh x < 2 ^ (7 - Cod.bh x) := by
      rcases ht with ht | ⟨h9, _⟩
      · exact ht
      · omega
    have hp3 := hp.2.2 h7
    unfold Cod.head
    rw [hp3]
    have hq : 2 ^ (7 - Cod.bh x) * 2 ^ (1 + Cod.bh x) = 256 := by rw [← Nat.pow_add, show 7 - Cod.bh x + (1 + Cod.bh x) = 8 from by omega]
    have hd : 256 - 2 * 2 ^ (7 - Cod.bh x) = 2 ^ (7 - Cod.bh x) * (2 ^ (1 + Cod.bh x) - 2) := by rw [Nat.mul_sub, hq, Nat.mul_comm 2]
    rw [hd, Nat.mul_add_mod]
    exact Nat.mod_eq_of_lt ht2
  · have e : Cod.bh x = 8 := by omega
    have h0 : x / 256 ^ Cod.bh x = 0 := by rw [e]; exact Nat.div_eq_of_lt hx
    rw [h0, e]
    simp
end Go.Proofs.YtffjbgbcaijlnaaDoor
