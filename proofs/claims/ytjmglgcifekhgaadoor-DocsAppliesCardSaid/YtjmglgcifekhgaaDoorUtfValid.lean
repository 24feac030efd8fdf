/- The contract of utf's Valid; the example that each law of layer 3 ends with. -/
import Derived.Test.YtjmglgcifekhgaaDoorUtfSigns
namespace Go.Proofs.YtjmglgcifekhgaaDoor
open Go Go.RowKit

namespace Utf
theorem nx_step (s : ByteArray) (p : Nat) (h : p < s.size) : 1 ≤ (nx s p).2 ∧ (nx s p).2 ≤ 4 ∧ p + (nx s p).2 ≤ s.size := by
  unfold nx
  split
  · rename_i h1
    have h2 := h1.1
    have := led_le (gt s p)
    simp only
    omega
  · simp only
    omega
theorem nx_small (s : ByteArray) (p : Nat) : -1 ≤ (nx s p).1 ∧ (nx s p).1 ≤ 1114111 := by
  unfold nx
  split
  · rename_i h1
    have h2 := h1.2.2.1
    unfold sg at h2
    simp only [decide_eq_true_eq] at h2
    simp only
    omega
  · simp only
    omega
def vd (s : ByteArray) : Nat → Nat → Bool
  | 0, _ => true
  | f + 1, p => if p < s.size then (if (nx s p).1 < 0 then false else vd s f (p + (nx s p).2)) else true
def valid (s : ByteArray) : Bool := vd s s.size 0
theorem vd_end (s : ByteArray) (f p : Nat) (h : s.size ≤ p) : vd s f p = true := by
  cases f with
  | zero => rfl
  | succ f => rw [vd, if_neg (by omega)]
theorem vd_no (s : ByteArray) (f p : Nat) (h : p < s.size) (hf : s.size ≤ p + f) (hn : (nx s p).1 < 0) : vd s f p = false := by
  cases f with
  | zero => omega
  | succ f => rw [vd, if_pos h, if_pos hn]
theorem vd_step (s : ByteArray) (f p : Nat) (h : p < s.size) (hf : s.size ≤ p + f) (hn : ¬ (nx s p).1 < 0) : vd s f p = vd s (f - 1) (p + (nx s p).2) := by
  cases f with
  | zero => omega
  | succ f => rw [vd, if_pos h, if_neg hn]; rfl
end Utf

set_option maxHeartbeats 1000000 in
theorem utfValid_is (s : ByteArray) (w : World) (hs : s.size ≤ 140737488351232) (hT : Shapes w) :
    Calls Tryd.prog 80 #[.string s] w fun e w' => e = .returned (.bool (Utf.valid s)) ∧ w = w' := by
  obtain ⟨b, hb⟩ : ∃ b, b = Utf.valid s := ⟨_, rfl⟩
  rw [← hb]
  have HB : Hid (b = Utf.vd s s.size 0) := hb
  have HT := Lib.hid hT
  clear hb hT
  go_enter Tryd.func80, Tryd.ntmps80
  go_wp2
  go_loop [3] (fun i => ∃ p f : Nat, p ≤ s.size ∧ s.size ≤ p + f ∧ i = .int .i64 p ∧ b = Utf.vd s f p) (fun i => s.size - (intOf i).toNat)
  case atStart => exact ⟨0, s.size, Nat.zero_le _, by omega, rfl, HB.out⟩
  case round =>
    obtain ⟨p, f, hp, hf, rfl, hbv⟩ := hrel
    have BV := Lib.hid hbv
    clear hbv
    by_cases hps : p < s.size
    · have hn := next_in s p w hps hs HT.out
      have hst := Utf.nx_step s p hps
      have hv := fun h => Utf.vd_no s f p hps hf h
      have hv2 := fun h => Utf.vd_step s f p hps hf h
      have HV := Lib.hid hv; have HV2 := Lib.hid hv2
      clear hv hv2
      generalize (Utf.nx s p).1 = x at hn HV HV2
      generalize (Utf.nx s p).2 = n at hn hst HV2
      obtain ⟨n1, n2, n3⟩ := hst
      have hp' : (p : Int) < s.size := by omega
      by_cases hx : x < 0
      · have HE := Lib.hid (HV.out hx)
        go_wp2_with fail
        refine hn.mono ?_
        rintro e w' ⟨rfl, rfl⟩
        clear hn
        go_wp2
        go_ret
        exact ⟨ret_bool (by rw [BV.out, HE.out]), rfl⟩
      · have HE := Lib.hid (HV2.out hx)
        go_wp2_with fail
        refine hn.mono ?_
        rintro e w' ⟨rfl, rfl⟩
        clear hn
        go_wp2
        go_round
        case rel => exact ⟨p + n, f - 1, by omega, by omega, by go_num, by rw [BV.out, HE.out]⟩
        case measure => simp [intOf]; omega
    · have HE := Lib.hid (Utf.vd_end s f p (by omega))
      have hp' : ¬ (p : Int) < s.size := by omega
      go_wp2
      go_ret
      exact ⟨ret_bool (by rw [BV.out, HE.out]), rfl⟩

theorem utfEx1 : Utf.nx ⟨#[195, 169]⟩ 0 = (233, 2) := by decide +kernel
theorem utfEx2 : Utf.valid ⟨#[97, 195, 169]⟩ = true := by decide +kernel
theorem utfEx3 : Utf.valid ⟨#[255]⟩ = false := by decide +kernel

end Go.Proofs.YtjmglgcifekhgaaDoor
