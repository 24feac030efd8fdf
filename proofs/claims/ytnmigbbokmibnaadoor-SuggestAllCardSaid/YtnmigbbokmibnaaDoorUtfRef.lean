/- The contracts of the document's own Sign, Bytes, Put (layer 3). -/
import Derived.Test.YtnmigbbokmibnaaDoorUtfPut
namespace Go.Proofs.YtnmigbbokmibnaaDoor
open Go Go.RowKit

set_option maxHeartbeats 1000000 in
theorem refSign_is (r : Int) (w : World) : Calls Tryd.prog 78 #[.int .i64 r] w fun e w' => e = .returned (.bool (Utf.sg r)) ∧ w = w' := by
  obtain ⟨b, hb⟩ : ∃ b, b = Utf.sg r := ⟨_, rfl⟩
  rw [← hb]
  have key : (r < 0 ∧ b = false) ∨ ((0 ≤ r ∧ r < 55296) ∧ b = true) ∨ ((55296 ≤ r ∧ r ≤ 57343) ∧ b = false) ∨ ((57343 < r ∧ r ≤ 1114111) ∧ b = true) ∨ (1114111 < r ∧ b = false) := by
    rw [hb]; unfold Utf.sg
    simp only [decide_eq_true_eq, decide_eq_false_iff_not]
    omega
  clear hb
  rcases key with ⟨h1, rfl⟩ | ⟨⟨h1, h2⟩, rfl⟩ | ⟨⟨h1, h2⟩, rfl⟩ | ⟨⟨h1, h2⟩, rfl⟩ | ⟨h1, rfl⟩
  all_goals
    go_enter Tryd.func78, Tryd.ntmps78
    go_wp2
    go_ret
    exact ⟨ret_bool (by first | rfl | (simp; done) | (simp; omega)), rfl⟩

namespace Utf
def EncIs (r : Int) (L : List UInt8) : Prop := enc r = L
theorem enc_one (m : Nat) (h : sg (m : Int) = true) (h1 : m ≤ 127) : enc (m : Int) = [UInt8.ofNat m] := by
  unfold enc
  rw [h]
  have e : sh (m : Int) = 0 := by unfold sh; rw [if_pos (by omega)]
  simp [e, encK, lead]
theorem enc_two (m : Nat) (h : sg (m : Int) = true) (h1 : ¬ m ≤ 127) (h2 : m ≤ 2047) : enc (m : Int) = [UInt8.ofNat (192 + m / 64), UInt8.ofNat (128 + m % 64)] := by
  unfold enc
  rw [h]
  have e : sh (m : Int) = 1 := by unfold sh; rw [if_neg (by omega), if_pos (by omega)]
  simp [e, encK, lead, tailB, List.range_succ]
theorem enc_three (m : Nat) (h : sg (m : Int) = true) (h1 : ¬ m ≤ 2047) (h2 : m ≤ 65535) : enc (m : Int) = [UInt8.ofNat (224 + m / 4096), UInt8.ofNat (128 + m / 64 % 64), UInt8.ofNat (128 + m % 64)] := by
  unfold enc
  rw [h]
  have e : sh (m : Int) = 2 := by unfold sh; rw [if_neg (by omega), if_neg (by omega), if_pos (by omega)]
  simp [e, encK, lead, tailB, List.range_succ]
theorem enc_four (m : Nat) (h : sg (m : Int) = true) (h1 : ¬ m ≤ 65535) : enc (m : Int) = [UInt8.ofNat (240 + m / 262144), UInt8.ofNat (128 + m / 4096 % 64), UInt8.ofNat (128 + m / 64 % 64), UInt8.ofNat (128 + m % 64)] := by
  unfold enc
  rw [h]
  have e : sh (m : Int) = 3 := by unfold sh; rw [if_neg (by omega), if_neg (by omega), if_neg (by omega)]
  simp [e, encK, lead, tailB, List.range_succ]
end Utf

theorem byte_nat (n : Nat) (h : n < 256) : ((UInt8.ofNat n).toNat : Int) = (n : Int) := by
  rw [UInt8.toNat_ofNat', Nat.mod_eq_of_lt h]
theorem retOwn_lit {w : World} {L : List UInt8} {cs : Array Value} (hcs : cs.toList = bys L) (hn : 0 < L.length) {e : Ending} (he : e = .returned (.slice (some ⟨w.heap.size, 0, none⟩) L.length L.length)) (hlen : L.length ≤ 1000) :
    RetOwn w 5 L e (w.alloc (.cells cs 5)) := by
  have h := World.ownsRow_lit (base := w.heap.size) (e := 5) (size := 1) w cs L.length (Nat.le_refl _) (by unfold maxLen; omega) (by rw [← Array.length_toList, hcs, bys_length, Nat.mul_one])
  rw [hcs] at h
  exact ⟨_, he, h, (Below.refl _ _).alloc (Nat.le_refl _) _⟩

set_option maxHeartbeats 2000000 in
set_option maxRecDepth 10000000 in
theorem refBytes3 (r : Int) (w : World) : Calls Tryd.prog 70 #[.int .i64 r] w (RetOwn w 5 (Utf.enc r)) := by
  have hs := refSign_is r w
  cases hsv : Utf.sg r with
  | false =>
    have hE : Hid (Utf.enc r = []) := by unfold Utf.enc; rw [hsv]; rfl
    rw [hsv] at hs
    clear hsv
    go_enter Tryd.func70, Tryd.ntmps70
    go_wp2_with fail
    refine hs.mono ?_
    rintro e w' ⟨rfl, rfl⟩
    go_wp2_with fail
    go_ret
    rw [hE.out]
    exact ⟨_, rfl, World.ownsRow_nil _ _ _ _, Below.refl _ _⟩
  | true =>
    rw [hsv] at hs
    have hr : 0 ≤ r ∧ r ≤ 1114111 := by unfold Utf.sg at hsv; simp only [decide_eq_true_eq] at hsv; omega
    obtain ⟨hr1, hr2⟩ := hr
    obtain ⟨m, rfl⟩ := Int.eq_ofNat_of_zero_le hr1
    by_cases h1 : m ≤ 127
    · have HS := Lib.hid hsv
      clear hsv
      go_enter Tryd.func70, Tryd.ntmps70
      go_wp2_with fail
      refine hs.mono ?_
      rintro e w' ⟨rfl, rfl⟩
      go_wp2_with fail
      go_ret
      rw [Utf.enc_one m HS.out (by omega)]
      exact retOwn_lit (by simp [bys]; omega) (by simp) rfl (by simp)
    · by_cases h2 : m ≤ 2047
      · have HS := Lib.hid hsv
        clear hsv
        go_enter Tryd.func70, Tryd.ntmps70
        go_wp2_with fail
        refine hs.mono ?_
        rintro e w' ⟨rfl, rfl⟩
        go_wp2_with fail
        go_ret
        rw [Utf.enc_two m HS.out (by omega) (by omega)]
        exact retOwn_lit (by simp [bys]; omega) (by simp) rfl (by simp)
      · by_cases h3 : m ≤ 65535
        · have HS := Lib.hid hsv
          clear hsv
          go_enter Tryd.func70, Tryd.ntmps70
          go_wp2_with fail
          refine hs.mono ?_
          rintro e w' ⟨rfl, rfl⟩
          go_wp2_with fail
          go_ret
          rw [Utf.enc_three m HS.out (by omega) (by omega)]
          exact retOwn_lit (by simp [bys]; omega) (by simp) rfl (by simp)
        · have HS := Lib.hid hsv
          clear hsv
          go_enter Tryd.func70, Tryd.ntmps70
          go_wp2_with fail
          refine hs.mono ?_
          rintro e w' ⟨rfl, rfl⟩
          go_wp2_with fail
          go_ret
          rw [Utf.enc_four m HS.out (by omega)]
          exact retOwn_lit (by simp [bys]; omega) (by simp) rfl (by simp)

end Go.Proofs.YtnmigbbokmibnaaDoor
