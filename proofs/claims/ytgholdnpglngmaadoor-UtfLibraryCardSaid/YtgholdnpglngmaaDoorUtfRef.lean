/- The contracts of the document's own Sign, Bytes, Put (layer 3). -/
import Derived.Test.YtgholdnpglngmaaDoorUtfPut
namespace Go.Proofs.YtgholdnpglngmaaDoor
open Go Go.RowKit

namespace Utf
def EncIs (r : Int) (L : List UInt8) : Prop := enc r = L
theorem enc_one (m : Nat) (h : sg (m : Int) = true) (h1 : m ≤ 127) : enc (m : Int) = [UInt8.ofNat m] := by
  unfold enc
  rw [h]
  have e : sh (m : Int) = 0 := by unfold sh; rw [if_pos (by omega)]
  simp [e, encK, lead]
theorem enc_two (m : Nat) (h : sg (m : Int) = true) (h1 : ¬ m ≤ 127) (h2 : m ≤ 2047) : enc (m : Int) = [UInt8.ofNat (192 + m / 64), UInt8.ofNat (128 + m % 64)] := by
  unfold enc
  rw [h]
  have e : sh (m : Int) = 1 := by unfold sh; rw [if_neg (by omega), if_pos (by omega)]
  simp [e, encK, lead, tailB, List.range_succ]
theorem enc_three (m : Nat) (h : sg (m : Int) = true) (h1 : ¬ m ≤ 2047) (h2 : m ≤ 65535) : enc (m : Int) = [UInt8.ofNat (224 + m / 4096), UInt8.ofNat (128 + m / 64 % 64), UInt8.ofNat (128 + m % 64)] := by
  unfold enc
  rw [h]
  have e : sh (m : Int) = 2 := by unfold sh; rw [if_neg (by omega), if_neg (by omega), if_pos (by omega)]
  simp [e, encK, lead, tailB, List.range_succ]
theorem enc_four (m : Nat) (h : sg (m : Int) = true) (h1 : ¬ m ≤ 65535) : enc (m : Int) = [UInt8.ofNat (240 + m / 262144), UInt8.ofNat (128 + m / 4096 % 64), UInt8.ofNat (128 + m / 64 % 64), UInt8.ofNat (128 + m % 64)] := by
  unfold enc
  rw [h]
  have e : sh (m : Int) = 3 := by unfold sh; rw [if_neg (by omega), if_neg (by omega), if_neg (by omega)]
  simp [e, encK, lead, tailB, List.range_succ]
end Utf

theorem byte_nat (n : Nat) (h : n < 256) : ((UInt8.ofNat n).toNat : Int) = (n : Int) := by
  rw [UInt8.toNat_ofNat', Nat.mod_eq_of_lt h]
theorem retOwn_lit {w : World} {L : List UInt8} {cs : Array Value} (hcs : cs.toList = bys L) (hn : 0 < L.length) {e : Ending} (he : e = .returned (.slice (some ⟨w.heap.size, 0, none⟩) L.length L.length)) (hlen : L.length ≤ 1000) :
    RetOwn w 5 L e (w.alloc (.cells cs 5)) := by
  have h := World.ownsRow_lit (base := w.heap.size) (e := 5) (size := 1) w cs L.length (Nat.le_refl _) (by unfold maxLen; omega) (by rw [← Array.length_toList, hcs, bys_length, Nat.mul_one])
  rw [hcs] at h
  exact ⟨_, he, h, (Below.refl _ _).alloc (Nat.le_refl _) _⟩

end Go.Proofs.YtgholdnpglngmaaDoor
