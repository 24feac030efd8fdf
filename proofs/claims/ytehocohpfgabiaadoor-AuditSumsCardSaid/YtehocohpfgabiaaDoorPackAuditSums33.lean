/- The statement AuditSums, proved for every input that its row reads: part 33 of 54. -/
import Derived.Test.YtehocohpfgabiaaDoorPackAuditSums22
import Derived.Test.YtehocohpfgabiaaDoorPackAuditSums31
import Derived.Test.YtehocohpfgabiaaDoorPackAuditSums32
import Derived.Deep.QuietTactic
import Derived.BigQuiet
/- The contracts of the document's own Sign, Bytes, Put (layer 3). -/
namespace Go.Proofs.YtehocohpfgabiaaDoor
open Go Go.RowKit

namespace Utf
def EncIs (r : Int) (L : List UInt8) : Prop := enc r = L
theorem enc_one (m : Nat) (h : sg (m : Int) = true) (h1 : m ≤ 127) : enc (m : Int) = [UInt8.ofNat m] := by
  unfold enc
  rw [h]
  have e : sh (m : Int) = 0 := by unfold sh; rw [if_pos (by omega)]
  simp [e, encK, lead]
theorem enc_two (m : Nat) (h : sg (m : Int) = true) (h1 : ¬ m ≤ 127) (h2 : m ≤ 2047) : enc (m : Int) = [UInt8.ofNat (192 + m / 64), UInt8.ofNat (128 + m % 64)] := by
  unfold enc
  rw [h]
  have e : sh (m : Int) = 1 := by unfold sh; rw [if_neg (by omega), if_pos (by omega)]
  simp [e, encK, lead, tailB, List.range_succ]
theorem enc_three (m : Nat) (h : sg (m : Int) = true) (h1 : ¬ m ≤ 2047) (h2 : m ≤ 65535) : enc (m : Int) = [UInt8.ofNat (224 + m / 4096), UInt8.ofNat (128 + m / 64 % 64), UInt8.ofNat (128 + m % 64)] := by
  unfold enc
  rw [h]
  have e : sh (m : Int) = 2 := by unfold sh; rw [if_neg (by omega), if_neg (by omega), if_pos (by omega)]
  simp [e, encK, lead, tailB, List.range_succ]
theorem enc_four (m : Nat) (h : sg (m : Int) = true) (h1 : ¬ m ≤ 65535) : enc (m : Int) = [UInt8.ofNat (240 + m / 262144), UInt8.ofNat (128 + m / 4096 % 64), UInt8.ofNat (128 + m / 64 % 64), UInt8.ofNat (128 + m % 64)] := by
  unfold enc
  rw [h]
  have e : sh (m : Int) = 3 := by unfold sh; rw [if_neg (by omega), if_neg (by omega), if_neg (by omega)]
  simp [e, encK, lead, tailB, List.range_succ]
end Utf

theorem byte_nat (n : Nat) (h : n < 256) : ((UInt8.ofNat n).toNat : Int) = (n : Int) := by
  rw [UInt8.toNat_ofNat', Nat.mod_eq_of_lt h]
theorem retOwn_lit {w : World} {L : List UInt8} {cs : Array Value} (hcs : cs.toList = bys L) (hn : 0 < L.length) {e : Ending} (he : e = .returned (.slice (some ⟨w.heap.size, 0, none⟩) L.length L.length)) (hlen : L.length ≤ 1000) :
    RetOwn w 5 L e (w.alloc (.cells cs 5)) := by
  have h := World.ownsRow_lit (base := w.heap.size) (e := 5) (size := 1) w cs L.length (Nat.le_refl _) (by unfold maxLen; omega) (by rw [← Array.length_toList, hcs, bys_length, Nat.mul_one])
  rw [hcs] at h
  exact ⟨_, he, h, (Below.refl _ _).alloc (Nat.le_refl _) _⟩

namespace Utf
theorem gt_ext (s : ByteArray) (p i : Nat) (h : p + i < s.size) : gt (s.extract p s.size) i = gt s (p + i) := by
  have hs : (s.extract p s.size).size = s.size - p := by rw [ByteArray.size_extract]; omega
  rw [← gt_at (s.extract p s.size) i (by omega), ← gt_at s (p + i) h, ByteArray.getElem_extract]
theorem mt_test (s S : ByteArray) (p k : Nat) (hfit : p + k + 1 ≤ s.size) (hS : S.size = s.size - p) (hG : ∀ i, p + i < s.size → gt S i = gt s (p + i)) :
    (enc (rk s p k : Nat) == (S.extract 0 (k + 1)).toList) = true ↔ mt s p k := by
  rw [beq_iff_eq, Lib.toList_data]
  have hz : (S.extract 0 (k + 1)).size = k + 1 := pre_size S (k + 1) (by omega)
  have hl : (S.extract 0 (k + 1)).data.toList.length = k + 1 := by rw [Array.length_toList]; exact hz
  have hg : ∀ i, i ≤ k → ((S.extract 0 (k + 1)).data.toList.getD i 0).toNat = gt s (p + i) := fun i hi => by
    rw [← hG i (by omega), ← gt_pre S (k + 1) i (by omega) (by omega)]; rfl
  generalize (S.extract 0 (k + 1)).data.toList = T at hl hg
  unfold mt
  constructor
  · intro e
    rw [e]
    exact ⟨hfit, hl, hg⟩
  · intro ⟨_, h1, h2⟩
    refine List.ext_getElem (by rw [h1, hl]) fun i i1 i2 => ?_
    have a := h2 i (by omega); have b := hg i (by omega)
    rw [List.getD, List.getElem?_eq_getElem i1, Option.getD_some] at a
    rw [List.getD, List.getElem?_eq_getElem i2, Option.getD_some] at b
    exact UInt8.toNat_inj.1 (a.trans b.symm)
end Utf
def RetN (w : World) (x : Int × Nat) (e : Ending) (w' : World) : Prop := e = .returned (.tuple #[.int .i64 x.1, .int .i64 (x.2 : Nat)]) ∧ Below w.heap.size w w'

theorem below_drewU {B : Nat} {a w : World} (h : Below B a w) (n : Nat) : Below B a (w.drewN n) := ⟨h.os, h.tape, h.output, h.size, h.block⟩
end Go.Proofs.YtehocohpfgabiaaDoor
