/- slices.Sort and slices.Compact of texts of the call's own; what comes of them rises. -/
import Derived.Test.YtijmijokgenflaaGreatDoorMemStrs
import Derived.Test.YtijmijokgenflaaGreatDoorStrLays
import Derived.Lib.OwnBridge
import Derived.Lib.RowBridge
import Derived.Sort.OwnSorted
import Derived.Sort.Walk0
import Derived.Lib.SlicesCompact
namespace Go.Proofs.YtijmijokgenflaaGreatDoor
open Go Go.RowKit Go.Sort Go.Lib
set_option linter.unusedVariables false

theorem leL_lt {a b : List UInt8} (h : a ≤ b) (hn : a ≠ b) : a < b := by
  rcases List.le_iff_lt_or_eq.1 h with h | h
  · exact h
  · exact absurd h hn
theorem mergeL_sorted (l : List (List UInt8)) : (l.mergeSort fun x y => decide (x ≤ y)).Pairwise (· ≤ ·) := by
  have h := List.pairwise_mergeSort (le := fun x y : List UInt8 => decide (x ≤ y)) (fun a b c h1 h2 => by simp only [decide_eq_true_eq] at *; exact List.le_trans h1 h2) (fun a b => by have := List.le_total a b; simpa using this) l
  exact h.imp (by simp)
theorem compact_rise (l : List (List UInt8)) (h : l.Pairwise (· ≤ ·)) : (compact l).Pairwise (· < ·) := by
  unfold compact compactUpTo
  rw [List.pairwise_map]
  have hr := (List.pairwise_lt_range (n := l.length)).filter (keeps l.toArray)
  refine hr.imp_of_mem fun {i j} hi hj hij => ?_
  simp only [List.mem_filter, List.mem_range] at hi hj
  obtain ⟨hjl, hk⟩ := hj
  have h0 : j ≠ 0 := by omega
  have hne : l.toArray[j]! ≠ l.toArray[j - 1]! := by simpa [keeps, h0] using hk
  have le : ∀ x y, x ≤ y → y < l.length → l.toArray[x]! ≤ l.toArray[y]! := fun x y hxy hy => by
    rcases Nat.lt_or_ge x y with hlt | hge
    · have := List.pairwise_iff_getElem.1 h x y (by omega) hy hlt
      simpa [getElem!_pos, hy, show x < l.length by omega] using this
    · obtain rfl : x = y := by omega
      exact List.le_refl _
  have h1 := le i (j - 1) (by omega) (by omega)
  have h2 := leL_lt (le (j - 1) j (by omega) hjl) (fun e => hne e.symm)
  exact List.lt_of_le_of_lt h1 h2

def bytesOf (l : List ByteArray) : List (List UInt8) := l.map (·.data.toList)
def ofBytes (l : List (List UInt8)) : List ByteArray := l.map fun x => ⟨x.toArray⟩
theorem enc_ofBytes (l : List (List UInt8)) : l.map encStr = strs (ofBytes l) := by
  simp [strs, ofBytes]
theorem enc_bytesOf (l : List ByteArray) : (bytesOf l).map encStr = strs l := map_encStr l
theorem bytesOf_ofBytes (l : List (List UInt8)) : bytesOf (ofBytes l) = l := by
  unfold bytesOf ofBytes
  rw [List.map_map]
  exact (List.map_congr_left fun x _ => by simp).trans (List.map_id' l)
theorem ofBytes_len (l : List (List UInt8)) : (ofBytes l).length = l.length := by simp [ofBytes]
theorem bytesOf_len (l : List ByteArray) : (bytesOf l).length = l.length := by simp [bytesOf]
/-- texts in order -/
def sortS (l : List ByteArray) : List ByteArray := ofBytes ((bytesOf l).mergeSort fun x y => decide (x ≤ y))
/-- texts, of those that are the same and stand side by side one -/
def compS (l : List ByteArray) : List ByteArray := ofBytes (compact (bytesOf l))
theorem sortS_len (l : List ByteArray) : (sortS l).length = l.length := by
  simp [sortS, ofBytes_len, bytesOf_len]
theorem compS_len (l : List ByteArray) : (compS l).length ≤ l.length := by
  have := compact_length_le (bytesOf l)
  rw [bytesOf_len] at this
  simpa [compS, ofBytes_len] using this
theorem compS_rise (l : List ByteArray) : (compS (sortS l)).Pairwise fun a b => Op.bytesLess a.toList b.toList = true := by
  have h := compact_rise _ (mergeL_sorted (bytesOf l))
  have e : bytesOf (sortS l) = (bytesOf l).mergeSort fun x y => decide (x ≤ y) := bytesOf_ofBytes _
  unfold compS
  rw [e]
  unfold ofBytes
  rw [List.pairwise_map]
  refine h.imp fun {a b} hab => ?_
  rw [bytesLess_eq, Lib.toList_data, Lib.toList_data]
  simpa using hab

theorem sortS_is (B : Nat) (l : List ByteArray) (v : Value) (w : World) (hown : w.ownsRow B 9 1 v l.length (strs l)) (hn : l.length ≤ 1000000) :
    Calls Tryz.prog 34 #[v] w fun e w' => e = .returned (.tuple #[]) ∧ w'.ownsRow B 9 1 v (sortS l).length (strs (sortS l)) ∧ w.grownBy w' v.ownBlock := by
  have hlen := sortS_len l
  by_cases hv : v = .slice none 0 0
  · subst hv
    obtain rfl : l = [] := by
      rcases hown.2 with ⟨_, h0⟩ | ⟨g, cap, cur, h0, _⟩
      · exact List.eq_nil_of_length_eq_zero h0
      · cases h0
    refine (Tryz.slices_Sort_string_none none 0 w).mono ?_
    rintro e w' ⟨rfl, rfl⟩
    have e0 : sortS [] = [] := List.eq_nil_of_length_eq_zero hlen
    rw [e0]
    exact ⟨rfl, ⟨rfl, .inl ⟨rfl, rfl⟩⟩, rfl, rfl, rfl, Nat.le_refl _, fun _ _ _ => rfl⟩
  · rcases hown.2 with ⟨h0, _⟩ | ⟨g, cap, cur, rfl, hB, hg, hc, hm, hs, ht⟩
    · exact absurd h0 hv
    · have hown2 : w.ownsRow B 9 1 (.slice (some ⟨g, 0, none⟩) l.length cap) l.length ((bytesOf l).map encStr) := by rw [enc_bytesOf]; exact hown
      obtain ⟨g', cap', e', hB', hlt, _, _, _, hH⟩ := holds_of_ownsRow (enc := encStr) hown2 hv
      injection e' with e1 _ _
      injection e1 with e1
      injection e1 with e1
      subst e1
      have h := Tryz.slices_Sort_string g 0 cap (bytesOf l) w hH hlt (by rw [bytesOf_len]; omega)
      rw [bytesOf_len] at h
      refine h.mono ?_
      rintro e w' ⟨rfl, n, os, rfl⟩
      refine ⟨rfl, ?_, grownBy_sorted _⟩
      have := ownsRow_sorted (n := n) (os := os) (ss := bytesOf l) (ts := (bytesOf l).mergeSort fun x y => decide (x ≤ y)) (by simp) hB hg (by rw [bytesOf_len]; exact hc) hm (by simpa using hs)
      rw [enc_ofBytes, bytesOf_len] at this
      rw [hlen]
      exact this
theorem compS_is (B : Nat) (l : List ByteArray) (v : Value) (w : World) (hown : w.ownsRow B 9 1 v l.length (strs l)) (hn : l.length ≤ 1000000) :
    Calls Tryz.prog 35 #[v] w fun e w' => ∃ v', e = .returned v' ∧ w'.ownsRow B 9 1 v' (compS l).length (strs (compS l)) ∧ w.grownBy w' v.ownBlock := by
  have hlen := compS_len l
  by_cases hv : v = .slice none 0 0
  · subst hv
    obtain rfl : l = [] := by
      rcases hown.2 with ⟨_, h0⟩ | ⟨g, cap, cur, h0, _⟩
      · exact List.eq_nil_of_length_eq_zero h0
      · cases h0
    refine (Tryz.slices_Compact_string_empty none 0 w).mono ?_
    rintro e w' ⟨rfl, rfl⟩
    have e0 : compS [] = [] := List.eq_nil_of_length_eq_zero (by simpa using hlen)
    rw [e0]
    exact ⟨_, rfl, ⟨rfl, .inl ⟨rfl, rfl⟩⟩, rfl, rfl, rfl, Nat.le_refl _, fun _ _ _ => rfl⟩
  · have hown2 : w.ownsRow B 9 1 v l.length ((bytesOf l).map encStr) := by rw [enc_bytesOf]; exact hown
    obtain ⟨g, cap, rfl, hB, hlt, hc, hm, _, hH⟩ := holds_of_ownsRow (enc := encStr) hown2 hv
    have h := Tryz.slices_Compact_string g 0 cap (bytesOf l) w hH (by rw [bytesOf_len]; omega) (by rw [bytesOf_len]; exact hc)
    rw [bytesOf_len] at h
    refine h.mono ?_
    rintro e w' ⟨rfl, q, rfl⟩
    refine ⟨_, rfl, ?_, ?_⟩
    · have hcl := compact_length_le (bytesOf l)
      rw [bytesOf_len] at hcl
      have := ownsRow_putRow (k := (compact (bytesOf l)).length) (q := q) hown2 (ys := compact (bytesOf l) ++ List.replicate (l.length - (compact (bytesOf l)).length) []) (by simp; omega) hcl
      rw [List.take_left', enc_ofBytes] at this
      · have e2 : (compS l).length = (compact (bytesOf l)).length := ofBytes_len _
        rw [e2]
        exact this
      · rfl
    · have := grownBy_sorted (w := w) (g := g) (n := q) (os := #[]) (compact (bytesOf l) ++ List.replicate (l.length - (compact (bytesOf l)).length) []).toArray
      rw [grow_empty] at this
      exact this
end Go.Proofs.YtijmijokgenflaaGreatDoor
