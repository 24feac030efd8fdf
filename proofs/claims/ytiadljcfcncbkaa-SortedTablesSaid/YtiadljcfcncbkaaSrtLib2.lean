/- slices.Delete of one, and slices.Sort, of ints of the call's own. -/
import Derived.Test.YtiadljcfcncbkaaSrtLib
import Derived.Test.YtiadljcfcncbkaaSrtAt
import Derived.Test.YtiadljcfcncbkaaSrtLays
import Derived.Lib.OwnBridge
import Derived.Sort.OwnSortedInts
namespace Go.Proofs.Ytiadljcfcncbkaa
open Go Go.RowKit Go.Sort Go.Lib
set_option linter.unusedVariables false

def sortI (l : List Int) : List Int := l.mergeSort fun x y => decide (x ≤ y)
theorem take_erase (l : List Int) (j : Nat) (h : j < l.length) : (l.take j ++ l.drop (j + 1) ++ [0]).take (l.length - 1) = l.eraseIdx j := by
  rw [List.eraseIdx_eq_take_drop_succ]
  have e : (l.take j ++ l.drop (j + 1)).length = l.length - 1 := by simp; omega
  rw [← e, List.take_left']
  rfl
theorem deleteI_is (B j : Nat) (l : List Int) (v : Value) (w : World) (hown : w.ownsRow B 3 1 v l.length (ints l)) (hj : j < l.length) (hn : l.length ≤ 1000000) :
    Calls Try.prog 32 #[v, .int .i64 (j : Int), .int .i64 ((j : Int) + 1)] w fun e w' => ∃ v', e = .returned v' ∧ w'.ownsRow B 3 1 v' (l.eraseIdx j).length (ints (l.eraseIdx j)) ∧ v'.ownBlock = v.ownBlock ∧ w.grownBy w' v.ownBlock := by
  have hv : v ≠ .slice none 0 0 := by
    rintro rfl
    rcases hown.2 with ⟨_, h0⟩ | ⟨g, cap, cur, h0, _⟩
    · omega
    · cases h0
  obtain ⟨g, cap, rfl, hB, hlt, hc, hm, _, hH⟩ := holds_of_ownsRow (enc := Value.int .i64) hown hv
  have h := Try.slices_Delete_int g 0 cap j (j + 1) l w hH hc (by unfold maxLen at hm; omega) (by omega) (by omega)
  rw [show ((j + 1 : Nat) : Int) = (j : Int) + 1 by omega, show j + 1 - j = 1 by omega] at h
  refine h.mono ?_
  rintro e w' ⟨rfl, q, rfl⟩
  have hlen : (l.eraseIdx j).length = l.length - 1 := by rw [List.length_eraseIdx]; simp [hj]
  refine ⟨_, rfl, ?_, rfl, ?_⟩
  · have := ownsRow_putRow (k := l.length - 1) (q := q) hown (ys := l.take j ++ l.drop (j + 1) ++ [0]) (by simp; omega) (by omega)
    rw [take_erase l j hj] at this
    rw [hlen]
    exact this
  · have := grownBy_sortedI (w := w) (g := g) (n := q) (os := #[]) (l.take j ++ l.drop (j + 1) ++ [0]).toArray
    rw [grow_empty] at this
    exact this
theorem sortI_is (B : Nat) (l : List Int) (v : Value) (w : World) (hown : w.ownsRow B 3 1 v l.length (ints l)) (hn : l.length ≤ 1000000) :
    Calls Try.prog 34 #[v] w fun e w' => e = .returned (.tuple #[]) ∧ w'.ownsRow B 3 1 v (sortI l).length (ints (sortI l)) ∧ w.grownBy w' v.ownBlock := by
  have hlen : (sortI l).length = l.length := List.length_mergeSort _
  by_cases hv : v = .slice none 0 0
  · subst hv
    obtain rfl : l = [] := by
      rcases hown.2 with ⟨_, h0⟩ | ⟨g, cap, cur, h0, _⟩
      · exact List.eq_nil_of_length_eq_zero h0
      · cases h0
    refine (Try.slices_Sort_int_none none 0 w).mono ?_
    rintro e w' ⟨rfl, rfl⟩
    have e0 : sortI [] = [] := List.eq_nil_of_length_eq_zero hlen
    rw [e0]
    exact ⟨rfl, ⟨rfl, .inl ⟨rfl, rfl⟩⟩, rfl, rfl, rfl, Nat.le_refl _, fun _ _ _ => rfl⟩
  · rcases hown.2 with ⟨h0, _⟩ | ⟨g, cap, cur, rfl, hB, hg, hc, hm, hs, ht⟩
    · exact absurd h0 hv
    · obtain ⟨g', cap', e', hB', hlt, _, _, _, hH⟩ := holds_of_ownsRow (enc := Value.int .i64) hown hv
      injection e' with e1 _ _
      injection e1 with e1
      injection e1 with e1
      subst e1
      refine (Try.slices_Sort_int g 0 cap l w hH hlt (by omega)).mono ?_
      rintro e w' ⟨rfl, n, os, rfl⟩
      refine ⟨rfl, ?_, grownBy_sortedI _⟩
      have := ownsRow_sortedI (n := n) (os := os) (ss := l) (ts := sortI l) hlen hB hg hc hm (by simpa using hs)
      rw [hlen]
      exact this
end Go.Proofs.Ytiadljcfcncbkaa
