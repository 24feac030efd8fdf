/- The statement DocsReads, proved for every input that its row reads: part 31 of 54. -/
import Derived.Test.YtijmijokgenflaaGreatDoorPackDocsReads15
import Derived.Test.YtijmijokgenflaaGreatDoorPackDocsReads28
import Derived.Test.YtijmijokgenflaaGreatDoorPackDocsReads30
/- docs.Gone: the dots of writes, in order, each once. -/
namespace Go.Proofs.YtijmijokgenflaaGreatDoor
open Go Go.RowKit
set_option linter.unusedVariables false
set_option maxRecDepth 1000000

def RetDots (w : World) (D : List Dt) (e : Ending) (w' : World) : Prop := ∃ p c, e = .returned (.slice p D.length c) ∧ DRow w' p D ∧ Below w.heap.size w w'
theorem ordered_dots {L : List Wr} {S : List Dt} (h : Ordered (L.map Wr.dot) S) : dedup S = dotsIn L :=
  dotsIn_is (dedup_rises S h.2) fun d => (dedup_mem S d).trans h.1.mem_iff
theorem compactNoneD (p : Option Addr) (cap : Nat) (w : World) : Calls Tryz.prog 31 #[.slice p 0 cap] w (fun e w' => e = .returned (.slice p 0 cap) ∧ w' = w) := by
  go_enter Tryz.func31, Tryz.ntmps31
  go_wp2
  go_ret
  exact ⟨rfl, rfl⟩
set_option maxHeartbeats 4000000 in
theorem docGone_is (p : Option Addr) (c : Nat) (L : List Wr) (w : World) (h : WrsAt w p L) (hn : L.length ≤ 1000) :
    Calls Tryz.prog 12 #[.slice p L.length c] w (RetDots w (dotsIn L)) := by
  have HW := Lib.hid h
  clear h
  go_enter Tryz.func12, Tryz.ntmps12
  go_wp2_with fail
  go_loopw [3, 8] (fun v i wr => ∃ k : Nat, k ≤ L.length ∧ i = .int .i64 k ∧ Hid (wr.ownsRow w.heap.size 37 2 v ((L.take k).map Wr.dot).length (dcl ((L.take k).map Wr.dot))) ∧ Hid (Below w.heap.size w wr)) (fun _ i _ => L.length - (intOf i).toNat)
  case atStart => exact ⟨0, Nat.zero_le _, rfl, Lib.hid ⟨rfl, .inl ⟨rfl, rfl⟩⟩, Lib.hid (Below.refl _ _)⟩
  case round =>
    obtain ⟨k, hk, rfl, OO, BB⟩ := hrel
    obtain ⟨q, cq, hq⟩ := own_slice OO.out
    subst hq
    by_cases hkl : k < L.length
    · have hkl' : (k : Int) < L.length := by omega
      obtain ⟨b, o, rfl, hlt, hr⟩ := (HW.out.below BB.out).at hkl
      obtain ⟨c0, c1, c2, c3, c4, c5⟩ := wr_cells hr
      have TK : Hid ((L.take (k + 1)).map Wr.dot = (L.take k).map Wr.dot ++ [L[k].dot]) := Lib.hid (by rw [List.take_succ_eq_append_getElem hkl, List.map_append]; rfl)
      have ML : ((L.take k).map Wr.dot).length ≤ 1000 := by rw [List.length_map, List.length_take]; omega
      clear hr hlt
      obtain ⟨y, hy⟩ : ∃ y, L[k] = y := ⟨_, rfl⟩
      rw [hy] at c0 c1 c2 c3 c4 c5 TK
      clear hy
      obtain ⟨r, n, t, d, fl, tx⟩ := y
      simp only [Wr.dot] at c0 c1 c2 c3 c4 c5 TK
      generalize (L.take k).map Wr.dot = M at OO TK ML
      have b7 := below_alloc wr (.cells #[.int .i64 r, .int .i64 n, .int .i64 t, .string d, .int .i64 fl, .string tx] 39)
      have B7 := Lib.hid (thenBelow BB.out b7)
      have O7 := Lib.hid (own_later OO.out b7)
      clear b7
      go_wp2_with (at_builtin; refine wpList_dt _ rfl _ _ rfl w.heap.size M.length (dcl M) _ rfl O7.out (r, n) (by rw [World.size_alloc]; rfl) (by omega) B7.out.size ?_)
      intro v6 w6 o6 g6
      have B6 := Lib.hid (B7.out.grown g6 B7.out.size (fun k hk => (O7.out.lt k hk).1))
      have O6 : Hid (w6.ownsRow w.heap.size 37 2 v6 ((L.take (k + 1)).map Wr.dot).length (dcl ((L.take (k + 1)).map Wr.dot))) := Lib.hid (by rw [TK.out, dcl_snoc, List.length_append]; exact o6)
      clear o6 g6 c0 c1 c2 c3 c4 c5
      go_wp2
      go_roundw
      case rel => exact ⟨k + 1, by omega, by go_num, O6, B6⟩
      case measure => simp [intOf]; omega
    · obtain rfl : k = L.length := by omega
      have hkl' : ¬ ((L.length : Nat) : Int) < L.length := by omega
      rw [List.take_length] at OO
      have ML : (L.map Wr.dot).length = L.length := List.length_map _
      have FIN : Hid (∀ S, Ordered (L.map Wr.dot) S → dedup S = dotsIn L) := Lib.hid fun S h => ordered_dots h
      clear HW
      generalize L.map Wr.dot = M at OO ML FIN
      rcases OO.out.2 with ⟨h0, h1⟩ | ⟨g, cap, cur, h0, hB, hg, hc, hm, hs, ht⟩
      · injection h0 with h0 h2 h3
        subst h0 h3
        obtain rfl : M = [] := List.eq_nil_of_length_eq_zero h1
        obtain rfl : L = [] := List.eq_nil_of_length_eq_zero ML.symm
        have SO := Lib.hid (sortNone_is none 0 (.func (.func 30) #[] #[]) wr)
        have CO := Lib.hid (compactNoneD none 0 wr)
        have F0 := FIN.out [] ⟨List.Perm.refl _, List.Pairwise.nil⟩
        have F0 := Lib.hid F0
        clear FIN
        go_wp2_with fail
        refine SO.out.mono ?_
        rintro e w2 ⟨rfl, rfl⟩
        clear SO
        dsimp only
        go_wp2_with fail
        refine CO.out.mono ?_
        rintro e w2 ⟨rfl, hw2⟩
        subst hw2
        clear CO
        dsimp only
        go_wp2
        go_ret
        rw [← F0.out]
        exact ⟨none, 0, rfl, DRow.nil _ _, BB.out⟩
      · injection h0 with h0 h2 h3
        subst h0 h3
        obtain ⟨_, pq, cq', e2, hcq, _, hnone, hsome⟩ := own_drow OO.out
        injection e2 with e2 _ e3
        subst e3
        obtain ⟨g', e4, lq, hO6⟩ := hsome _ e2.symm
        injection e4 with e4
        subst e4
        have O6 := Lib.hid hO6
        have HSH : Hid (wr.heap[g]? = some (.cells cur 37 (0, 0))) := Lib.hid hg
        have SO := sortD_is g cq M wr hO6 (by omega)
        rw [ML] at SO
        have SO := Lib.hid SO
        clear hnone hsome hO6 hg e2
        go_wp2_with fail
        refine SO.out.mono ?_
        rintro e w7 ⟨rfl, S, hord, hO7, hg7⟩
        have HF := Lib.hid (FIN.out S hord)
        have hSl := hord.1.length_eq
        have B7 := Lib.hid (BB.out.trans (grown_below hg7 BB.out.size lq))
        have CO := compactD_is g cq S w7 hO7 (by omega) (by omega)
        rw [hSl, ML] at CO
        have CO := Lib.hid CO
        clear SO hO7 hord hg7 O6 OO HSH FIN
        dsimp only
        go_wp2_with fail
        refine CO.out.mono ?_
        rintro e w8 ⟨rfl, hO8, hg8⟩
        have B8 := Lib.hid (B7.out.trans (grown_below hg8 B7.out.size lq))
        clear CO hg8
        dsimp only
        go_wp2
        go_ret
        rw [← HF.out]
        exact ⟨_, _, rfl, hO8.row, B8.out⟩
end Go.Proofs.YtijmijokgenflaaGreatDoor
