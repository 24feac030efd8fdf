/- The statement StandingPatches, proved for every input that its row reads: part 16 of 54. -/
import Derived.Test.YtnjopndkommjnaaDoorPackStandingPatches15
/- rotateCmpFunc: two neighbouring pieces of a row changed about. -/
namespace Go.Proofs.YtnjopndkommjnaaDoor
open Go Go.RowKit
set_option linter.unusedVariables false
set_option maxRecDepth 1000000

set_option maxHeartbeats 1000000 in
theorem rotC_is (B g c N : Nat) (P X Y S : List Chg) (a m b : Nat) (fv : Value) (w : World) (hN : (P ++ (X ++ (Y ++ S))).length = N) (h : RowC w B g c (P ++ (X ++ (Y ++ S)))) (ha : a = P.length) (hm : m = P.length + X.length) (hb : b = P.length + X.length + Y.length) (hX : 0 < X.length) (hY : 0 < Y.length) (hbig : N ≤ 1000000) :
    Calls Tryd.prog 48 #[.slice (some ⟨g, 0, none⟩) N c, .int .i64 (a : Int), .int .i64 (m : Int), .int .i64 (b : Int), fv] w (SwC w B g c (P ++ (Y ++ (X ++ S)))) := by
  obtain ⟨i0, hi0⟩ : ∃ i, X.length = i := ⟨_, rfl⟩
  obtain ⟨j0, hj0⟩ : ∃ i, Y.length = i := ⟨_, rfl⟩
  obtain ⟨TT, hTT⟩ : ∃ T, P ++ (Y ++ (X ++ S)) = T := ⟨_, rfl⟩
  have m1 : (m : Int) - (a : Int) = (i0 : Int) := by omega
  have m2 : (b : Int) - (m : Int) = (j0 : Int) := by omega
  have lm : m + j0 ≤ N := by rw [← hN, hm, ← hj0]; simp; omega
  have START : Hid (∃ P' X' Y' S', X'.length = i0 ∧ Y'.length = j0 ∧ P'.length + i0 = m ∧ (P' ++ (X' ++ (Y' ++ S'))).length = N ∧ RowC w B g c (P' ++ (X' ++ (Y' ++ S'))) ∧ P' ++ (Y' ++ (X' ++ S')) = TT) := Lib.hid ⟨P, X, Y, S, hi0, hj0, by omega, hN, h, hTT⟩
  have hi1 : 0 < i0 := by omega
  have hj1 : 0 < j0 := by omega
  have hm0 : i0 ≤ m := by omega
  rw [hTT]
  have ba : b ≤ 1000000 := by omega
  have aa : a ≤ 1000000 := by omega
  clear h ha hm hb hX hY hi0 hj0 hTT hN
  go_enter Tryd.func48, Tryd.ntmps48
  go_wp2
  go_loopw [10, 11] (fun u v wr => ∃ i j : Nat, u = .int .i64 i ∧ v = .int .i64 j ∧ 0 < i ∧ 0 < j ∧ i ≤ m ∧ m + j ≤ N ∧ i + j ≤ i0 + j0 ∧ Hid (∃ P' X' Y' S', X'.length = i ∧ Y'.length = j ∧ P'.length + i = m ∧ (P' ++ (X' ++ (Y' ++ S'))).length = N ∧ RowC wr B g c (P' ++ (X' ++ (Y' ++ S'))) ∧ P' ++ (Y' ++ (X' ++ S')) = TT) ∧ w.grownBy wr (some g)) (fun u v _ => (RowKit.intOf u).toNat + (RowKit.intOf v).toNat)
  case atStart => exact ⟨i0, j0, rfl, rfl, hi1, hj1, hm0, lm, Nat.le_refl _, START, grRC _ _⟩
  case round =>
    obtain ⟨i, j, rfl, rfl, hi, hj, him, hmj, hij, ST, hg⟩ := hrel
    have GR := Lib.hid hg
    clear hg START m1 m2
    have e1 : (m : Int) - (i : Int) = ((m - i : Nat) : Int) := by omega
    rcases Nat.lt_trichotomy i j with h1 | h1 | h1
    · have n1 : ¬ (i : Int) = (j : Int) := by omega
      have n2 : ¬ (i : Int) > (j : Int) := by omega
      have e2 : (m : Int) + (j : Int) - (i : Int) = ((m + j - i : Nat) : Int) := by omega
      have e3 : (j : Int) - (i : Int) = ((j - i : Nat) : Int) := by omega
      have CC : Hid (∃ P' X' Y' S', X'.length = i ∧ Y'.length = j - i ∧ P'.length + i = m ∧ (P' ++ (X' ++ (Y' ++ S'))).length = N ∧ P' ++ (Y' ++ (X' ++ S')) = TT ∧ Calls Tryd.prog 63 #[.slice (some ⟨g, 0, none⟩) N c, .int .i64 ((m - i : Nat) : Int), .int .i64 ((m + j - i : Nat) : Int), .int .i64 (i : Int), fv] wr (SwC wr B g c (P' ++ (X' ++ (Y' ++ S'))))) := Lib.hid (by
        obtain ⟨P', X', Y', S', l1, l2, l3, l4, hr, ht⟩ := ST.out
        have sp : Y' = Y'.take (j - i) ++ Y'.drop (j - i) := (List.take_append_drop _ _).symm
        have lt1 : (Y'.take (j - i)).length = j - i := by rw [List.length_take]; omega
        have ld1 : (Y'.drop (j - i)).length = i := by rw [List.length_drop]; omega
        generalize Y'.take (j - i) = Y1 at sp lt1
        generalize Y'.drop (j - i) = Y2 at sp ld1
        subst sp
        refine ⟨P', Y2, Y1, X' ++ S', ld1, lt1, l3, by rw [← l4]; simp; omega, by rw [← ht]; simp only [List.append_assoc], ?_⟩
        have hc := swapRC_is B g c N P' X' Y1 Y2 S' (m - i) (m + j - i) i fv wr (by rw [← l4]; simp only [List.append_assoc]) (by simpa only [List.append_assoc] using hr) (by omega) (by omega) l1.symm (by omega) hbig
        exact hc)
      clear ST
      obtain ⟨P', X', Y', S', l1, l2, l3, l4, ht, hc⟩ := CC.out
      have HC := Lib.hid hc
      clear hc CC
      go_wp2_with fail
      refine HC.out.mono ?_
      rintro e w2 ⟨rfl, hr, hg⟩
      have SS : Hid (∃ P' X' Y' S', X'.length = i ∧ Y'.length = j - i ∧ P'.length + i = m ∧ (P' ++ (X' ++ (Y' ++ S'))).length = N ∧ RowC w2 B g c (P' ++ (X' ++ (Y' ++ S'))) ∧ P' ++ (Y' ++ (X' ++ S')) = TT) := Lib.hid ⟨P', X', Y', S', l1, l2, l3, l4, hr, ht⟩
      have G2 := Lib.hid (grTC GR.out hg)
      clear hr hg HC ht l1 l2 l3 l4 GR
      dsimp only
      go_wp2
      go_roundw
      case rel => exact ⟨i, j - i, rfl, rfl, hi, by omega, him, by omega, by omega, SS, G2.out⟩
      case measure => simp [intOf]; omega
    · subst h1
      have CC : Hid (Calls Tryd.prog 63 #[.slice (some ⟨g, 0, none⟩) N c, .int .i64 ((m - i : Nat) : Int), .int .i64 (m : Int), .int .i64 (i : Int), fv] wr (SwC wr B g c TT)) := Lib.hid (by
        obtain ⟨P', X', Y', S', l1, l2, l3, l4, hr, ht⟩ := ST.out
        have hc := swapRC_is B g c N P' X' [] Y' S' (m - i) m i fv wr (by rw [← l4]; rfl) hr (by omega) (by simp; omega) l1.symm (by omega) hbig
        rw [List.nil_append, ht] at hc
        exact hc)
      clear ST
      go_wp2_with fail
      refine CC.out.mono ?_
      rintro e w2 ⟨rfl, hr, hg⟩
      have R2 := Lib.hid hr; have G2 := Lib.hid (grTC GR.out hg)
      clear hr hg CC GR
      dsimp only
      go_wp2
      exact bodyPost_end (results_none rfl _ _ _) rfl ⟨rfl, R2.out, G2.out⟩
    · have n1 : ¬ (i : Int) = (j : Int) := by omega
      have n2 : (i : Int) > (j : Int) := by omega
      have e3 : (i : Int) - (j : Int) = ((i - j : Nat) : Int) := by omega
      have CC : Hid (∃ P' X' Y' S', X'.length = i - j ∧ Y'.length = j ∧ P'.length + (i - j) = m ∧ (P' ++ (X' ++ (Y' ++ S'))).length = N ∧ P' ++ (Y' ++ (X' ++ S')) = TT ∧ Calls Tryd.prog 63 #[.slice (some ⟨g, 0, none⟩) N c, .int .i64 ((m - i : Nat) : Int), .int .i64 (m : Int), .int .i64 (j : Int), fv] wr (SwC wr B g c (P' ++ (X' ++ (Y' ++ S'))))) := Lib.hid (by
        obtain ⟨P', X', Y', S', l1, l2, l3, l4, hr, ht⟩ := ST.out
        have sp : X' = X'.take j ++ X'.drop j := (List.take_append_drop _ _).symm
        have lt1 : (X'.take j).length = j := by rw [List.length_take]; omega
        have ld1 : (X'.drop j).length = i - j := by rw [List.length_drop]; omega
        generalize X'.take j = X1 at sp lt1
        generalize X'.drop j = X2 at sp ld1
        subst sp
        refine ⟨P' ++ Y', X2, X1, S', ld1, lt1, by rw [List.length_append]; omega, by rw [← l4]; simp; omega, by rw [← ht]; simp only [List.append_assoc], ?_⟩
        have hc := swapRC_is B g c N P' X1 X2 Y' S' (m - i) m j fv wr (by rw [← l4]; simp only [List.append_assoc]) (by simpa only [List.append_assoc] using hr) (by omega) (by omega) lt1.symm (by omega) hbig
        simpa only [List.append_assoc] using hc)
      clear ST
      obtain ⟨P', X', Y', S', l1, l2, l3, l4, ht, hc⟩ := CC.out
      have HC := Lib.hid hc
      clear hc CC
      go_wp2_with fail
      refine HC.out.mono ?_
      rintro e w2 ⟨rfl, hr, hg⟩
      have SS : Hid (∃ P' X' Y' S', X'.length = i - j ∧ Y'.length = j ∧ P'.length + (i - j) = m ∧ (P' ++ (X' ++ (Y' ++ S'))).length = N ∧ RowC w2 B g c (P' ++ (X' ++ (Y' ++ S'))) ∧ P' ++ (Y' ++ (X' ++ S')) = TT) := Lib.hid ⟨P', X', Y', S', l1, l2, l3, l4, hr, ht⟩
      have G2 := Lib.hid (grTC GR.out hg)
      clear hr hg HC ht l1 l2 l3 l4 GR
      dsimp only
      go_wp2
      go_roundw
      case rel => exact ⟨i - j, j, rfl, rfl, by omega, hj, by omega, hmj, by omega, SS, G2.out⟩
      case measure => simp [intOf]; omega
end Go.Proofs.YtnjopndkommjnaaDoor
