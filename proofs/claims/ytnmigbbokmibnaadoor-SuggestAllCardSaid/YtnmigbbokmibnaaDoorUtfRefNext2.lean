/- The contract of the document's own Next: by the first length that fits. -/
import Derived.Test.YtnmigbbokmibnaaDoorUtfRefNext
namespace Go.Proofs.YtnmigbbokmibnaaDoor
open Go Go.RowKit

theorem value_q (c : Nat) (w : World) (h : c < 256) : Calls Tryd.prog 69 #[.int .u8 c] w fun e w' => e = .returned (.int .i64 ((c % 64 : Nat) : Int)) ∧ w' = w :=
  (value_is c w h).mono fun _ _ ⟨a, b⟩ => ⟨a, b.symm⟩
theorem below_drewN {B : Nat} {a w : World} (h : Below B a w) (n : Nat) : Below B a (w.drewN n) := ⟨h.os, h.tape, h.output, h.size, h.block⟩
/-- the value of a byte, whichever -/
def ValQ (w : World) : Prop := ∀ (c : Nat) (W : World), c < 256 → Calls Tryd.prog 69 #[.int .u8 c] W fun e w' => e = .returned (.int .i64 ((c % 64 : Nat) : Int)) ∧ w' = W
set_option maxHeartbeats 4000000 in
set_option maxRecDepth 1000000 in
theorem refNext_in (s : ByteArray) (p : Nat) (w : World) (h : p < s.size) (hs : s.size ≤ 140737488351232) :
    Calls Tryd.prog 45 #[.string s, .int .i64 p] w (RetN w (Utf.nx s p)) := by
  have h' : (p : Int) < s.size := by omega
  have hsz : (s.extract p s.size).size = s.size - p := by rw [ByteArray.size_extract]; omega
  have hgx := fun i h => Utf.gt_ext s p i h
  obtain ⟨X, hX⟩ : ∃ X, X = Utf.nx s p := ⟨_, rfl⟩
  rw [← hX]
  have HX : Hid (X = Utf.nx s p) := hX
  clear hX
  have d0 : decide ((p : Int) < 0) = false := by simp
  have d1 : decide (s.size ≤ p) = false := by simp; omega
  go_enter Tryd.func45, Tryd.ntmps45
  go_wp2
  generalize s.extract p s.size = S at hsz hgx ⊢
  have HG := Lib.hid hgx
  have TST := Lib.hid (fun k h => Utf.mt_test s S p k h hsz hgx)
  clear hgx
  go_loopw [21] (fun i wr => ∃ k : Nat, k ≤ 4 ∧ i = .int .i64 k ∧ Below w.heap.size w wr ∧ ∀ j, j < k → ¬ Utf.mt s p j) (fun i _ => 4 - (intOf i).toNat)
  case atStart => exact ⟨0, Nat.zero_le _, rfl, Below.refl _ _, fun j hj => by omega⟩
  case round =>
    obtain ⟨k, hk, rfl, hb, hno⟩ := hrel
    have NO := Lib.hid hno; have B0 := Lib.hid hb
    clear hno hb
    by_cases hk4 : k = 4
    · subst hk4
      have HN : Hid (Utf.nx s p = (-1, 1)) := Utf.nx_none s p fun j hj _ => NO.out j (by omega)
      go_wp2
      go_ret2
      exact ⟨by rw [HX.out, HN.out]; rfl, B0.out⟩
    · by_cases hfit : p + k + 1 ≤ s.size
      · have hE : ∃ E, E = Utf.enc (Utf.rk s p k : Nat) := ⟨_, rfl⟩
        obtain ⟨E, hE⟩ := hE
        obtain ⟨r, hr⟩ : ∃ r, r = Utf.rk s p k := ⟨_, rfl⟩
        have BY : Hid (∀ w', Calls Tryd.prog 70 #[.int .i64 r] w' (RetOwn w' 5 E)) := by
          rw [hE, ← hr]; exact refBytes3 (r : Int)
        have TT : Hid ((E == (S.extract 0 (k + 1)).toList) = true ↔ Utf.mt s p k) := by rw [hE]; exact TST.out k hfit
        have NM : Hid (Utf.mt s p k → X = ((r : Int), k + 1)) := fun hm => by rw [HX.out, Utf.nx_of_mt s p k (by omega) hm, hr]
        have NN : Hid (¬ Utf.mt s p k → ∀ j, j < k + 1 → ¬ Utf.mt s p j) := fun hm j hj => by
          rcases Nat.lt_or_ge j k with h1 | h1
          · exact NO.out j h1
          · obtain rfl : j = k := by omega
            exact hm
        have HR := Lib.hid hr
        clear hE hr TST NO
        have g0 := Utf.gt_at S 0 (by omega)
        rw [HG.out 0 (by omega), Nat.add_zero] at g0
        have hb0 := Utf.gt_lt s p
        rcases (show k = 0 ∨ k = 1 ∨ k = 2 ∨ k = 3 by omega) with rfl | rfl | rfl | rfl
        · have hrk : r = Utf.gt s p := HR.out
          rw [← hrk] at g0 hb0
          clear hrk HR
          have hS0 : (0 : Int) < S.size := by omega
          have hS1 : (1 : Int) ≤ S.size := by omega
          go_wp2
          go_region_law (go_simp; go_at_call 70; refine (BY.out _).mono ?_; rintro e w2 ⟨v2, rfl, hown2, hb2⟩; obtain ⟨_, p2, c2, rfl, _, _, lies2, _⟩ := own_lies hown2; have hcv := lies2.convert (P := Tryd.prog) E.length rfl c2 106 5 9 Tryd.underlying106 Tryd.underlying5 Tryd.underlying9; clear lies2 hown2)
          all_goals
            have B2 : Hid (Below w.heap.size w w2) := thenBelow B0.out (((Below.refl wr.heap.size wr).drew).trans hb2)
            clear hcv hb2
            revert TT
            simp only [Nat.zero_add, Nat.reduceAdd]
            generalize (E == (S.extract 0 1).toList) = tb
            intro TT
            cases tb with
            | true =>
              have HX2 := Lib.hid (NM.out (TT.out.1 rfl))
              clear TT NM NN
              go_wp2
              go_ret2
              exact ⟨by rw [HX2.out]; rfl, B2.out⟩
            | false =>
              have HN2 := Lib.hid (NN.out (fun hm => absurd (TT.out.2 hm) (by decide)))
              clear TT NM NN
              go_wp2
              go_roundw
              case rel => exact ⟨0 + 1, by omega, by go_num, B2.out, HN2.out⟩
              case measure => simp [intOf]
        · have g1 := Utf.gt_at S 1 (by omega)
          rw [HG.out 1 (by omega)] at g1
          have hb1 := Utf.gt_lt s (p + 1)
          have HRr : Hid (r = Utf.gt s p % 32 * 64 + Utf.gt s (p + 1) % 64) := HR.out
          clear HR
          generalize Utf.gt s p = a at g0 hb0 HRr
          generalize Utf.gt s (p + 1) = b at g1 hb1 HRr
          have VQ : Hid (ValQ w) := value_q
          have hS0 : (0 : Int) < S.size := by omega
          have hS1 : (1 : Int) < S.size := by omega
          have hSl : (1 : Int) + 1 ≤ S.size := by omega
          have hSm : (2 : Int) ≤ S.size := by omega
          go_wp2
          go_quiet ((go_at_call 69; exact Calls.quiet_of_same (VQ.out _ _ (by assumption))))
          have er : (a : Int) % 32 * 64 + (b : Int) % 64 = (r : Int) := by have := HRr.out; omega
          rw [er]
          clear er
          have HG0 := Lib.hid g0
          clear g0 g1
          go_wp2
          go_region_law (go_simp; go_at_call 70; refine (BY.out _).mono ?_; rintro e w2 ⟨v2, rfl, hown2, hb2⟩; obtain ⟨_, p2, c2, rfl, _, _, lies2, _⟩ := own_lies hown2; have hcv := lies2.convert (P := Tryd.prog) E.length rfl c2 106 5 9 Tryd.underlying106 Tryd.underlying5 Tryd.underlying9; clear lies2 hown2)
          all_goals
            have B2 : Hid (Below w.heap.size w w2) := thenBelow (below_drewN B0.out nq) (((Below.refl (wr.drewN nq).heap.size (wr.drewN nq)).drew).trans hb2)
            clear hcv hb2
            revert TT
            simp only [Nat.zero_add, Nat.reduceAdd]
            generalize (E == (S.extract 0 2).toList) = tb
            intro TT
            cases tb with
            | true =>
              have HX2 := Lib.hid (NM.out (TT.out.1 rfl))
              clear TT NM NN
              go_wp2
              go_ret2
              exact ⟨by rw [HX2.out]; rfl, B2.out⟩
            | false =>
              have HN2 := Lib.hid (NN.out (fun hm => absurd (TT.out.2 hm) (by decide)))
              clear TT NM NN
              go_wp2
              go_roundw
              case rel => exact ⟨1 + 1, by omega, by go_num, B2.out, HN2.out⟩
              case measure => simp [intOf]
        · have g1 := Utf.gt_at S 1 (by omega)
          rw [HG.out 1 (by omega)] at g1
          have hb1 := Utf.gt_lt s (p + 1)
          have g2 := Utf.gt_at S 2 (by omega)
          rw [HG.out 2 (by omega)] at g2
          have hb2 := Utf.gt_lt s (p + 2)
          have HRr : Hid (r = Utf.gt s p % 16 * 4096 + Utf.gt s (p + 1) % 64 * 64 + Utf.gt s (p + 2) % 64) := HR.out
          clear HR
          generalize Utf.gt s p = a at g0 hb0 HRr
          generalize Utf.gt s (p + 1) = b at g1 hb1 HRr
          generalize Utf.gt s (p + 2) = c at g2 hb2 HRr
          have VQ : Hid (ValQ w) := value_q
          have hS0 : (0 : Int) < S.size := by omega
          have hS1 : (1 : Int) < S.size := by omega
          have hS2 : (2 : Int) < S.size := by omega
          have hSl : (2 : Int) + 1 ≤ S.size := by omega
          have hSm : (3 : Int) ≤ S.size := by omega
          go_wp2
          go_quiet ((go_at_call 69; exact Calls.quiet_of_same (VQ.out _ _ (by assumption))))
          have er : (a : Int) % 16 * 4096 + (b : Int) % 64 * 64 + (c : Int) % 64 = (r : Int) := by have := HRr.out; omega
          rw [er]
          clear er
          have HG0 := Lib.hid g0
          clear g0 g1 g2
          go_wp2
          go_region_law (go_simp; go_at_call 70; refine (BY.out _).mono ?_; rintro e w2 ⟨v2, rfl, hown2, hb2⟩; obtain ⟨_, p2, c2, rfl, _, _, lies2, _⟩ := own_lies hown2; have hcv := lies2.convert (P := Tryd.prog) E.length rfl c2 106 5 9 Tryd.underlying106 Tryd.underlying5 Tryd.underlying9; clear lies2 hown2)
          all_goals
            have B2 : Hid (Below w.heap.size w w2) := thenBelow (below_drewN B0.out nq) (((Below.refl (wr.drewN nq).heap.size (wr.drewN nq)).drew).trans hb2)
            clear hcv hb2
            revert TT
            simp only [Nat.zero_add, Nat.reduceAdd]
            generalize (E == (S.extract 0 3).toList) = tb
            intro TT
            cases tb with
            | true =>
              have HX2 := Lib.hid (NM.out (TT.out.1 rfl))
              clear TT NM NN
              go_wp2
              go_ret2
              exact ⟨by rw [HX2.out]; rfl, B2.out⟩
            | false =>
              have HN2 := Lib.hid (NN.out (fun hm => absurd (TT.out.2 hm) (by decide)))
              clear TT NM NN
              go_wp2
              go_roundw
              case rel => exact ⟨2 + 1, by omega, by go_num, B2.out, HN2.out⟩
              case measure => simp [intOf]
        · have g1 := Utf.gt_at S 1 (by omega)
          rw [HG.out 1 (by omega)] at g1
          have hb1 := Utf.gt_lt s (p + 1)
          have g2 := Utf.gt_at S 2 (by omega)
          rw [HG.out 2 (by omega)] at g2
          have hb2 := Utf.gt_lt s (p + 2)
          have g3 := Utf.gt_at S 3 (by omega)
          rw [HG.out 3 (by omega)] at g3
          have hb3 := Utf.gt_lt s (p + 3)
          have HRr : Hid (r = Utf.gt s p % 8 * 262144 + Utf.gt s (p + 1) % 64 * 4096 + Utf.gt s (p + 2) % 64 * 64 + Utf.gt s (p + 3) % 64) := HR.out
          clear HR
          generalize Utf.gt s p = a at g0 hb0 HRr
          generalize Utf.gt s (p + 1) = b at g1 hb1 HRr
          generalize Utf.gt s (p + 2) = c at g2 hb2 HRr
          generalize Utf.gt s (p + 3) = d at g3 hb3 HRr
          have VQ : Hid (ValQ w) := value_q
          have hS0 : (0 : Int) < S.size := by omega
          have hS1 : (1 : Int) < S.size := by omega
          have hS2 : (2 : Int) < S.size := by omega
          have hS3 : (3 : Int) < S.size := by omega
          have hSl : (3 : Int) + 1 ≤ S.size := by omega
          have hSm : (4 : Int) ≤ S.size := by omega
          go_wp2
          go_quiet ((go_at_call 69; exact Calls.quiet_of_same (VQ.out _ _ (by assumption))))
          have er : (a : Int) % 8 * 262144 + (b : Int) % 64 * 4096 + (c : Int) % 64 * 64 + (d : Int) % 64 = (r : Int) := by have := HRr.out; omega
          rw [er]
          clear er
          have HG0 := Lib.hid g0
          clear g0 g1 g2 g3
          go_wp2
          go_region_law (go_simp; go_at_call 70; refine (BY.out _).mono ?_; rintro e w2 ⟨v2, rfl, hown2, hb2⟩; obtain ⟨_, p2, c2, rfl, _, _, lies2, _⟩ := own_lies hown2; have hcv := lies2.convert (P := Tryd.prog) E.length rfl c2 106 5 9 Tryd.underlying106 Tryd.underlying5 Tryd.underlying9; clear lies2 hown2)
          all_goals
            have B2 : Hid (Below w.heap.size w w2) := thenBelow (below_drewN B0.out nq) (((Below.refl (wr.drewN nq).heap.size (wr.drewN nq)).drew).trans hb2)
            clear hcv hb2
            revert TT
            simp only [Nat.zero_add, Nat.reduceAdd]
            generalize (E == (S.extract 0 4).toList) = tb
            intro TT
            cases tb with
            | true =>
              have HX2 := Lib.hid (NM.out (TT.out.1 rfl))
              clear TT NM NN
              go_wp2
              go_ret2
              exact ⟨by rw [HX2.out]; rfl, B2.out⟩
            | false =>
              have HN2 := Lib.hid (NN.out (fun hm => absurd (TT.out.2 hm) (by decide)))
              clear TT NM NN
              go_wp2
              go_roundw
              case rel => exact ⟨3 + 1, by omega, by go_num, B2.out, HN2.out⟩
              case measure => simp [intOf]
      · have HN : Hid (Utf.nx s p = (-1, 1)) := Utf.nx_none s p fun j hj hf => by
          rcases Nat.lt_or_ge j k with h1 | h1
          · exact NO.out j h1
          · omega
        have hk' : ¬ ((k : Int) + 1 ≤ ((s.size - p : Nat) : Int)) := by omega
        have hk3 : (k : Int) < 4 := by omega
        go_wp2
        go_ret2
        exact ⟨by rw [HX.out, HN.out]; rfl, B0.out⟩
end Go.Proofs.YtnmigbbokmibnaaDoor
