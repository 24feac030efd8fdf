/- The statement DocsReads, proved for every input that its row reads: part 39 of 54. -/
import Derived.Test.YtijmijokgenflaaGreatDoorPackDocsReads17
import Derived.Test.YtijmijokgenflaaGreatDoorPackDocsReads38
import Derived.Deep.QuietTactic
import Derived.BigQuiet
/- The contracts of the document's own Sign, Bytes, Put (layer 3). -/
namespace Go.Proofs.YtijmijokgenflaaGreatDoor
open Go Go.RowKit

set_option maxHeartbeats 1000000 in
theorem refSign_is (r : Int) (w : World) : Calls Tryz.prog 123 #[.int .i64 r] w fun e w' => e = .returned (.bool (Utf.sg r)) ∧ w = w' := by
  obtain ⟨b, hb⟩ : ∃ b, b = Utf.sg r := ⟨_, rfl⟩
  rw [← hb]
  have key : (r < 0 ∧ b = false) ∨ ((0 ≤ r ∧ r < 55296) ∧ b = true) ∨ ((55296 ≤ r ∧ r ≤ 57343) ∧ b = false) ∨ ((57343 < r ∧ r ≤ 1114111) ∧ b = true) ∨ (1114111 < r ∧ b = false) := by
    rw [hb]; unfold Utf.sg
    simp only [decide_eq_true_eq, decide_eq_false_iff_not]
    omega
  clear hb
  rcases key with ⟨h1, rfl⟩ | ⟨⟨h1, h2⟩, rfl⟩ | ⟨⟨h1, h2⟩, rfl⟩ | ⟨⟨h1, h2⟩, rfl⟩ | ⟨h1, rfl⟩
  all_goals
    go_enter Tryz.func123, Tryz.ntmps123
    go_wp2
    go_ret
    exact ⟨ret_bool (by first | rfl | (simp; done) | (simp; omega)), rfl⟩

namespace Utf
def EncIs (r : Int) (L : List UInt8) : Prop := enc r = L
theorem enc_one (m : Nat) (h : sg (m : Int) = true) (h1 : m ≤ 127) : enc (m : Int) = [UInt8.ofNat m] := by
  unfold enc
  rw [h]
  have e : sh (m : Int) = 0 := by unfold sh; rw [if_pos (by omega)]
  simp [e, encK, lead]
theorem enc_two (m : Nat) (h : sg (m : Int) = true) (h1 : ¬ m ≤ 127) (h2 : m ≤ 2047) : enc (m : Int) = [UInt8.ofNat (192 + m / 64), UInt8.ofNat (128 + m % 64)] := by
  unfold enc
  rw [h]
  have e : sh (m : Int) = 1 := by unfold sh; rw [if_neg (by omega), if_pos (by omega)]
  simp [e, encK, lead, tailB, List.range_succ]
theorem enc_three (m : Nat) (h : sg (m : Int) = true) (h1 : ¬ m ≤ 2047) (h2 : m ≤ 65535) : enc (m : Int) = [UInt8.ofNat (224 + m / 4096), UInt8.ofNat (128 + m / 64 % 64), UInt8.ofNat (128 + m % 64)] := by
  unfold enc
  rw [h]
  have e : sh (m : Int) = 2 := by unfold sh; rw [if_neg (by omega), if_neg (by omega), if_pos (by omega)]
  simp [e, encK, lead, tailB, List.range_succ]
theorem enc_four (m : Nat) (h : sg (m : Int) = true) (h1 : ¬ m ≤ 65535) : enc (m : Int) = [UInt8.ofNat (240 + m / 262144), UInt8.ofNat (128 + m / 4096 % 64), UInt8.ofNat (128 + m / 64 % 64), UInt8.ofNat (128 + m % 64)] := by
  unfold enc
  rw [h]
  have e : sh (m : Int) = 3 := by unfold sh; rw [if_neg (by omega), if_neg (by omega), if_neg (by omega)]
  simp [e, encK, lead, tailB, List.range_succ]
end Utf

theorem byte_nat (n : Nat) (h : n < 256) : ((UInt8.ofNat n).toNat : Int) = (n : Int) := by
  rw [UInt8.toNat_ofNat', Nat.mod_eq_of_lt h]
theorem retOwn_lit {w : World} {L : List UInt8} {cs : Array Value} (hcs : cs.toList = bys L) (hn : 0 < L.length) {e : Ending} (he : e = .returned (.slice (some ⟨w.heap.size, 0, none⟩) L.length L.length)) (hlen : L.length ≤ 1000) :
    RetOwn w 5 L e (w.alloc (.cells cs 5)) := by
  have h := World.ownsRow_lit (base := w.heap.size) (e := 5) (size := 1) w cs L.length (Nat.le_refl _) (by unfold maxLen; omega) (by rw [← Array.length_toList, hcs, bys_length, Nat.mul_one])
  rw [hcs] at h
  exact ⟨_, he, h, (Below.refl _ _).alloc (Nat.le_refl _) _⟩

set_option maxHeartbeats 2000000 in
set_option maxRecDepth 10000000 in
theorem refBytes3 (r : Int) (w : World) : Calls Tryz.prog 118 #[.int .i64 r] w (RetOwn w 5 (Utf.enc r)) := by
  have hs := refSign_is r w
  cases hsv : Utf.sg r with
  | false =>
    have hE : Hid (Utf.enc r = []) := by unfold Utf.enc; rw [hsv]; rfl
    rw [hsv] at hs
    clear hsv
    go_enter Tryz.func118, Tryz.ntmps118
    go_wp2_with fail
    refine hs.mono ?_
    rintro e w' ⟨rfl, rfl⟩
    go_wp2_with fail
    go_ret
    rw [hE.out]
    exact ⟨_, rfl, World.ownsRow_nil _ _ _ _, Below.refl _ _⟩
  | true =>
    rw [hsv] at hs
    have hr : 0 ≤ r ∧ r ≤ 1114111 := by unfold Utf.sg at hsv; simp only [decide_eq_true_eq] at hsv; omega
    obtain ⟨hr1, hr2⟩ := hr
    obtain ⟨m, rfl⟩ := Int.eq_ofNat_of_zero_le hr1
    by_cases h1 : m ≤ 127
    · have HS := Lib.hid hsv
      clear hsv
      go_enter Tryz.func118, Tryz.ntmps118
      go_wp2_with fail
      refine hs.mono ?_
      rintro e w' ⟨rfl, rfl⟩
      go_wp2_with fail
      go_ret
      rw [Utf.enc_one m HS.out (by omega)]
      exact retOwn_lit (by simp [bys]; omega) (by simp) rfl (by simp)
    · by_cases h2 : m ≤ 2047
      · have HS := Lib.hid hsv
        clear hsv
        go_enter Tryz.func118, Tryz.ntmps118
        go_wp2_with fail
        refine hs.mono ?_
        rintro e w' ⟨rfl, rfl⟩
        go_wp2_with fail
        go_ret
        rw [Utf.enc_two m HS.out (by omega) (by omega)]
        exact retOwn_lit (by simp [bys]; omega) (by simp) rfl (by simp)
      · by_cases h3 : m ≤ 65535
        · have HS := Lib.hid hsv
          clear hsv
          go_enter Tryz.func118, Tryz.ntmps118
          go_wp2_with fail
          refine hs.mono ?_
          rintro e w' ⟨rfl, rfl⟩
          go_wp2_with fail
          go_ret
          rw [Utf.enc_three m HS.out (by omega) (by omega)]
          exact retOwn_lit (by simp [bys]; omega) (by simp) rfl (by simp)
        · have HS := Lib.hid hsv
          clear hsv
          go_enter Tryz.func118, Tryz.ntmps118
          go_wp2_with fail
          refine hs.mono ?_
          rintro e w' ⟨rfl, rfl⟩
          go_wp2_with fail
          go_ret
          rw [Utf.enc_four m HS.out (by omega)]
          exact retOwn_lit (by simp [bys]; omega) (by simp) rfl (by simp)

theorem value_is (c : Nat) (w : World) (h : c < 256) : Calls Tryz.prog 117 #[.int .u8 c] w fun e w' => e = .returned (.int .i64 ((c % 64 : Nat) : Int)) ∧ w = w' := by
  go_enter Tryz.func117, Tryz.ntmps117
  go_wp2
  go_ret
  exact ⟨ret_intU (by first | rfl | (simp; done) | (simp; omega)), rfl⟩

theorem refNext_out (s : ByteArray) (at_ : Int) (w : World) (h : at_ < 0 ∨ (s.size : Int) ≤ at_) : Calls Tryz.prog 111 #[.string s, .int .i64 at_] w fun e w' => e = .returned (.tuple #[.int .i64 (-1), .int .i64 0]) ∧ w = w' := by
  rcases h with h | h
  · go_enter Tryz.func111, Tryz.ntmps111
    go_wp2
    go_ret2
    exact ⟨rfl, rfl⟩
  · by_cases h0 : at_ < 0
    all_goals
      go_enter Tryz.func111, Tryz.ntmps111
      go_wp2
      go_ret2
      exact ⟨rfl, rfl⟩

namespace Utf
theorem gt_ext (s : ByteArray) (p i : Nat) (h : p + i < s.size) : gt (s.extract p s.size) i = gt s (p + i) := by
  have hs : (s.extract p s.size).size = s.size - p := by rw [ByteArray.size_extract]; omega
  rw [← gt_at (s.extract p s.size) i (by omega), ← gt_at s (p + i) h, ByteArray.getElem_extract]
theorem mt_test (s S : ByteArray) (p k : Nat) (hfit : p + k + 1 ≤ s.size) (hS : S.size = s.size - p) (hG : ∀ i, p + i < s.size → gt S i = gt s (p + i)) :
    (enc (rk s p k : Nat) == (S.extract 0 (k + 1)).toList) = true ↔ mt s p k := by
  rw [beq_iff_eq, Lib.toList_data]
  have hz : (S.extract 0 (k + 1)).size = k + 1 := pre_size S (k + 1) (by omega)
  have hl : (S.extract 0 (k + 1)).data.toList.length = k + 1 := by rw [Array.length_toList]; exact hz
  have hg : ∀ i, i ≤ k → ((S.extract 0 (k + 1)).data.toList.getD i 0).toNat = gt s (p + i) := fun i hi => by
    rw [← hG i (by omega), ← gt_pre S (k + 1) i (by omega) (by omega)]; rfl
  generalize (S.extract 0 (k + 1)).data.toList = T at hl hg
  unfold mt
  constructor
  · intro e
    rw [e]
    exact ⟨hfit, hl, hg⟩
  · intro ⟨_, h1, h2⟩
    refine List.ext_getElem (by rw [h1, hl]) fun i i1 i2 => ?_
    have a := h2 i (by omega); have b := hg i (by omega)
    rw [List.getD, List.getElem?_eq_getElem i1, Option.getD_some] at a
    rw [List.getD, List.getElem?_eq_getElem i2, Option.getD_some] at b
    exact UInt8.toNat_inj.1 (a.trans b.symm)
end Utf
def RetN (w : World) (x : Int × Nat) (e : Ending) (w' : World) : Prop := e = .returned (.tuple #[.int .i64 x.1, .int .i64 (x.2 : Nat)]) ∧ Below w.heap.size w w'

theorem value_q (c : Nat) (w : World) (h : c < 256) : Calls Tryz.prog 117 #[.int .u8 c] w fun e w' => e = .returned (.int .i64 ((c % 64 : Nat) : Int)) ∧ w' = w :=
  (value_is c w h).mono fun _ _ ⟨a, b⟩ => ⟨a, b.symm⟩
theorem below_drewU {B : Nat} {a w : World} (h : Below B a w) (n : Nat) : Below B a (w.drewN n) := ⟨h.os, h.tape, h.output, h.size, h.block⟩
/-- the value of a byte, whichever -/
def ValQ (w : World) : Prop := ∀ (c : Nat) (W : World), c < 256 → Calls Tryz.prog 117 #[.int .u8 c] W fun e w' => e = .returned (.int .i64 ((c % 64 : Nat) : Int)) ∧ w' = W
set_option maxHeartbeats 4000000 in
set_option maxRecDepth 1000000 in
theorem refNext_in (s : ByteArray) (p : Nat) (w : World) (h : p < s.size) (hs : s.size ≤ 140737488351232) :
    Calls Tryz.prog 111 #[.string s, .int .i64 p] w (RetN w (Utf.nx s p)) := by
  have h' : (p : Int) < s.size := by omega
  have hsz : (s.extract p s.size).size = s.size - p := by rw [ByteArray.size_extract]; omega
  have hgx := fun i h => Utf.gt_ext s p i h
  obtain ⟨X, hX⟩ : ∃ X, X = Utf.nx s p := ⟨_, rfl⟩
  rw [← hX]
  have HX : Hid (X = Utf.nx s p) := hX
  clear hX
  have d0 : decide ((p : Int) < 0) = false := by simp
  have d1 : decide (s.size ≤ p) = false := by simp; omega
  go_enter Tryz.func111, Tryz.ntmps111
  go_wp2
  generalize s.extract p s.size = S at hsz hgx ⊢
  have HG := Lib.hid hgx
  have TST := Lib.hid (fun k h => Utf.mt_test s S p k h hsz hgx)
  clear hgx
  go_loopw [21] (fun i wr => ∃ k : Nat, k ≤ 4 ∧ i = .int .i64 k ∧ Below w.heap.size w wr ∧ ∀ j, j < k → ¬ Utf.mt s p j) (fun i _ => 4 - (intOf i).toNat)
  case atStart => exact ⟨0, Nat.zero_le _, rfl, Below.refl _ _, fun j hj => by omega⟩
  case round =>
    obtain ⟨k, hk, rfl, hb, hno⟩ := hrel
    have NO := Lib.hid hno; have B0 := Lib.hid hb
    clear hno hb
    by_cases hk4 : k = 4
    · subst hk4
      have HN : Hid (Utf.nx s p = (-1, 1)) := Utf.nx_none s p fun j hj _ => NO.out j (by omega)
      go_wp2
      go_ret2
      exact ⟨by rw [HX.out, HN.out]; rfl, B0.out⟩
    · by_cases hfit : p + k + 1 ≤ s.size
      · have hE : ∃ E, E = Utf.enc (Utf.rk s p k : Nat) := ⟨_, rfl⟩
        obtain ⟨E, hE⟩ := hE
        obtain ⟨r, hr⟩ : ∃ r, r = Utf.rk s p k := ⟨_, rfl⟩
        have BY : Hid (∀ w', Calls Tryz.prog 118 #[.int .i64 r] w' (RetOwn w' 5 E)) := by
          rw [hE, ← hr]; exact refBytes3 (r : Int)
        have TT : Hid ((E == (S.extract 0 (k + 1)).toList) = true ↔ Utf.mt s p k) := by rw [hE]; exact TST.out k hfit
        have NM : Hid (Utf.mt s p k → X = ((r : Int), k + 1)) := fun hm => by rw [HX.out, Utf.nx_of_mt s p k (by omega) hm, hr]
        have NN : Hid (¬ Utf.mt s p k → ∀ j, j < k + 1 → ¬ Utf.mt s p j) := fun hm j hj => by
          rcases Nat.lt_or_ge j k with h1 | h1
          · exact NO.out j h1
          · obtain rfl : j = k := by omega
            exact hm
        have HR := Lib.hid hr
        clear hE hr TST NO
        have g0 := Utf.gt_at S 0 (by omega)
        rw [HG.out 0 (by omega), Nat.add_zero] at g0
        have hb0 := Utf.gt_lt s p
        rcases (show k = 0 ∨ k = 1 ∨ k = 2 ∨ k = 3 by omega) with rfl | rfl | rfl | rfl
        · have hrk : r = Utf.gt s p := HR.out
          rw [← hrk] at g0 hb0
          clear hrk HR
          have hS0 : (0 : Int) < S.size := by omega
          have hS1 : (1 : Int) ≤ S.size := by omega
          go_wp2
          go_region_law (go_simp; go_at_call 118; refine (BY.out _).mono ?_; rintro e w2 ⟨v2, rfl, hown2, hb2⟩; obtain ⟨_, p2, c2, rfl, _, _, lies2, _⟩ := own_lies hown2; have hcv := lies2.convert (P := Tryz.prog) E.length rfl c2 130 5 9 Tryz.underlying130 Tryz.underlying5 Tryz.underlying9; clear lies2 hown2)
          all_goals
            have B2 : Hid (Below w.heap.size w w2) := thenBelow B0.out (((Below.refl wr.heap.size wr).drew).trans hb2)
            clear hcv hb2
            revert TT
            simp only [Nat.zero_add, Nat.reduceAdd]
            generalize (E == (S.extract 0 1).toList) = tb
            intro TT
            cases tb with
            | true =>
              have HX2 := Lib.hid (NM.out (TT.out.1 rfl))
              clear TT NM NN
              go_wp2
              go_ret2
              exact ⟨by rw [HX2.out]; rfl, B2.out⟩
            | false =>
              have HN2 := Lib.hid (NN.out (fun hm => absurd (TT.out.2 hm) (by decide)))
              clear TT NM NN
              go_wp2
              go_roundw
              case rel => exact ⟨0 + 1, by omega, by go_num, B2.out, HN2.out⟩
              case measure => simp [intOf]
        · have g1 := Utf.gt_at S 1 (by omega)
          rw [HG.out 1 (by omega)] at g1
          have hb1 := Utf.gt_lt s (p + 1)
          have HRr : Hid (r = Utf.gt s p % 32 * 64 + Utf.gt s (p + 1) % 64) := HR.out
          clear HR
          generalize Utf.gt s p = a at g0 hb0 HRr
          generalize Utf.gt s (p + 1) = b at g1 hb1 HRr
          have VQ : Hid (ValQ w) := value_q
          have hS0 : (0 : Int) < S.size := by omega
          have hS1 : (1 : Int) < S.size := by omega
          have hSl : (1 : Int) + 1 ≤ S.size := by omega
          have hSm : (2 : Int) ≤ S.size := by omega
          go_wp2
          go_quiet ((go_at_call 117; exact Calls.quiet_of_same (VQ.out _ _ (by assumption))))
          have er : (a : Int) % 32 * 64 + (b : Int) % 64 = (r : Int) := by have := HRr.out; omega
          rw [er]
          clear er
          have HG0 := Lib.hid g0
          clear g0 g1
          go_wp2
          go_region_law (go_simp; go_at_call 118; refine (BY.out _).mono ?_; rintro e w2 ⟨v2, rfl, hown2, hb2⟩; obtain ⟨_, p2, c2, rfl, _, _, lies2, _⟩ := own_lies hown2; have hcv := lies2.convert (P := Tryz.prog) E.length rfl c2 130 5 9 Tryz.underlying130 Tryz.underlying5 Tryz.underlying9; clear lies2 hown2)
          all_goals
            have B2 : Hid (Below w.heap.size w w2) := thenBelow (below_drewU B0.out nq) (((Below.refl (wr.drewN nq).heap.size (wr.drewN nq)).drew).trans hb2)
            clear hcv hb2
            revert TT
            simp only [Nat.zero_add, Nat.reduceAdd]
            generalize (E == (S.extract 0 2).toList) = tb
            intro TT
            cases tb with
            | true =>
              have HX2 := Lib.hid (NM.out (TT.out.1 rfl))
              clear TT NM NN
              go_wp2
              go_ret2
              exact ⟨by rw [HX2.out]; rfl, B2.out⟩
            | false =>
              have HN2 := Lib.hid (NN.out (fun hm => absurd (TT.out.2 hm) (by decide)))
              clear TT NM NN
              go_wp2
              go_roundw
              case rel => exact ⟨1 + 1, by omega, by go_num, B2.out, HN2.out⟩
              case measure => simp [intOf]
        · have g1 := Utf.gt_at S 1 (by omega)
          rw [HG.out 1 (by omega)] at g1
          have hb1 := Utf.gt_lt s (p + 1)
          have g2 := Utf.gt_at S 2 (by omega)
          rw [HG.out 2 (by omega)] at g2
          have hb2 := Utf.gt_lt s (p + 2)
          have HRr : Hid (r = Utf.gt s p % 16 * 4096 + Utf.gt s (p + 1) % 64 * 64 + Utf.gt s (p + 2) % 64) := HR.out
          clear HR
          generalize Utf.gt s p = a at g0 hb0 HRr
          generalize Utf.gt s (p + 1) = b at g1 hb1 HRr
          generalize Utf.gt s (p + 2) = c at g2 hb2 HRr
          have VQ : Hid (ValQ w) := value_q
          have hS0 : (0 : Int) < S.size := by omega
          have hS1 : (1 : Int) < S.size := by omega
          have hS2 : (2 : Int) < S.size := by omega
          have hSl : (2 : Int) + 1 ≤ S.size := by omega
          have hSm : (3 : Int) ≤ S.size := by omega
          go_wp2
          go_quiet ((go_at_call 117; exact Calls.quiet_of_same (VQ.out _ _ (by assumption))))
          have er : (a : Int) % 16 * 4096 + (b : Int) % 64 * 64 + (c : Int) % 64 = (r : Int) := by have := HRr.out; omega
          rw [er]
          clear er
          have HG0 := Lib.hid g0
          clear g0 g1 g2
          go_wp2
          go_region_law (go_simp; go_at_call 118; refine (BY.out _).mono ?_; rintro e w2 ⟨v2, rfl, hown2, hb2⟩; obtain ⟨_, p2, c2, rfl, _, _, lies2, _⟩ := own_lies hown2; have hcv := lies2.convert (P := Tryz.prog) E.length rfl c2 130 5 9 Tryz.underlying130 Tryz.underlying5 Tryz.underlying9; clear lies2 hown2)
          all_goals
            have B2 : Hid (Below w.heap.size w w2) := thenBelow (below_drewU B0.out nq) (((Below.refl (wr.drewN nq).heap.size (wr.drewN nq)).drew).trans hb2)
            clear hcv hb2
            revert TT
            simp only [Nat.zero_add, Nat.reduceAdd]
            generalize (E == (S.extract 0 3).toList) = tb
            intro TT
            cases tb with
            | true =>
              have HX2 := Lib.hid (NM.out (TT.out.1 rfl))
              clear TT NM NN
              go_wp2
              go_ret2
              exact ⟨by rw [HX2.out]; rfl, B2.out⟩
            | false =>
              have HN2 := Lib.hid (NN.out (fun hm => absurd (TT.out.2 hm) (by decide)))
              clear TT NM NN
              go_wp2
              go_roundw
              case rel => exact ⟨2 + 1, by omega, by go_num, B2.out, HN2.out⟩
              case measure => simp [intOf]
        · have g1 := Utf.gt_at S 1 (by omega)
          rw [HG.out 1 (by omega)] at g1
          have hb1 := Utf.gt_lt s (p + 1)
          have g2 := Utf.gt_at S 2 (by omega)
          rw [HG.out 2 (by omega)] at g2
          have hb2 := Utf.gt_lt s (p + 2)
          have g3 := Utf.gt_at S 3 (by omega)
          rw [HG.out 3 (by omega)] at g3
          have hb3 := Utf.gt_lt s (p + 3)
          have HRr : Hid (r = Utf.gt s p % 8 * 262144 + Utf.gt s (p + 1) % 64 * 4096 + Utf.gt s (p + 2) % 64 * 64 + Utf.gt s (p + 3) % 64) := HR.out
          clear HR
          generalize Utf.gt s p = a at g0 hb0 HRr
          generalize Utf.gt s (p + 1) = b at g1 hb1 HRr
          generalize Utf.gt s (p + 2) = c at g2 hb2 HRr
          generalize Utf.gt s (p + 3) = d at g3 hb3 HRr
          have VQ : Hid (ValQ w) := value_q
          have hS0 : (0 : Int) < S.size := by omega
          have hS1 : (1 : Int) < S.size := by omega
          have hS2 : (2 : Int) < S.size := by omega
          have hS3 : (3 : Int) < S.size := by omega
          have hSl : (3 : Int) + 1 ≤ S.size := by omega
          have hSm : (4 : Int) ≤ S.size := by omega
          go_wp2
          go_quiet ((go_at_call 117; exact Calls.quiet_of_same (VQ.out _ _ (by assumption))))
          have er : (a : Int) % 8 * 262144 + (b : Int) % 64 * 4096 + (c : Int) % 64 * 64 + (d : Int) % 64 = (r : Int) := by have := HRr.out; omega
          rw [er]
          clear er
          have HG0 := Lib.hid g0
          clear g0 g1 g2 g3
          go_wp2
          go_region_law (go_simp; go_at_call 118; refine (BY.out _).mono ?_; rintro e w2 ⟨v2, rfl, hown2, hb2⟩; obtain ⟨_, p2, c2, rfl, _, _, lies2, _⟩ := own_lies hown2; have hcv := lies2.convert (P := Tryz.prog) E.length rfl c2 130 5 9 Tryz.underlying130 Tryz.underlying5 Tryz.underlying9; clear lies2 hown2)
          all_goals
            have B2 : Hid (Below w.heap.size w w2) := thenBelow (below_drewU B0.out nq) (((Below.refl (wr.drewN nq).heap.size (wr.drewN nq)).drew).trans hb2)
            clear hcv hb2
            revert TT
            simp only [Nat.zero_add, Nat.reduceAdd]
            generalize (E == (S.extract 0 4).toList) = tb
            intro TT
            cases tb with
            | true =>
              have HX2 := Lib.hid (NM.out (TT.out.1 rfl))
              clear TT NM NN
              go_wp2
              go_ret2
              exact ⟨by rw [HX2.out]; rfl, B2.out⟩
            | false =>
              have HN2 := Lib.hid (NN.out (fun hm => absurd (TT.out.2 hm) (by decide)))
              clear TT NM NN
              go_wp2
              go_roundw
              case rel => exact ⟨3 + 1, by omega, by go_num, B2.out, HN2.out⟩
              case measure => simp [intOf]
      · have HN : Hid (Utf.nx s p = (-1, 1)) := Utf.nx_none s p fun j hj hf => by
          rcases Nat.lt_or_ge j k with h1 | h1
          · exact NO.out j h1
          · omega
        have hk' : ¬ ((k : Int) + 1 ≤ ((s.size - p : Nat) : Int)) := by omega
        have hk3 : (k : Int) < 4 := by omega
        go_wp2
        go_ret2
        exact ⟨by rw [HX.out, HN.out]; rfl, B0.out⟩
end Go.Proofs.YtijmijokgenflaaGreatDoor
