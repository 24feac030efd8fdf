/- The walk of BitsRanks. -/
import Derived.Test.YtemlmnkimdkamaaDoorBitsMade
namespace Go.Proofs.YtemlmnkimdkamaaDoor
open Go Go.RowKit

theorem int_range5 {n : Int} (h : (Lit.int .i64 n).wf = true) : -9223372036854775808 ≤ n ∧ n ≤ 9223372036854775807 := by
  simp [Lit.wf, IntKind.min, IntKind.max, IntKind.bits, IntKind.signed] at h; omega
namespace Bit
theorem isNext_here {f : Nat → Bool} {n k : Nat} {r : Int} (h : IsNext f n k r) (hk : k < n) : (f k = true → r = k) ∧ (f k = false → r ≠ k ∧ IsNext f n (k + 1) r) := by
  rcases h with ⟨j, rfl, h1, h2, h3, h4⟩ | ⟨rfl, h1⟩
  · constructor
    · intro hf
      rcases Nat.lt_or_ge k j with e | e
      · have := h4 k (Nat.le_refl _) e; rw [hf] at this; cases this
      · omega
    · intro hf
      have hne : k ≠ j := by rintro rfl; rw [hf] at h3; cases h3
      exact ⟨by omega, .inl ⟨j, rfl, by omega, h2, h3, fun m a b => h4 m (by omega) b⟩⟩
  · constructor
    · intro hf
      have := h1 k (Nat.le_refl _) hk; rw [hf] at this; cases this
    · intro hf
      exact ⟨by omega, .inr ⟨rfl, fun m a b => h1 m (by omega) b⟩⟩
theorem isNext_end {f : Nat → Bool} {n : Nat} {r : Int} (h : IsNext f n n r) : r = -1 := by
  rcases h with ⟨j, rfl, h1, h2, _⟩ | ⟨rfl, _⟩
  · omega
  · rfl
theorem isNext_lo {f : Nat → Bool} {n m : Nat} {r : Int} (h : IsNext f n m r) : -1 ≤ r ∧ r ≤ n := by
  rcases h with ⟨j, rfl, h1, h2, _⟩ | ⟨rfl, _⟩ <;> omega
end Bit

set_option maxHeartbeats 4000000 in
set_option maxRecDepth 100000 in
theorem bitsRanks_walk (x : Int) (p : Option Addr) (c : Nat) (l : List (Int × Int)) (W : World) (hx : (Lit.int .i64 x).wf = true) (h : CameD W p c l) (hT : DeB W) :
    Calls Tryd.prog 8 #[.int .i64 x, .slice p l.length c] W (Yes W) := by
  obtain ⟨x1, x2⟩ := int_range5 hx
  obtain ⟨n, hn⟩ : ∃ n : Nat, (n : Int) = min (max x 0) 2000 := ⟨(min (max x 0) 2000).toNat, by omega⟩
  have hre := h.reach
  have M := Lib.hid (made_is x n p c l W x1 x2 hn h.lies h.le (by omega))
  have HT := Lib.hid hT
  have hn6 : n ≤ 2000 := by omega
  clear hx h hT hn x1 x2
  go_enter Tryd.func8, Tryd.ntmps8
  go_wp2_with fail
  refine M.out.mono ?_
  rintro e w1 ⟨a, G, a2, G2, f, rfl, hG, hG2, hst, _, hb⟩
  have B1 := Lib.hid hb; have S1 := Lib.hid hst
  have NX := Lib.hid (next_any a G n f 0 w1 hst (HT.out.below hb))
  clear hst hb M
  go_wp2_with fail
  refine NX.out.mono ?_
  rintro e w2 ⟨r, rfl, hr, hb2⟩
  have B2 := Lib.hid (B1.out.trans (hb2.mono B1.out.size)); have S2 := Lib.hid (S1.out.below hb2); have R2 := Lib.hid hr
  have SZ := Lib.hid (S2.out.sized.calls)
  clear hr hb2 NX S1 B1
  go_wp2_with fail
  refine SZ.out.mono ?_
  rintro e w' ⟨rfl, rfl⟩
  clear SZ
  go_wp2
  go_loopw [8, 9, 22] (fun ct nx i wr => ∃ (k : Nat) (r : Int), k ≤ n ∧ i = .int .i64 k ∧ ct = .int .i64 (Bit.cnt f k : Nat) ∧ nx = .int .i64 r ∧ Bit.IsNext f n k r ∧ St wr a G n f ∧ Below W.heap.size W wr) (fun _ _ i _ => n - (intOf i).toNat)
  case atStart => exact ⟨0, r, Nat.zero_le _, rfl, rfl, rfl, R2.out, S2.out, B2.out⟩
  case round =>
    obtain ⟨k, r, hk, rfl, rfl, rfl, hr, hst, hb⟩ := hrel
    have S := Lib.hid hst; have B := Lib.hid hb; have R := Lib.hid hr
    have hz := hb.size
    have hlo := Bit.isNext_lo hr
    have hck := Bit.cnt_le f k
    obtain ⟨lo1, lo2⟩ := hlo
    clear hst hb hr
    by_cases hlt : k < n
    · have hlt' : (k : Int) < n := by omega
      have RK := Lib.hid (rank_is a G n f k k wr S.out (by omega) (by omega) (by omega) (by omega))
      have HH := Lib.hid (fun w h => has_in a G n f k w h hlt)
      obtain ⟨hy, hno⟩ := Bit.isNext_here R.out hlt
      have CS : Hid (Bit.cnt f (k + 1) = Bit.cnt f k + if f k then 1 else 0) := rfl
      cases hf : f k with
      | true =>
        obtain rfl := hy hf
        have CS2 : Hid (Bit.cnt f (k + 1) = Bit.cnt f k + 1) := by have := CS.out; rw [hf] at this; exact this
        rw [hf] at HH
        clear hy hno hf CS
        generalize Bit.cnt f k = ct at RK hck CS2
        go_wp2_with fail
        refine RK.out.mono ?_
        rintro e w3 ⟨rfl, hb3⟩
        have B3 := Lib.hid (B.out.trans (hb3.mono hz)); have S3 := Lib.hid (S.out.below hb3)
        clear RK hb3
        go_wp2_with fail
        refine (HH.out w3 S3.out).mono ?_
        rintro e w' ⟨rfl, rfl⟩
        go_wp2_with fail
        refine (HH.out w3 S3.out).mono ?_
        rintro e w' ⟨rfl, rfl⟩
        have NX := Lib.hid (next_any a G n f (k + 1) w3 S3.out (HT.out.below B3.out))
        have e1 : ((k + 1 : Nat) : Int) = (k : Int) + 1 := by omega
        rw [e1] at NX
        clear e1
        go_wp2_with fail
        refine NX.out.mono ?_
        rintro e w4 ⟨r4, rfl, hr4, hb4⟩
        have B4 := Lib.hid (B3.out.trans (hb4.mono B3.out.size)); have S4 := Lib.hid (S3.out.below hb4); have R4 := Lib.hid hr4
        clear NX hb4 hr4
        go_wp2
        go_roundw
        case rel => exact ⟨k + 1, r4, by omega, by go_num, by rw [CS2.out]; go_num, rfl, R4.out, S4.out, B4.out⟩
        case measure => simp [intOf]; omega
      | false =>
        obtain ⟨hne, hn1⟩ := hno hf
        have R1 := Lib.hid hn1
        have CS2 : Hid (Bit.cnt f (k + 1) = Bit.cnt f k) := by have := CS.out; rw [hf] at this; exact this
        rw [hf] at HH
        clear hy hno hf CS hn1
        generalize Bit.cnt f k = ct at RK hck CS2
        go_wp2_with fail
        refine RK.out.mono ?_
        rintro e w3 ⟨rfl, hb3⟩
        have B3 := Lib.hid (B.out.trans (hb3.mono hz)); have S3 := Lib.hid (S.out.below hb3)
        clear RK hb3
        go_wp2_with fail
        refine (HH.out w3 S3.out).mono ?_
        rintro e w' ⟨rfl, rfl⟩
        go_wp2_with fail
        refine (HH.out w3 S3.out).mono ?_
        rintro e w' ⟨rfl, rfl⟩
        go_wp2
        go_roundw
        case rel => exact ⟨k + 1, r, by omega, by go_num, by rw [CS2.out], rfl, R1.out, S3.out, B3.out⟩
        case measure => simp [intOf]; omega
    · obtain rfl : k = n := by omega
      have hlt' : ¬ (k : Int) < k := by omega
      obtain rfl := Bit.isNext_end R.out
      have CT := Lib.hid (count_is a G k f wr S.out)
      clear R
      generalize Bit.cnt f k = ct at CT hck
      go_wp2_with fail
      refine CT.out.mono ?_
      rintro e w3 ⟨rfl, hb3⟩
      have B3 := Lib.hid (B.out.trans (hb3.mono hz))
      have AW := Lib.hid (awake5 w3 (HT.out.below B3.out))
      clear CT hb3
      go_wp2_with fail
      refine AW.out.mono ?_
      rintro e w4 ⟨rfl, hb4⟩
      have B4 := Lib.hid (B3.out.trans (hb4.mono B3.out.size))
      go_wp2
      go_ret
      exact ⟨ret_bool (by first | rfl | (simp; done)), B4.out⟩
end Go.Proofs.YtemlmnkimdkamaaDoor
