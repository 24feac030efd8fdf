/- The document's own set: Has, Rank, Next, List. -/
import Derived.Test.YtmblkccfgncngaaDoorBitsMade
namespace Go.Proofs.YtmblkccfgncngaaDoor
open Go Go.RowKit

/-- whether a number is in, of any -/
def inF (f : Nat → Bool) (n : Nat) (i : Int) : Bool := decide (0 ≤ i ∧ i < n) && f i.toNat
theorem inF_in {f : Nat → Bool} {n k : Nat} (h : k < n) : inF f n k = f k := by unfold inF; rw [decide_eq_true (by omega)]; simp
theorem inF_out {f : Nat → Bool} {n : Nat} {i : Int} (h : ¬ (0 ≤ i ∧ i < n)) : inF f n i = false := by unfold inF; rw [decide_eq_false h]; rfl
theorem has_any (a G n : Nat) (f : Nat → Bool) (i : Int) (w : World) (h : St w a G n f) : Calls Tryd.prog 12 #[.pointer (some ⟨a, 0, none⟩), .int .i64 i] w fun e w' => e = .returned (.bool (inF f n i)) ∧ w = w' := by
  by_cases hi : 0 ≤ i ∧ i < n
  · obtain ⟨k, rfl⟩ := Int.eq_ofNat_of_zero_le hi.1
    rw [inF_in (by omega)]
    exact has_in a G n f k w h (by omega)
  · rw [inF_out hi]
    exact has_out _ n i w h.sized hi
theorem refHas_any (a G n : Nat) (f : Nat → Bool) (i : Int) (w : World) (h : RSt w a G n f) : Calls Tryd.prog 13 #[.pointer (some ⟨a, 0, none⟩), .int .i64 i] w fun e w' => e = .returned (.bool (inF f n i)) ∧ w = w' := by
  have hc0 := h.c0
  have hle := h.le
  by_cases h0 : 0 ≤ i
  · obtain ⟨k, rfl⟩ := Int.eq_ofNat_of_zero_le h0
    by_cases hk : k < n
    · have hcell := h.cell k hk
      have hk' : (k : Int) < n := by omega
      have hk0 : (k : Int) ≥ 0 := by omega
      rw [inF_in hk]
      clear h
      generalize f k = b at hcell ⊢
      go_enter Tryd.func13, Tryd.ntmps13
      go_wp2
      go_ret
      exact ⟨ret_bool (by first | rfl | (simp; done)), rfl⟩
    · have hk' : ¬ (k : Int) < n := by omega
      have hk0 : (k : Int) ≥ 0 := by omega
      rw [inF_out (by omega)]
      clear h
      go_enter Tryd.func13, Tryd.ntmps13
      go_wp2
      go_ret
      exact ⟨ret_bool (by first | rfl | (simp; done) | (simp; omega)), rfl⟩
  · rw [inF_out (by omega)]
    have hk0 : ¬ i ≥ 0 := by omega
    clear h
    go_enter Tryd.func13, Tryd.ntmps13
    go_wp2
    go_ret
    exact ⟨ret_bool (by first | rfl | (simp; done) | (simp; omega)), rfl⟩

/-- how many below a number, of any -/
def upto (n : Nat) (i : Int) : Nat := (min (max i 0) (n : Int)).toNat
theorem upto_is (n : Nat) (i : Int) : ((upto n i : Nat) : Int) = min (max i 0) n := by unfold upto; omega
theorem upto_succ {n k : Nat} {i : Int} (hk : k < n) : (k < i → upto (k + 1) i = k + 1 ∧ upto k i = k) ∧ (¬ k < i → upto (k + 1) i = upto k i) := by unfold upto; omega
set_option maxHeartbeats 2000000 in
set_option maxRecDepth 100000 in
theorem refRank_any (a G n : Nat) (f : Nat → Bool) (i : Int) (w : World) (h : RSt w a G n f) : Calls Tryd.prog 15 #[.pointer (some ⟨a, 0, none⟩), .int .i64 i] w fun e w' => e = .returned (.int .i64 (Bit.cnt f (upto n i) : Nat)) ∧ w = w' := by
  have hc0 := h.c0
  have hle := h.le
  have H : Hid (∀ j, j < n → w.cell? ⟨G, j, none⟩ = some (.bool (f j))) := h.cell
  clear h
  go_enter Tryd.func15, Tryd.ntmps15
  go_wp2
  go_loop [5, 13] (fun c j => ∃ k : Nat, k ≤ n ∧ j = .int .i64 k ∧ c = .int .i64 (Bit.cnt f (upto k i) : Nat)) (fun _ j => n - (intOf j).toNat)
  case atStart => exact ⟨0, Nat.zero_le _, rfl, by rw [show upto 0 i = 0 by unfold upto; omega]; rfl⟩
  case round =>
    obtain ⟨k, hk, rfl, rfl⟩ := hrel
    have hcl := Bit.cnt_le f (upto k i)
    have hul : upto k i ≤ k := by unfold upto; omega
    by_cases hlt : k < n
    · have hcell := H.out k hlt
      have hlt' : (k : Int) < n := by omega
      obtain ⟨q1, q2⟩ := upto_succ (i := i) hlt
      have E : (Bit.cnt f (upto (k + 1) i) : Nat) = Bit.cnt f (upto k i) + if (f k && decide ((k : Int) < i)) then 1 else 0 := by
        by_cases hki : (k : Int) < i
        · obtain ⟨e1, e2⟩ := q1 hki
          rw [e1, e2]
          simp [Bit.cnt, hki]
        · rw [q2 hki]; simp [hki]
      clear q1 q2
      generalize Bit.cnt f (upto k i) = c at hcl E
      cases hf : f k with
      | true =>
        rw [hf] at hcell E
        by_cases hki : (k : Int) < i
        · rw [decide_eq_true hki] at E
          have E2 := Lib.hid E
          clear E hf
          go_wp2
          go_round
          case rel => exact ⟨k + 1, by omega, by go_num, by have := E2.out; simp at this; rw [this]; go_num⟩
          case measure => simp [intOf]; omega
        · rw [decide_eq_false hki] at E
          have E2 := Lib.hid E
          clear E hf
          go_wp2
          go_round
          case rel => exact ⟨k + 1, by omega, by go_num, by have := E2.out; simp at this; rw [this]⟩
          case measure => simp [intOf]; omega
      | false =>
        rw [hf] at hcell E
        have E2 := Lib.hid E
        clear E hf
        go_wp2
        go_round
        case rel => exact ⟨k + 1, by omega, by go_num, by have := E2.out; simp at this; rw [this]⟩
        case measure => simp [intOf]; omega
    · obtain rfl : k = n := by omega
      have hlt' : ¬ (k : Int) < k := by omega
      generalize hc : Bit.cnt f (upto k i) = c at hcl ⊢
      have HC := Lib.hid hc
      clear hc
      go_wp2
      go_ret
      exact ⟨by rw [HC.out]; rfl, rfl⟩

set_option maxHeartbeats 2000000 in
set_option maxRecDepth 100000 in
theorem refNext_any (a G n : Nat) (f : Nat → Bool) (i : Int) (w : World) (h : RSt w a G n f) : Calls Tryd.prog 17 #[.pointer (some ⟨a, 0, none⟩), .int .i64 i] w fun e w' => (∃ r : Int, e = .returned (.int .i64 r) ∧ Bit.IsNext f n i.toNat r) ∧ w = w' := by
  have hc0 := h.c0
  have hle := h.le
  have H : Hid (∀ j, j < n → w.cell? ⟨G, j, none⟩ = some (.bool (f j))) := h.cell
  clear h
  go_enter Tryd.func17, Tryd.ntmps17
  go_wp2
  go_loop [12] (fun j => ∃ k : Nat, k ≤ n ∧ j = .int .i64 k ∧ ∀ m, i.toNat ≤ m → m < k → f m = false) (fun j => n - (intOf j).toNat)
  case atStart => exact ⟨0, Nat.zero_le _, rfl, fun m _ h => by omega⟩
  case round =>
    obtain ⟨k, hk, rfl, hno⟩ := hrel
    have NO := Lib.hid hno
    clear hno
    by_cases hlt : k < n
    · have hcell := H.out k hlt
      have hlt' : (k : Int) < n := by omega
      cases hf : f k with
      | true =>
        rw [hf] at hcell
        by_cases hki : i ≤ (k : Int)
        · have hki' : (k : Int) ≥ i := hki
          have R : Hid (Bit.IsNext f n i.toNat (k : Int)) := .inl ⟨k, rfl, by omega, hlt, hf, NO.out⟩
          clear hf
          go_wp2
          go_ret
          exact ⟨⟨_, rfl, R.out⟩, rfl⟩
        · have hki' : ¬ (k : Int) ≥ i := hki
          have NO2 : Hid (∀ m, i.toNat ≤ m → m < k + 1 → f m = false) := fun m h1 h2 => by omega
          clear hf
          go_wp2
          go_round
          case rel => exact ⟨k + 1, by omega, by go_num, NO2.out⟩
          case measure => simp [intOf]; omega
      | false =>
        rw [hf] at hcell
        have NO2 : Hid (∀ m, i.toNat ≤ m → m < k + 1 → f m = false) := fun m h1 h2 => by
          rcases Nat.lt_succ_iff_lt_or_eq.1 h2 with h3 | rfl
          · exact NO.out m h1 h3
          · exact hf
        clear hf
        go_wp2
        go_round
        case rel => exact ⟨k + 1, by omega, by go_num, NO2.out⟩
        case measure => simp [intOf]; omega
    · obtain rfl : k = n := by omega
      have hlt' : ¬ (k : Int) < k := by omega
      go_wp2
      go_ret
      exact ⟨⟨_, rfl, .inr ⟨rfl, fun m h1 h2 => NO.out m h1 h2⟩⟩, rfl⟩

set_option maxHeartbeats 2000000 in
set_option maxRecDepth 100000 in
theorem refList_is (a G n : Nat) (f : Nat → Bool) (w : World) (h : RSt w a G n f) : Calls Tryd.prog 43 #[.pointer (some ⟨a, 0, none⟩)] w (RetInts w 3 (castsN (Bit.nums f n))) := by
  have hle := h.le
  have hc0 := h.c0
  have H := Lib.hid h
  clear h
  go_enter Tryd.func43, Tryd.ntmps43
  go_wp2
  go_loopw [3, 11] (fun v i wr => ∃ k : Nat, k ≤ n ∧ i = .int .i64 k ∧ wr.ownsRow w.heap.size 3 1 v (Bit.nums f k).length (ints (castsN (Bit.nums f k))) ∧ Below w.heap.size w wr) (fun _ i _ => n - (intOf i).toNat)
  case atStart => exact ⟨0, Nat.zero_le _, rfl, World.ownsRow_nil _ _ _ _, Below.refl _ _⟩
  case round =>
    obtain ⟨k, hk, rfl, hown, hb⟩ := hrel
    have O := Lib.hid hown; have B := Lib.hid hb
    have hz := hb.size
    have hnl : (Bit.nums f k).length ≤ 65536 := by rw [Bit.nums_len]; have := Bit.cnt_le f k; omega
    clear hown hb
    by_cases hlt : k < n
    · have hcell := (H.out.below B.out).cell k hlt
      have hlt' : (k : Int) < n := by omega
      cases hf : f k with
      | true =>
        rw [hf] at hcell
        have NS : Hid (Bit.nums f (k + 1) = Bit.nums f k ++ [k]) := by show Bit.nums f (k + 1) = _; simp [Bit.nums, hf]
        clear hf
        go_wp2_with (at_builtin; refine wpList_int isI64 _ rfl _ _ rfl w.heap.size (Bit.nums f k).length (castsN (Bit.nums f k)) _ rfl O.out _ rfl (by omega) hz ?_)
        intro v4 w4 hown4 hb4
        have O4 : Hid (w4.ownsRow w.heap.size 3 1 v4 (Bit.nums f (k + 1)).length (ints (castsN (Bit.nums f (k + 1))))) := by
          show w4.ownsRow w.heap.size 3 1 v4 (Bit.nums f (k + 1)).length (ints (castsN (Bit.nums f (k + 1))))
          rw [NS.out, List.length_append]
          have e : castsN (Bit.nums f k ++ [k]) = castsN (Bit.nums f k) ++ [(k : Int)] := by simp [castsN]
          rw [e]; exact hown4
        have B4 := Lib.hid (B.out.trans hb4)
        clear hown4 hb4
        go_wp2
        go_roundw
        case rel => exact ⟨k + 1, by omega, by go_num, O4.out, B4.out⟩
        case measure => simp [intOf]; omega
      | false =>
        rw [hf] at hcell
        have NS : Hid (Bit.nums f (k + 1) = Bit.nums f k) := by show Bit.nums f (k + 1) = _; simp [Bit.nums, hf]
        clear hf
        go_wp2
        go_roundw
        case rel => exact ⟨k + 1, by omega, by go_num, by rw [NS.out]; exact O.out, B.out⟩
        case measure => simp [intOf]; omega
    · obtain rfl : k = n := by omega
      have hlt' : ¬ (k : Int) < k := by omega
      go_wp2
      go_ret
      exact ⟨_, rfl, by rw [castsN_len]; exact O.out, B.out⟩
end Go.Proofs.YtmblkccfgncngaaDoor
