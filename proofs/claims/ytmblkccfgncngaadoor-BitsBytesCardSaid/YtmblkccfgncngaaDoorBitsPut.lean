/- Has, Put, Cut of a set. -/
import Derived.Test.YtmblkccfgncngaaDoorBitsNew
import Derived.RegionTactic
import Derived.ChangeAlike
namespace Go.Proofs.YtmblkccfgncngaaDoor
open Go Go.RowKit

theorem bits_or_turn (f : Nat → Bool) (k : Nat) : bits .or .u64 ((Bit.word f (k / 64) : Nat) : Int) ((2 ^ (k % 64) : Nat) : Int) = ((Bit.word (Bit.turn f k true) (k / 64) : Nat) : Int) := by
  rw [u64_orN _ _ (Bit.word_lt _ _) (Bit.two_pow_lt _ (by omega)), Bit.turn_in]

theorem bits_andNot_turn (f : Nat → Bool) (k : Nat) : bits .andNot .u64 ((Bit.word f (k / 64) : Nat) : Int) ((2 ^ (k % 64) : Nat) : Int) = ((Bit.word (Bit.turn f k false) (k / 64) : Nat) : Int) := by
  rw [u64_andNotN _ _ (Bit.word_lt _ _) (Bit.two_pow_lt _ (by omega)), Bit.turn_out]
/-- a set in which one number has turned -/
def Turned (w : World) (a G n : Nat) (f : Nat → Bool) (e : Ending) (w' : World) : Prop := e = .returned (.bool true) ∧ St w' a G n f ∧ w.grownBy w' (some G)
theorem turned_mk {w : World} {a G n : Nat} {f : Nat → Bool} (h : St w a G n f) (k : Nat) (b : Bool) (hk : k < n) : Turned w a G n (Bit.turn f k b) (.returned (.bool true)) (w.setCell ⟨G, k / 64, none⟩ (.int .u64 ((Bit.word (Bit.turn f k b) (k / 64) : Nat) : Int))).drew := by
  refine ⟨rfl, (h.turn k b hk).below (Below.refl _ _).drew, ?_⟩
  have hg := grown_setCell w G (k / 64) (.int .u64 ((Bit.word (Bit.turn f k b) (k / 64) : Nat) : Int))
  exact ⟨hg.os, hg.tape, hg.output, hg.size, hg.block⟩

set_option maxHeartbeats 2000000 in
set_option maxRecDepth 100000 in
theorem put_in (a G n : Nat) (f : Nat → Bool) (k : Nat) (w : World) (h : St w a G n f) (hk : k < n) :
    Calls Tryd.prog 22 #[.pointer (some ⟨a, 0, none⟩), .int .i64 k] w (Turned w a G n (Bit.turn f k true)) := by
  have W := Lib.hid (within_is (some ⟨a, 0, none⟩) n k w h.sized true (by simp; omega))
  have T := Lib.hid (turned_mk h k true hk)
  have hle := h.le
  have hj : k / 64 < wcount n := by unfold wcount; omega
  have hc1 := h.c1
  have hcw := h.cell (k / 64) hj
  have hfr := h.free (k / 64)
  have hq : (k : Int) / 64 = ((k / 64 : Nat) : Int) := by omega
  have hr : (k : Int) % 64 = ((k % 64 : Nat) : Int) := by omega
  have hk0 : (0 : Int) ≤ k := by omega
  have hp := pow_u64 (k % 64) (by omega)
  have hor := bits_or_turn f k
  have hjI : ((k / 64 : Nat) : Int) < wcount n := by omega
  have hr64 : k % 64 < 64 := by omega
  generalize Bit.word f (k / 64) = x at hcw hor
  generalize Bit.word (Bit.turn f k true) (k / 64) = y at hor T
  generalize 2 ^ (k % 64) = P at hp hor
  generalize k / 64 = j at hq hcw hfr hjI hj hor T
  generalize k % 64 = r at hr hp hr64
  clear h
  go_enter Tryd.func22, Tryd.ntmps22
  go_wp2_with fail
  refine W.out.mono ?_
  rintro e w' ⟨rfl, rfl⟩
  go_wp2
  go_region
  all_goals
    go_wp2
    go_ret
    exact T.out

set_option maxHeartbeats 2000000 in
set_option maxRecDepth 100000 in
theorem cut_in (a G n : Nat) (f : Nat → Bool) (k : Nat) (w : World) (h : St w a G n f) (hk : k < n) :
    Calls Tryd.prog 28 #[.pointer (some ⟨a, 0, none⟩), .int .i64 k] w (Turned w a G n (Bit.turn f k false)) := by
  have W := Lib.hid (within_is (some ⟨a, 0, none⟩) n k w h.sized true (by simp; omega))
  have T := Lib.hid (turned_mk h k false hk)
  have hle := h.le
  have hj : k / 64 < wcount n := by unfold wcount; omega
  have hc1 := h.c1
  have hcw := h.cell (k / 64) hj
  have hfr := h.free (k / 64)
  have hq : (k : Int) / 64 = ((k / 64 : Nat) : Int) := by omega
  have hr : (k : Int) % 64 = ((k % 64 : Nat) : Int) := by omega
  have hk0 : (0 : Int) ≤ k := by omega
  have hp := pow_u64 (k % 64) (by omega)
  have hor := bits_andNot_turn f k
  have hjI : ((k / 64 : Nat) : Int) < wcount n := by omega
  have hr64 : k % 64 < 64 := by omega
  generalize Bit.word f (k / 64) = x at hcw hor
  generalize Bit.word (Bit.turn f k false) (k / 64) = y at hor T
  generalize 2 ^ (k % 64) = P at hp hor
  generalize k / 64 = j at hq hcw hfr hjI hj hor T
  generalize k % 64 = r at hr hp hr64
  clear h
  go_enter Tryd.func28, Tryd.ntmps28
  go_wp2_with fail
  refine W.out.mono ?_
  rintro e w' ⟨rfl, rfl⟩
  go_wp2
  go_region
  all_goals
    go_wp2
    go_ret
    exact T.out
theorem put_out (p : Option Addr) (n : Nat) (i : Int) (w : World) (h : Sized p n w) (hi : ¬ (0 ≤ i ∧ i < n)) :
    Calls Tryd.prog 22 #[.pointer p, .int .i64 i] w fun e w' => e = .returned (.bool false) ∧ w = w' := by
  have W := Lib.hid (within_is p n i w h false (by simpa using hi))
  clear h hi
  go_enter Tryd.func22, Tryd.ntmps22
  go_wp2_with fail
  refine W.out.mono ?_
  rintro e w' ⟨rfl, rfl⟩
  go_wp2
  go_ret
  exact ⟨rfl, rfl⟩
theorem cut_out (p : Option Addr) (n : Nat) (i : Int) (w : World) (h : Sized p n w) (hi : ¬ (0 ≤ i ∧ i < n)) :
    Calls Tryd.prog 28 #[.pointer p, .int .i64 i] w fun e w' => e = .returned (.bool false) ∧ w = w' := by
  have W := Lib.hid (within_is p n i w h false (by simpa using hi))
  clear h hi
  go_enter Tryd.func28, Tryd.ntmps28
  go_wp2_with fail
  refine W.out.mono ?_
  rintro e w' ⟨rfl, rfl⟩
  go_wp2
  go_ret
  exact ⟨rfl, rfl⟩
theorem has_out (p : Option Addr) (n : Nat) (i : Int) (w : World) (h : Sized p n w) (hi : ¬ (0 ≤ i ∧ i < n)) :
    Calls Tryd.prog 12 #[.pointer p, .int .i64 i] w fun e w' => e = .returned (.bool false) ∧ w = w' := by
  have W := Lib.hid (within_is p n i w h false (by simpa using hi))
  clear h hi
  go_enter Tryd.func12, Tryd.ntmps12
  go_wp2_with fail
  refine W.out.mono ?_
  rintro e w' ⟨rfl, rfl⟩
  go_wp2
  go_ret
  exact ⟨rfl, rfl⟩

theorem bit_and_one (x r : Nat) (hx : x < 18446744073709551616) : bits .and .u64 ((x / 2 ^ r : Nat) : Int) 1 = ((if x.testBit r then 1 else 0 : Nat) : Int) := by
  have h1 : x / 2 ^ r < 18446744073709551616 := Nat.lt_of_le_of_lt (Nat.div_le_self _ _) hx
  rw [show (1 : Int) = ((1 : Nat) : Int) from rfl, u64_andN _ _ h1 (by decide), show (1 : Nat) = 2 ^ 1 - 1 from rfl, Nat.and_two_pow_sub_one_eq_mod, show 2 ^ 1 = 2 from rfl, Bit.bit_is]

set_option maxHeartbeats 2000000 in
set_option maxRecDepth 100000 in
theorem has_in (a G n : Nat) (f : Nat → Bool) (k : Nat) (w : World) (h : St w a G n f) (hk : k < n) :
    Calls Tryd.prog 12 #[.pointer (some ⟨a, 0, none⟩), .int .i64 k] w fun e w' => e = .returned (.bool (f k)) ∧ w = w' := by
  have W := Lib.hid (within_is (some ⟨a, 0, none⟩) n k w h.sized true (by simp; omega))
  have hle := h.le
  have hj : k / 64 < wcount n := by unfold wcount; omega
  have hc1 := h.c1
  have hcw := h.cell (k / 64) hj
  have hq : (k : Int) / 64 = ((k / 64 : Nat) : Int) := by omega
  have hr : (k : Int) % 64 = ((k % 64 : Nat) : Int) := by omega
  have hk0 : (0 : Int) ≤ k := by omega
  have hbit := bit_and_one (Bit.word f (k / 64)) (k % 64) (Bit.word_lt _ _)
  have hjI : ((k / 64 : Nat) : Int) < wcount n := by omega
  have hr64 : k % 64 < 64 := by omega
  have hfk : (Bit.word f (k / 64)).testBit (k % 64) = f k := by
    rw [Bit.word_bit, show 64 * (k / 64) + k % 64 = k by omega]; simp [hr64]
  rw [hfk] at hbit
  generalize Bit.word f (k / 64) = x at hcw hbit
  have HE : Hid (((x : Int) / 2 ^ (k % 64)) = ((x / 2 ^ (k % 64) : Nat) : Int)) := by
    show ((x : Int) / 2 ^ (k % 64)) = ((x / 2 ^ (k % 64) : Nat) : Int)
    rw [pow_int]; rfl
  generalize f k = b at hbit ⊢
  generalize k / 64 = j at hq hcw hjI hj
  generalize k % 64 = r at hr hr64 hbit HE
  have HB := Lib.hid hbit
  clear h hfk hbit
  go_enter Tryd.func12, Tryd.ntmps12
  go_wp2_with fail
  refine W.out.mono ?_
  rintro e w' ⟨rfl, rfl⟩
  go_wp2
  go_ret
  exact ⟨ret_bool (by rw [HE.out, HB.out]; cases b <;> rfl), rfl⟩
end Go.Proofs.YtmblkccfgncngaaDoor
