/- List of a set. -/
import Derived.Test.YtmblkccfgncngaaDoorBitsAwake
import Derived.Test.YtmblkccfgncngaaDoorMemIntsOwn
namespace Go.Proofs.YtmblkccfgncngaaDoor
open Go Go.RowKit

namespace Bit
/-- the numbers below m that f has -/
def nums (f : Nat → Bool) : Nat → List Nat
  | 0 => []
  | m + 1 => nums f m ++ if f m then [m] else []
theorem nums_len (f : Nat → Bool) (m : Nat) : (nums f m).length = cnt f m := by
  induction m with
  | zero => rfl
  | succ m ih => simp only [nums, cnt, List.length_append, ih]; split <;> simp
theorem nums_still (f : Nat → Bool) (m : Nat) : ∀ d, (∀ i, m ≤ i → i < m + d → f i = false) → nums f (m + d) = nums f m := by
  intro d
  induction d with
  | zero => intro _; rfl
  | succ d ih =>
    intro h
    rw [← Nat.add_assoc]
    simp only [nums]
    rw [ih (fun i h1 h2 => h i h1 (by omega)), h (m + d) (by omega) (by omega)]
    simp
theorem nums_next (f : Nat → Bool) (m k : Nat) (hk : m ≤ k) (hf : f k = true) (h : ∀ i, m ≤ i → i < k → f i = false) : nums f (k + 1) = nums f m ++ [k] := by
  obtain ⟨d, rfl⟩ := Nat.exists_eq_add_of_le hk
  simp only [nums]
  rw [nums_still f m d h, if_pos hf]
end Bit
/-- how much is left behind a place -/
def lef (n : Nat) (r : Int) : Nat := if r < 0 then 0 else n + 1 - r.toNat
theorem lef_lt (n k : Nat) (r : Int) (hk : k < n) (h : r = -1 ∨ (k : Int) + 1 ≤ r) : lef n r < lef n (k : Int) := by
  unfold lef
  rw [if_neg (show ¬ ((k : Int) < 0) by omega)]
  split <;> omega
def castsN (l : List Nat) : List Int := l.map fun (n : Nat) => (n : Int)
theorem castsN_len (l : List Nat) : (castsN l).length = l.length := by simp [castsN]

/-- Next of any place not below 0, within or not -/
theorem next_any (a G n : Nat) (f : Nat → Bool) (m : Nat) (w : World) (h : St w a G n f) (hT : DeB w) : Calls Tryd.prog 16 #[.pointer (some ⟨a, 0, none⟩), .int .i64 m] w (RetNext w f n m) := by
  by_cases hm : m < n
  · exact next_nat a G n f m w h hT hm
  · exact (next_out _ n m w h.sized h.le (by omega)).mono fun e w' ⟨h1, h2⟩ => ⟨-1, h1, .inr ⟨rfl, fun i h3 h4 => by omega⟩, by subst h2; exact Below.refl _ _⟩

set_option maxHeartbeats 2000000 in
set_option maxRecDepth 100000 in
theorem list_is (a G n : Nat) (f : Nat → Bool) (w : World) (h : St w a G n f) (hT : DeB w) : Calls Tryd.prog 40 #[.pointer (some ⟨a, 0, none⟩)] w (RetInts w 3 (castsN (Bit.nums f n))) := by
  have hle := h.le
  have CT := Lib.hid (count_is a G n f w h)
  have H := Lib.hid h; have HT := Lib.hid hT
  have hcl := Bit.cnt_le f n
  generalize Bit.cnt f n = c at CT hcl
  clear h hT
  go_enter Tryd.func40, Tryd.ntmps40
  go_wp2_with fail
  refine CT.out.mono ?_
  rintro e w1 ⟨rfl, hb1⟩
  have B1 := Lib.hid hb1
  clear CT hb1
  go_wp2_with (refine wpList_mk (z := .int .i64 0) (b := 8) ⟨Tryd.underlying53, infoI64, rfl, by decide, by decide⟩ _ rfl _ _ rfl _ _ _ c rfl rfl rfl (by omega) ?_)
  intro v2 w2 hown2 hb2
  have B2 := Lib.hid (thenBelow B1.out hb2)
  have O2 : Hid (w2.ownsRow w.heap.size 3 1 v2 0 []) := by
    show w2.ownsRow w.heap.size 3 1 v2 0 []
    have hz := B1.out.size
    refine ⟨hown2.1, ?_⟩
    rcases hown2.2 with q | ⟨g, cap, cur, q1, q2, q3⟩
    · exact .inl q
    · exact .inr ⟨g, cap, cur, q1, Nat.le_trans hz q2, q3⟩
  have N0 := Lib.hid (next_any a G n f 0 w2 (H.out.below B2.out) (HT.out.below B2.out))
  clear hown2 hb2
  go_wp2_with fail
  refine N0.out.mono ?_
  rintro e w3 ⟨r, rfl, hr, hb3⟩
  have B3 := Lib.hid (thenBelow B2.out hb3)
  have O3 := Lib.hid (ownI_later O2.out hb3)
  have HR := Lib.hid hr
  clear hr hb3 N0
  go_wp2
  go_loopw [3, 4] (fun v i wr => ∃ (r : Int) (m : Nat), i = .int .i64 r ∧ m ≤ n ∧ Bit.IsNext f n m r ∧ wr.ownsRow w.heap.size 3 1 v (Bit.nums f m).length (ints (castsN (Bit.nums f m))) ∧ Below w.heap.size w wr) (fun _ i _ => lef n (intOf i))
  case atStart => exact ⟨r, 0, rfl, Nat.zero_le _, HR.out, O3.out, B3.out⟩
  case round =>
    obtain ⟨r, m, rfl, hm, hr, hown, hb⟩ := hrel
    have O := Lib.hid hown; have B := Lib.hid hb
    have hz := hb.size
    have hnl : (Bit.nums f m).length ≤ 65536 := by rw [Bit.nums_len]; have := Bit.cnt_le f m; omega
    clear hown hb
    rcases hr with ⟨k, rfl, hk1, hk2, hk3, hk4⟩ | ⟨rfl, hno⟩
    · have NS := Lib.hid (Bit.nums_next f m k hk1 hk3 hk4)
      clear hk4 hk3
      have hk0 : (k : Int) ≥ 0 := by omega
      go_wp2_with (at_builtin; refine wpList_int isI64 _ rfl _ _ rfl w.heap.size (Bit.nums f m).length (castsN (Bit.nums f m)) _ rfl O.out _ rfl (by omega) hz ?_)
      intro v4 w4 hown4 hb4
      have O4 : Hid (w4.ownsRow w.heap.size 3 1 v4 (Bit.nums f (k + 1)).length (ints (castsN (Bit.nums f (k + 1))))) := by
        show w4.ownsRow w.heap.size 3 1 v4 (Bit.nums f (k + 1)).length (ints (castsN (Bit.nums f (k + 1))))
        rw [NS.out, List.length_append]
        have e : castsN (Bit.nums f m ++ [k]) = castsN (Bit.nums f m) ++ [(k : Int)] := by simp [castsN]
        rw [e]; exact hown4
      have B4 := Lib.hid (B.out.trans hb4)
      have NX := Lib.hid (next_any a G n f (k + 1) w4 (H.out.below B4.out) (HT.out.below B4.out))
      have e1 : ((k + 1 : Nat) : Int) = (k : Int) + 1 := by omega
      rw [e1] at NX
      clear hown4 hb4 e1
      go_wp2_with fail
      refine NX.out.mono ?_
      rintro e w5 ⟨r5, rfl, hr5, hb5⟩
      have O5 := Lib.hid (ownI_later O4.out hb5); have B5 := Lib.hid (thenBelow B4.out hb5); have R5 := Lib.hid hr5
      have hr5b : r5 = -1 ∨ ((k : Int) + 1 ≤ r5) := by
        rcases hr5 with ⟨k', rfl, h1, _⟩ | ⟨rfl, _⟩
        · exact .inr (by omega)
        · exact .inl rfl
      clear hr5 hb5 NX
      go_wp2
      go_roundw
      case rel => exact ⟨r5, k + 1, rfl, by omega, R5.out, O5.out, B5.out⟩
      case measure => exact lef_lt n k r5 hk2 hr5b
    · have NS : Hid (Bit.nums f n = Bit.nums f m) := by
        obtain ⟨d, rfl⟩ := Nat.exists_eq_add_of_le hm
        exact Bit.nums_still f m d hno
      clear hno
      go_wp2
      go_ret
      exact ⟨_, rfl, by rw [castsN_len, NS.out]; exact O.out, B.out⟩
end Go.Proofs.YtmblkccfgncngaaDoor
