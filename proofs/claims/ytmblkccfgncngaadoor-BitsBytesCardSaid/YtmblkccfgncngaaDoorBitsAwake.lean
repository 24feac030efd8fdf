/- Count of a set; the example that each law of layer 5 ends with. -/
import Derived.Test.YtmblkccfgncngaaDoorBitsNext
namespace Go.Proofs.YtmblkccfgncngaaDoor
open Go Go.RowKit

theorem count_is (a G n : Nat) (f : Nat → Bool) (w : World) (h : St w a G n f) : Calls Tryd.prog 21 #[.pointer (some ⟨a, 0, none⟩)] w (RetC w (Bit.cnt f n)) := by
  have S := Lib.hid h.sized.calls
  have hle := h.le
  by_cases hn : n = 0
  · subst hn
    have R := Lib.hid (rank_none (some ⟨a, 0, none⟩) 0 w h.sized (by omega) (by omega))
    clear h
    go_enter Tryd.func21, Tryd.ntmps21
    go_wp2_with fail
    refine S.out.mono ?_
    rintro e w' ⟨rfl, rfl⟩
    go_wp2_with fail
    refine R.out.mono ?_
    rintro e w' ⟨rfl, rfl⟩
    go_wp2
    go_ret
    exact ⟨rfl, Below.refl _ _⟩
  · have R := Lib.hid (rank_is a G n f n n w h (by omega) (by omega) (by omega) (by omega))
    clear h
    generalize Bit.cnt f n = c at R ⊢
    go_enter Tryd.func21, Tryd.ntmps21
    go_wp2_with fail
    refine S.out.mono ?_
    rintro e w' ⟨rfl, rfl⟩
    go_wp2_with fail
    refine R.out.mono ?_
    rintro e w1 ⟨rfl, hb⟩
    have B := Lib.hid hb
    go_wp2
    go_ret
    exact ⟨rfl, B.out⟩
theorem turned_below {w w' : World} {a G n B : Nat} {f : Nat → Bool} {e : Ending} (h : Turned w a G n f e w') (hG : B ≤ G) (hw : B ≤ w.heap.size) : Below B w w' :=
  (Below.refl B w).grown h.2.2 hw (fun k hk => by have := Option.some.inj hk; omega)
/-- 3 and 68 of 70 -/
def ex5 : Nat → Bool := Bit.turn (Bit.turn (fun _ => false) 3 true) 68 true
theorem ex5_cnt : Bit.cnt ex5 68 = 1 := by decide +kernel
theorem ex5_at (i : Nat) : ex5 i = (decide (i = 3) || decide (i = 68)) := by
  unfold ex5 Bit.turn
  by_cases h1 : i = 68
  · simp [h1]
  · by_cases h2 : i = 3
    · simp [h2]
    · simp [h1, h2]
theorem ex5_next4 {r : Int} (h : Bit.IsNext ex5 70 4 r) : r = 68 := by
  refine h.unique (.inl ⟨68, rfl, by omega, by omega, by rw [ex5_at]; rfl, fun m h1 h2 => ?_⟩)
  rw [ex5_at]; simp; omega
theorem ex5_next69 {r : Int} (h : Bit.IsNext ex5 70 69 r) : r = -1 := by
  refine h.unique (.inr ⟨rfl, fun m h1 h2 => ?_⟩)
  rw [ex5_at]; simp; omega

set_option maxHeartbeats 2000000 in
theorem awake5 (w : World) (hT : DeB w) : Calls Tryd.prog 18 #[] w (Yes w) := by
  have HT := Lib.hid hT
  have N := Lib.hid (newSet 70 70 w (by omega) (by omega) (by omega))
  clear hT
  go_enter Tryd.func18, Tryd.ntmps18
  go_wp2_with fail
  refine N.out.mono ?_
  rintro e w1 ⟨a, G, rfl, ha, hG, hst, hb⟩
  have P1 := Lib.hid (put_in a G 70 _ 3 w1 hst (by omega))
  have B1 := Lib.hid hb
  clear hst hb N
  go_wp2_with fail
  refine P1.out.mono ?_
  intro e w2 ht2
  have B2 := Lib.hid (B1.out.trans (turned_below ht2 hG B1.out.size))
  obtain ⟨rfl, hst2, _⟩ := ht2
  have P2 := Lib.hid (put_in a G 70 _ 68 w2 hst2 (by omega))
  clear hst2 P1
  go_wp2_with fail
  refine P2.out.mono ?_
  intro e w3 ht3
  have B3 := Lib.hid (B2.out.trans (turned_below ht3 hG B2.out.size))
  obtain ⟨rfl, hst3, _⟩ := ht3
  have S3 : Hid (St w3 a G 70 ex5) := hst3
  have P3 := Lib.hid (put_out (some ⟨a, 0, none⟩) 70 70 w3 hst3.sized (by omega))
  have R3 := Lib.hid (rank_is a G 70 ex5 68 68 w3 S3.out (by omega) (by omega) (by omega) (by omega))
  rw [ex5_cnt] at R3
  clear hst3 P2
  go_wp2_with fail
  refine P3.out.mono ?_
  rintro e w' ⟨rfl, rfl⟩
  go_wp2_with fail
  refine R3.out.mono ?_
  rintro e w4 ⟨rfl, hb4⟩
  have B4 := Lib.hid (B3.out.trans (hb4.mono B3.out.size))
  have S4 := Lib.hid (S3.out.below hb4)
  have T4 := Lib.hid (HT.out.below (B4.out))
  have X4 := Lib.hid (next_nat a G 70 ex5 4 w4 S4.out T4.out (by omega))
  clear hb4 R3 P3
  go_wp2_with fail
  refine X4.out.mono ?_
  rintro e w5 ⟨r, rfl, hr, hb5⟩
  obtain rfl := ex5_next4 hr
  have B5 := Lib.hid (B4.out.trans (hb5.mono B4.out.size))
  have S5 := Lib.hid (S4.out.below hb5)
  have X5 := Lib.hid (next_nat a G 70 ex5 69 w5 S5.out (HT.out.below B5.out) (by omega))
  clear hb5 X4 hr
  go_wp2_with fail
  refine X5.out.mono ?_
  rintro e w6 ⟨r, rfl, hr, hb6⟩
  obtain rfl := ex5_next69 hr
  have B6 := Lib.hid (B5.out.trans (hb6.mono B5.out.size))
  clear hb6 X5 hr
  go_wp2
  go_ret
  exact ⟨ret_bool (by first | rfl | (simp; done)), B6.out⟩
end Go.Proofs.YtmblkccfgncngaaDoor
