/- The walk of UtfBack. -/
import Derived.Test.YtmejaomglfaloaaDoorUtfBack
import Derived.Test.YtmejaomglfaloaaDoorUtfValid
import Derived.Test.YtmejaomglfaloaaDoorOpen
namespace Go.Proofs.YtmejaomglfaloaaDoor
open Go Go.RowKit

theorem Lies.begin {w : World} {p : Option Addr} {l : List UInt8} (h : Lies w p l) (m : Nat) : Lies w p (l.take m) := by
  intro h0
  obtain ⟨b, o, e, hc⟩ := h (fun e => h0 (by rw [e]; simp))
  refine ⟨b, o, e, fun i hi => ?_⟩
  simp only [List.length_take] at hi
  rw [hc i (by omega)]
  simp [List.getD, show i < m from by omega]
theorem int_rangeB {n : Int} (h : (Lit.int .i64 n).wf = true) : -9223372036854775808 ≤ n ∧ n ≤ 9223372036854775807 := by
  simp [Lit.wf, IntKind.min, IntKind.max, IntKind.bits, IntKind.signed] at h; omega
theorem size_arr (L : List UInt8) : (⟨L.toArray⟩ : ByteArray).size = L.length := by
  show L.toArray.size = _
  simp
theorem enc_no (r : Int) (h : Utf.sg r = false) : Utf.enc r = [] := by unfold Utf.enc; rw [h]; rfl
theorem enc_yes (r : Int) (h : Utf.sg r = true) : (Utf.enc r).length = Utf.sh r + 1 := by unfold Utf.enc; rw [h]; exact Utf.encK_len _ _

set_option maxHeartbeats 2000000 in
set_option maxRecDepth 100000 in
theorem utfBack_walk (p : Option Addr) (c : Nat) (l : List UInt8) (r : Int) (W : World) (h : Came W p c l) (hr : (Lit.int .i64 r).wf = true) (hT : Shapes W) :
    Calls Tryd.prog 6 #[.slice p l.length c, .int .i64 r] W (Yes W) := by
  have hrr := int_rangeB hr
  have hle := h.le
  have hreach := h.reach
  obtain ⟨hr1, hr2⟩ := hrr
  have LI := Lib.hid h.lies; have NO := Lib.hid h.none
  have HT := Lib.hid hT
  clear h hr hT
  obtain ⟨l', hl'⟩ : ∃ l', l' = l.take 4096 := ⟨_, rfl⟩
  have hll : l'.length = min 4096 l.length := by rw [hl', List.length_take]
  have LI' : Hid (Lies W p l') := by rw [hl']; exact LI.out.begin 4096
  have hput := put_is p c l' r W LI'.out (fun e => ⟨by rw [hl', (NO.out e).1]; simp, (NO.out e).2⟩) (by omega) HT.out
  have HSZ : Hid (l'.length ≤ 4096) := by show l'.length ≤ 4096; omega
  by_cases hbig : l.length ≤ 4096
  · have hM : l'.length = l.length := by omega
    rw [hM] at hput
    have PUT := Lib.hid hput; have HM := Lib.hid hM
    clear hput hM hl' hll
    go_enter Tryd.func6, Tryd.ntmps6
    go_wp2_with fail
    refine PUT.out.mono ?_
    rintro e w1 ⟨v1, rfl, hown, hb⟩
    obtain ⟨L, hL⟩ : ∃ L, L = l' ++ Utf.enc r := ⟨_, rfl⟩
    rw [← hL] at hown
    obtain ⟨_, p2, c2, rfl, hle2, _, lies2, _⟩ := own_lies hown
    have hLl : L.length = l'.length + (Utf.enc r).length := by rw [hL, List.length_append]
    have hcv := lies2.convert (P := Tryd.prog) L.length rfl c2 22 5 9 Tryd.underlying22 Tryd.underlying5 Tryd.underlying9
    have T1 := Lib.hid (HT.out.below hb); have B1 := Lib.hid hb
    have L2 := Lib.hid lies2; have L1 := Lib.hid (LI'.out.below hb)
    have his := Lib.hid (sign_is r w1); have aw := Lib.hid (awake3 w1 T1.out)
    have hsz := size_arr L
    cases hsv : Utf.sg r with
    | false =>
      have hee := enc_no r hsv
      have hLe : L = l' := by rw [hL, hee, List.append_nil]
      have hnx := next_out ⟨L.toArray⟩ (l'.length : Nat) w1 (.inr (by rw [hsz, hLe]; exact Int.le_refl _))
      rw [HM.out] at hnx
      have heq := equal_any p2 p L.length l'.length c2 c L l' w1 L2.out L1.out rfl rfl
      rw [hLe] at heq
      rw [HM.out] at heq
      have hlen2 : L.length = l'.length := by rw [hLe]
      rw [HM.out] at hlen2
      have NX := Lib.hid hnx; have EQ := Lib.hid heq
      unfold Hid at his
      rw [hsv] at his
      have IS := Lib.hid his
      clear hown hle2 lies2 hb hL hLl hnx heq his hsv hee hLe
      rw [hlen2] at hcv ⊢
      clear hlen2
      go_wp2_with fail
      refine NX.out.mono ?_
      rintro e w' ⟨rfl, rfl⟩
      go_wp2_with fail
      refine IS.out.mono ?_
      rintro e w' ⟨rfl, rfl⟩
      go_wp2_with fail
      refine EQ.out.mono ?_
      rintro e w' ⟨rfl, rfl⟩
      go_wp2_with fail
      refine aw.out.mono ?_
      rintro e w' ⟨rfl, rfl⟩
      go_wp2_with fail
      go_ret
      exact ⟨ret_bool (by first | rfl | (simp; done)), B1.out⟩
    | true =>
      have hey := enc_yes r hsv
      have hsl := Utf.sh_le r
      have hfd := Utf.found l' r hsv
      rw [← hL] at hfd
      have hnx := next_in ⟨L.toArray⟩ l'.length w1 (by rw [hsz]; omega) (by rw [hsz]; have := HSZ.out; omega) T1.out
      rw [hfd, HM.out] at hnx
      rw [hey, HM.out] at hLl
      unfold Hid at his
      rw [hsv] at his
      have NX := Lib.hid hnx; have IS := Lib.hid his
      generalize Utf.sh r = k at hsl NX hLl
      clear hown hle2 lies2 hb hL hnx his hsv hfd hey hsz
      obtain ⟨N, hN⟩ : ∃ N, N = L.length := ⟨_, rfl⟩
      rw [← hN] at hcv hLl ⊢
      have hsub : (N : Int) - (l.length : Int) = (k : Int) + 1 := by omega
      have hNb : N ≤ 140737488355328 := by omega
      clear hLl hN
      go_wp2_with fail
      refine NX.out.mono ?_
      rintro e w' ⟨rfl, rfl⟩
      go_wp2_with fail
      refine IS.out.mono ?_
      rintro e w' ⟨rfl, rfl⟩
      go_wp2_with fail
      refine aw.out.mono ?_
      rintro e w' ⟨rfl, rfl⟩
      go_wp2_with fail
      go_ret
      exact ⟨ret_bool (by first | rfl | (simp; done) | (simp; omega)), B1.out⟩
  · have hM : l'.length = 4096 := by omega
    rw [hM] at hput
    have PUT := Lib.hid hput; have HM := Lib.hid hM
    clear hput hM hl' hll
    go_enter Tryd.func6, Tryd.ntmps6
    go_wp2_with fail
    refine PUT.out.mono ?_
    rintro e w1 ⟨v1, rfl, hown, hb⟩
    obtain ⟨L, hL⟩ : ∃ L, L = l' ++ Utf.enc r := ⟨_, rfl⟩
    rw [← hL] at hown
    obtain ⟨_, p2, c2, rfl, hle2, _, lies2, _⟩ := own_lies hown
    have hLl : L.length = l'.length + (Utf.enc r).length := by rw [hL, List.length_append]
    have hcv := lies2.convert (P := Tryd.prog) L.length rfl c2 22 5 9 Tryd.underlying22 Tryd.underlying5 Tryd.underlying9
    have T1 := Lib.hid (HT.out.below hb); have B1 := Lib.hid hb
    have L2 := Lib.hid lies2; have L1 := Lib.hid (LI'.out.below hb)
    have his := Lib.hid (sign_is r w1); have aw := Lib.hid (awake3 w1 T1.out)
    have hsz := size_arr L
    cases hsv : Utf.sg r with
    | false =>
      have hee := enc_no r hsv
      have hLe : L = l' := by rw [hL, hee, List.append_nil]
      have hnx := next_out ⟨L.toArray⟩ (l'.length : Nat) w1 (.inr (by rw [hsz, hLe]; exact Int.le_refl _))
      rw [HM.out] at hnx
      have heq := equal_any p2 p L.length l'.length c2 c L l' w1 L2.out L1.out rfl rfl
      rw [hLe] at heq
      rw [HM.out] at heq
      have hlen2 : L.length = l'.length := by rw [hLe]
      rw [HM.out] at hlen2
      have NX := Lib.hid hnx; have EQ := Lib.hid heq
      unfold Hid at his
      rw [hsv] at his
      have IS := Lib.hid his
      clear hown hle2 lies2 hb hL hLl hnx heq his hsv hee hLe
      rw [hlen2] at hcv ⊢
      clear hlen2
      go_wp2_with fail
      refine NX.out.mono ?_
      rintro e w' ⟨rfl, rfl⟩
      go_wp2_with fail
      refine IS.out.mono ?_
      rintro e w' ⟨rfl, rfl⟩
      go_wp2_with fail
      refine EQ.out.mono ?_
      rintro e w' ⟨rfl, rfl⟩
      go_wp2_with fail
      refine aw.out.mono ?_
      rintro e w' ⟨rfl, rfl⟩
      go_wp2_with fail
      go_ret
      exact ⟨ret_bool (by first | rfl | (simp; done)), B1.out⟩
    | true =>
      have hey := enc_yes r hsv
      have hsl := Utf.sh_le r
      have hfd := Utf.found l' r hsv
      rw [← hL] at hfd
      have hnx := next_in ⟨L.toArray⟩ l'.length w1 (by rw [hsz]; omega) (by rw [hsz]; have := HSZ.out; omega) T1.out
      rw [hfd, HM.out] at hnx
      rw [hey, HM.out] at hLl
      unfold Hid at his
      rw [hsv] at his
      have NX := Lib.hid hnx; have IS := Lib.hid his
      generalize Utf.sh r = k at hsl NX hLl
      clear hown hle2 lies2 hb hL hnx his hsv hfd hey hsz
      obtain ⟨N, hN⟩ : ∃ N, N = L.length := ⟨_, rfl⟩
      rw [← hN] at hcv hLl ⊢
      have hsub : (N : Int) - 4096 = (k : Int) + 1 := by omega
      have hNb : N ≤ 140737488355328 := by omega
      clear hLl hN
      go_wp2_with fail
      refine NX.out.mono ?_
      rintro e w' ⟨rfl, rfl⟩
      go_wp2_with fail
      refine IS.out.mono ?_
      rintro e w' ⟨rfl, rfl⟩
      go_wp2_with fail
      refine aw.out.mono ?_
      rintro e w' ⟨rfl, rfl⟩
      go_wp2_with fail
      go_ret
      exact ⟨ret_bool (by first | rfl | (simp; done) | (simp; omega)), B1.out⟩
end Go.Proofs.YtmejaomglfaloaaDoor
