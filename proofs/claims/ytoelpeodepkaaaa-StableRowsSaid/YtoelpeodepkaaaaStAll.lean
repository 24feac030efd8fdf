/- The matrix: Stable, the document's Stable, Lacks. -/
import Derived.Test.YtoelpeodepkaaaaStNote
import Derived.Test.YtoelpeodepkaaaaMemIntsOwn
import Derived.Test.YtoelpeodepkaaaaMemOne
namespace Go.Proofs.Ytoelpeodepkaaaa
open Go Go.RowKit

/-- the least of the first k rows, and of the first one -/
def stb (R : Nat → Nat → Int) : Nat → Nat → Int
  | 0 => R 0
  | k + 1 => fun j => min (stb R k j) (R k j)

set_option maxHeartbeats 2000000 in
set_option maxRecDepth 100000 in
theorem stable_in (a G n : Nat) (R : Nat → Nat → Int) (w : World) (h : Mx w a G n R) :
    Calls Try.prog 19 #[.pointer (some ⟨a, 0, none⟩)] w (RetVec w (stb R n)) := by
  have hle := h.le
  go_enter Try.func19, Try.ntmps19
  go_wp2_with (refine wpList_valloc vecI zeroV rfl rfl ?_)
  intro gr w1 lr rr hb
  have B := Lib.hid hb; have M := Lib.hid (h.later hb); have RR := Lib.hid rr
  have R0 := Lib.hid (row_in a G n R 0 w1 M.out h.pos)
  clear h hb rr
  go_wp2_with fail
  refine R0.out.mono ?_
  rintro e w2 ⟨rfl, hb2⟩
  have B2 := Lib.hid (thenBelow B.out hb2); have M2 := Lib.hid (M.out.later hb2); have RR2 := Lib.hid (RR.out.later hb2)
  clear hb2 R0
  go_wp2_with (refine wpList_valloc vecI zeroV rfl rfl ?_)
  intro gv w3 lv rv hb3
  have B3 := Lib.hid (thenBelow B2.out hb3); have M3 := Lib.hid (M2.out.later hb3); have RR3 := Lib.hid (RR2.out.later hb3); have RV3 := Lib.hid rv
  have hrv : gr < gv := Nat.lt_of_lt_of_le RR2.out.lt lv
  have hGv : G < gv := Nat.lt_of_lt_of_le M2.out.glt lv
  have hav : a < gv := Nat.lt_of_lt_of_le M2.out.alt lv
  have lwv := Nat.le_trans B2.out.size lv
  clear hb3 rv
  go_wp2_with (refine wpList_vstore vecI rfl _ _ rfl gv rfl _ rfl _ _ RV3.out ?_)
  intro w4 r4 g4 _
  have B4 := Lib.hid (B3.out.trans (grown_below g4 B3.out.size lwv)); have M4 := Lib.hid (M3.out.kept g4 (by simp; omega) (by simp; omega)); have RR4 := Lib.hid (RR3.out.kept g4 (by simp; omega)); have RV4 := Lib.hid r4
  have S4 := Lib.hid M4.out.sized.calls
  clear r4 g4
  go_wp2_with fail
  refine S4.out.mono ?_
  rintro e w' ⟨rfl, rfl⟩
  go_wp2
  go_loopw [9] (fun i wr => ∃ k : Nat, k ≤ n ∧ i = .int .i64 k ∧ Row wr gv 37 (stb R k) ∧ Mx wr a G n R ∧ Row wr gr 37 (fun _ => 0) ∧ Below w.heap.size w wr) (fun i _ => n - (intOf i).toNat)
  case atStart => exact ⟨0, by omega, rfl, RV4.out, M4.out, RR4.out, B4.out⟩
  case round =>
    obtain ⟨k, hk, rfl, hrv', hm, hrr, hb⟩ := hrel
    have RV := Lib.hid hrv'; have M := Lib.hid hm; have RR := Lib.hid hrr; have B := Lib.hid hb
    clear hrv' hm hrr hb
    by_cases hlt : k < n
    · have hkI : (k : Int) < n := by omega
      have hrow := Lib.hid (M.out.rows.row k hlt)
      have hc0 := cell_regrown M.out.c0
      have cJ := quiet_call (w := wr) (ownMeet_is (stb R k) (R k))
      go_wp2
      refine wp_region_below_tail 9 (by kernel_rfl) (by kernel_rfl) ?_
      simp only [List.take_succ_cons, List.take_zero, List.drop_succ_cons, List.drop_zero]
      refine wpQuiet_vload vecI rfl _ rfl gv rfl _ _ (fun _ h => RV.out.quiet h) ?_
      iterate 6 (quiet_step (fail))
      refine wpQuiet_vmid vecI rfl _ rfl G (k * 64) rfl _ (fun _ h => quiet_range hrow.out h) ?_
      quiet_step (exact cJ _ _)
      refine wpQuiet_nil ?_
      rintro _ ⟨⟨dq, osq⟩, rfl⟩
      have hb2 := below_regrown wr dq osq
      have M2 := Lib.hid (M.out.later hb2); have RR2 := Lib.hid (RR.out.later hb2); have RV2 := Lib.hid (RV.out.later hb2); have B2 := Lib.hid (thenBelow B.out hb2)
      generalize Sort.grow (redrawn wr dq) osq = wq at hb2 M2 RR2 RV2 B2
      clear hb2 hc0 cJ
      refine wpList_vstore vecI rfl _ _ rfl gv rfl _ rfl _ _ RV2.out ?_
      intro w5 r5 g5 _
      have R5 : Hid (Row w5 gv 37 (stb R (k + 1))) := r5
      have M5 := Lib.hid (M2.out.kept g5 (by simp; omega) (by simp; omega)); have RR5 := Lib.hid (RR2.out.kept g5 (by simp; omega)); have B5 := Lib.hid (B2.out.trans (grown_below g5 B2.out.size lwv))
      clear r5 g5
      go_wp2
      go_roundw
      case rel => exact ⟨k + 1, by omega, by go_num, R5.out, M5.out, RR5.out, B5.out⟩
      case measure => simp [intOf]; omega
    · obtain rfl : k = n := by omega
      have hlow : w.heap.size ≤ gr := lr
      go_wp2_with (first | refine wpList_vload vecI rfl _ rfl gv rfl _ _ RV.out ?_ | refine wpList_vstore vecI rfl _ _ rfl gr rfl _ rfl _ _ RR.out ?_)
      intro w5 r5 g5 _
      have R5 := Lib.hid r5; have B5 := Lib.hid (B.out.trans (grown_below g5 B.out.size hlow))
      clear r5 g5
      go_wp2
      exact vec_ret vecI rfl rfl rfl R5.out (fun _ _ => rfl) B5.out

set_option maxHeartbeats 2000000 in
set_option maxRecDepth 100000 in
theorem refStable_is (G n : Nat) (R : Nat → Nat → Int) (w : World) (h : Rws w G n R) (h0 : 0 < n) (hle : n ≤ 64) :
    Calls Try.prog 20 #[.slice (some ⟨G, 0, none⟩) n n] w (RetVec w (stb R n)) := by
  have hn0 : ((n : Int) == 0) = false := by simp; omega
  have hGlt := h.lt h0
  go_enter Try.func20, Try.ntmps20
  go_wp2_with (refine wpList_valloc vecI zeroV rfl rfl ?_)
  intro gr w1 lr rr hb
  have B := Lib.hid hb; have M := Lib.hid (h.later hb); have RR := Lib.hid rr
  have hrow0 := Lib.hid (M.out.row 0 h0)
  have h0I : (0 : Int) < n := by omega
  clear h hb rr
  go_wp2_with (first | refine wpList_vmid vecI rfl _ rfl G 0 rfl _ (by have := hrow0.out; rwa [Nat.zero_mul] at this) ?_ | refine wpList_valloc vecI zeroV rfl rfl ?_)
  intro gv w3 lv rv hb3
  have B3 := Lib.hid (thenBelow B.out hb3); have M3 := Lib.hid (M.out.later hb3); have RR3 := Lib.hid (RR.out.later hb3); have RV3 := Lib.hid rv
  have hrv : gr < gv := Nat.lt_of_lt_of_le RR.out.lt lv
  have hGv : G < gv := Nat.lt_of_lt_of_le (M.out.lt h0) lv
  have lwv := Nat.le_trans B.out.size lv
  clear hb3 rv hrow0
  go_wp2_with (refine wpList_vstore vecI rfl _ _ rfl gv rfl _ rfl _ _ RV3.out ?_)
  intro w4 r4 g4 _
  have B4 := Lib.hid (B3.out.trans (grown_below g4 B3.out.size lwv)); have M4 := Lib.hid (M3.out.kept g4 (by simp; omega)); have RR4 := Lib.hid (RR3.out.kept g4 (by simp; omega)); have RV4 := Lib.hid r4
  clear r4 g4
  go_wp2
  go_loopw [15] (fun i wr => ∃ k : Nat, k ≤ n ∧ i = .int .i64 k ∧ Row wr gv 37 (stb R k) ∧ Rws wr G n R ∧ Row wr gr 37 (fun _ => 0) ∧ Below w.heap.size w wr) (fun i _ => n - (intOf i).toNat)
  case atStart => exact ⟨0, by omega, rfl, RV4.out, M4.out, RR4.out, B4.out⟩
  case round =>
    obtain ⟨k, hk, rfl, hrv', hm, hrr, hb⟩ := hrel
    have RV := Lib.hid hrv'; have M := Lib.hid hm; have RR := Lib.hid hrr; have B := Lib.hid hb
    clear hrv' hm hrr hb
    by_cases hlt : k < n
    · have hkI : (k : Int) < n := by omega
      have hrow := Lib.hid (M.out.row k hlt)
      go_wp2_with (first | refine wpList_vmid vecI rfl _ rfl G (k * 64) rfl _ hrow.out ?_ | refine wpList_valloc vecI zeroV rfl rfl ?_)
      intro gx w5 lx rx hb5
      have B5 := Lib.hid (thenBelow B.out hb5); have M5 := Lib.hid (M.out.later hb5); have RR5 := Lib.hid (RR.out.later hb5); have RV5 := Lib.hid (RV.out.later hb5); have RX5 := Lib.hid rx
      have hvx : gv < gx := Nat.lt_of_lt_of_le RV.out.lt lx
      have hrx : gr < gx := Nat.lt_of_lt_of_le RR.out.lt lx
      have hGx : G < gx := Nat.lt_of_lt_of_le (M.out.lt h0) lx
      have lwx := Nat.le_trans B.out.size lx
      clear hb5 rx
      go_wp2_with (refine wpList_vstore vecI rfl _ _ rfl gx rfl _ rfl _ _ RX5.out ?_)
      intro w6 r6 g6 _
      have B6 := Lib.hid (B5.out.trans (grown_below g6 B5.out.size lwx)); have M6 := Lib.hid (M5.out.kept g6 (by simp; omega)); have RR6 := Lib.hid (RR5.out.kept g6 (by simp; omega)); have RV6 := Lib.hid (RV5.out.kept g6 (by simp; omega)); have RX6 := Lib.hid r6
      clear r6 g6
      have cJ := Lib.hid (refMeet_is (stb R k) (R k) w6)
      go_wp2_with (first | refine wpList_vload vecI rfl _ rfl gv rfl _ _ RV6.out ?_ | refine wpList_vload vecI rfl _ rfl gx rfl _ _ RX6.out ?_)
      refine cJ.out.mono ?_
      rintro e w7 ⟨rfl, hb7⟩
      have B7 := Lib.hid (thenBelow B6.out hb7); have M7 := Lib.hid (M6.out.later hb7); have RR7 := Lib.hid (RR6.out.later hb7); have RV7 := Lib.hid (RV6.out.later hb7)
      clear hb7 cJ
      go_wp2_with (refine wpList_vstore vecI rfl _ _ rfl gv rfl _ rfl _ _ RV7.out ?_)
      intro w8 r8 g8 _
      have R8 : Hid (Row w8 gv 37 (stb R (k + 1))) := r8
      have M8 := Lib.hid (M7.out.kept g8 (by simp; omega)); have RR8 := Lib.hid (RR7.out.kept g8 (by simp; omega)); have B8 := Lib.hid (B7.out.trans (grown_below g8 B7.out.size lwv))
      clear r8 g8
      go_wp2
      go_roundw
      case rel => exact ⟨k + 1, by omega, by go_num, R8.out, M8.out, RR8.out, B8.out⟩
      case measure => simp [intOf]; omega
    · obtain rfl : k = n := by omega
      have hlow : w.heap.size ≤ gr := lr
      go_wp2_with (first | refine wpList_vload vecI rfl _ rfl gv rfl _ _ RV.out ?_ | refine wpList_vstore vecI rfl _ _ rfl gr rfl _ rfl _ _ RR.out ?_)
      intro w5 r5 g5 _
      have R5 := Lib.hid r5; have B5 := Lib.hid (B.out.trans (grown_below g5 B.out.size hlow))
      clear r5 g5
      go_wp2
      exact vec_ret vecI rfl rfl rfl R5.out (fun _ _ => rfl) B5.out

/-- the places up to k whose rows have not all of f -/
def lk (R : Nat → Nat → Int) (f : Nat → Int) : Nat → List Int
  | 0 => []
  | k + 1 => lk R f k ++ if vle f (R k) then [] else [(k : Int)]
theorem lk_len (R : Nat → Nat → Int) (f : Nat → Int) (k : Nat) : (lk R f k).length ≤ k := by
  induction k with
  | zero => simp [lk]
  | succ k ih => simp only [lk, List.length_append]; split <;> simp <;> omega

set_option maxHeartbeats 2000000 in
set_option maxRecDepth 100000 in
theorem lacks_in (a G n : Nat) (R : Nat → Nat → Int) (f : Nat → Int) (w : World) (h : Mx w a G n R) :
    Calls Try.prog 22 #[.pointer (some ⟨a, 0, none⟩), .agg (vf f)] w (RetInts w 3 (lk R f n)) := by
  have hle := h.le
  have hal := h.alt
  have hGl := h.glt
  go_enter Try.func22, Try.ntmps22
  go_wp2_with (refine wpList_vbox vecI rfl _ rfl f rfl ?_)
  intro gf w1 lf rf hb
  have B := Lib.hid hb; have M := Lib.hid (h.later hb); have RF := Lib.hid rf
  have S4 := Lib.hid M.out.sized.calls
  clear h hb rf
  go_wp2_with fail
  refine S4.out.mono ?_
  rintro e w' ⟨rfl, rfl⟩
  go_wp2
  go_loopw [5, 9] (fun v i wr => ∃ k : Nat, k ≤ n ∧ i = .int .i64 k ∧ wr.ownsRow w.heap.size 3 1 v (lk R f k).length (ints (lk R f k)) ∧ Mx wr a G n R ∧ Row wr gf 37 f ∧ Below w.heap.size w wr) (fun _ i _ => n - (intOf i).toNat)
  case atStart => exact ⟨0, by omega, rfl, ⟨rfl, .inl ⟨rfl, rfl⟩⟩, M.out, RF.out, B.out⟩
  case round =>
    obtain ⟨k, hk, rfl, hown, hm, hrf, hb⟩ := hrel
    have O := Lib.hid hown; have M := Lib.hid hm; have RF := Lib.hid hrf; have B := Lib.hid hb
    have hz := hb.size
    have hll := lk_len R f k
    clear hown hm hrf hb
    by_cases hlt : k < n
    · have hkI : (k : Int) < n := by omega
      have hrow := Lib.hid (M.out.rows.row k hlt)
      have hc0 := cell_regrown M.out.c0
      have cJ := quiet_call (w := wr) (ownWithin_is f (R k))
      have LK : Hid (lk R f (k + 1) = lk R f k ++ if vle f (R k) then [] else [(k : Int)]) := rfl
      generalize vle f (R k) = y at cJ LK
      go_wp2
      refine wp_region_quiet_below (by kernel_rfl) (by kernel_rfl) ?_
      refine wpQuiet_vload vecI rfl _ rfl gf rfl _ _ (fun _ h => RF.out.quiet h) ?_
      iterate 6 (quiet_step (fail))
      refine wpQuiet_vmid vecI rfl _ rfl G (k * 64) rfl _ (fun _ h => quiet_range hrow.out h) ?_
      quiet_step (exact cJ _ _)
      quiet_step (fail)
      refine wpQuiet_nil ?_
      intro _ hw'
      obtain ⟨⟨dq, osq⟩, hw''⟩ := hw'
      subst hw''
      have hb2 := below_regrown wr dq osq
      have M2 := Lib.hid (M.out.later hb2); have O2 := Lib.hid (ownI_later O.out hb2); have RF2 := Lib.hid (RF.out.later hb2); have B2 := Lib.hid (thenBelow B.out hb2)
      have hz2 := B2.out.size
      generalize Sort.grow (redrawn wr dq) osq = wq at hb2 M2 RF2 O2 B2 hz2
      clear hb2 hc0 cJ
      cases y with
      | true =>
        have LK2 : Hid (lk R f (k + 1) = lk R f k) := by have := LK.out; rw [if_pos rfl, List.append_nil] at this; exact this
        go_wp2
        go_roundw
        case rel => exact ⟨k + 1, by omega, by go_num, by rw [LK2.out]; exact O2.out, M2.out, RF2.out, B2.out⟩
        case measure => simp [intOf]; omega
      | false =>
        have LK2 : Hid (lk R f (k + 1) = lk R f k ++ [(k : Int)]) := by have := LK.out; rw [if_neg (by decide)] at this; exact this
        go_wp2_with (at_builtin; refine wpList_one (z := .int .i64 0) (b := 8) ⟨Try.underlying45, infoI64, rfl, by decide, by decide⟩ _ rfl _ _ rfl w.heap.size (lk R f k).length (ints (lk R f k)) _ rfl O2.out (.int .i64 k) rfl rfl (by omega) hz2 ?_)
        intro v' w6 hown6 hb6 hst6
        have O6 : Hid (w6.ownsRow w.heap.size 3 1 v' (lk R f (k + 1)).length (ints (lk R f (k + 1)))) := by
          show World.ownsRow _ _ _ _ _ _ _
          rw [LK2.out, ints_append, List.length_append]; exact hown6
        have M6 := Lib.hid (M2.out.under hb6 hal hGl); have RF6 : Hid (Row w6 gf 37 f) := hst6 gf _ _ _ RF2.out (by decide); have B6 := Lib.hid (B2.out.trans hb6)
        clear hown6 hb6 hst6
        go_wp2
        go_roundw
        case rel => exact ⟨k + 1, by omega, by go_num, O6.out, M6.out, RF6.out, B6.out⟩
        case measure => simp [intOf]; omega
    · obtain rfl : k = n := by omega
      go_wp2
      go_ret
      exact RetInts.of_own O.out rfl B.out
end Go.Proofs.Ytoelpeodepkaaaa
