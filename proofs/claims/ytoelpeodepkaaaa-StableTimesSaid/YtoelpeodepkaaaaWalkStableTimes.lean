/- The walk of StableTimes. -/
import Derived.Test.YtoelpeodepkaaaaStWrites
namespace Go.Proofs.Ytoelpeodepkaaaa
open Go Go.RowKit
set_option linter.unusedVariables false

set_option maxHeartbeats 4000000 in
set_option maxRecDepth 100000 in
theorem stableTimes_walk (t : Int) (A B : List Value) (p : Option Addr) (n c : Nat) (E : Nat → List Value) (W : World) (ht : (Lit.int .i64 t).wf = true) (hA : IsWrite A) (hB : IsWrite B) (hl : CameR W p n c 6 IsWrite E) :
    Calls Try.prog 3 #[.int .i64 t, .agg A.toArray, .agg B.toArray, .slice p n c] W (Yes W) := by
  obtain ⟨ar, am, at', af, ad, ax, rfl, _⟩ := hA
  obtain ⟨br, bm, bt, bf, bd, bx, rfl, _⟩ := hB
  obtain ⟨T, hT⟩ := hl.writes
  have HT := Lib.hid hT
  have hle := hT.le; have hmx := hT.max
  unfold maxLen at hmx
  clear hl hT ht
  have N1 := Lib.hid (next_is t); have N2 := Lib.hid (refNext_is t)
  generalize nextN t = x1 at N1 N2
  generalize nextE t = x2 at N1 N2
  go_enter Try.func3, Try.ntmps3
  go_wp2_with (refine wpList_gbox rfl _ rfl (wcs ar am at' af ad ax) rfl ?_)
  intro ga w1 la hA hb1
  have B1 := Lib.hid hb1; have A1 := Lib.hid (range_of_block hA)
  clear hA hb1
  go_wp2_with (refine wpList_gbox rfl _ rfl (wcs br bm bt bf bd bx) rfl ?_)
  intro gb w2 lb hB hb2
  have B2 := Lib.hid (thenBelow B1.out hb2); have A2 := Lib.hid (range_below A1.out hb2); have C2 := Lib.hid (range_of_block hB)
  clear hB hb2
  go_wp2_with fail
  refine (N1.out _).mono ?_
  rintro e w' ⟨rfl, rfl⟩
  go_wp2_with fail
  refine (N2.out _).mono ?_
  rintro e w' ⟨rfl, rfl⟩
  have CW := Lib.hid (writeCompare_is ar am at' af br bm bt bf ad ax bd bx w2)
  have q1 := cmpW_lt ar am at' br bm bt
  have q2 := cmpW_gt ar am at' br bm bt
  have L1 := Lib.hid (ahead_is ar am at' af br bm bt bf ad ax bd bx)
  have L2 := Lib.hid (ahead_is br bm bt bf ar am at' af bd bx ad ax)
  generalize aheadW ar am at' br bm bt = y1 at q1 L1
  generalize aheadW br bm bt ar am at' = y2 at q2 L2
  generalize cmpW ar am at' br bm bt = y at CW q1 q2
  go_wp2_with (first | refine wpList_gload rfl _ rfl ga 0 rfl _ A2.out _ Try.underlying25 rfl sizeW ?_ | refine wpList_gload rfl _ rfl gb 0 rfl _ C2.out _ Try.underlying25 rfl sizeW ?_)
  refine CW.out.mono ?_
  rintro e w3 ⟨rfl, hb3⟩
  have B3 := Lib.hid (thenBelow B2.out hb3); have A3 := Lib.hid (range_below A2.out hb3); have C3 := Lib.hid (range_below C2.out hb3)
  clear hb3 CW
  go_wp2
  go_loopw [14, 32] (fun v i wr => ∃ k : Nat, k ≤ n ∧ i = .int .i64 k ∧ v = .int .i64 (lat T k) ∧ wr.rangeAt ga 0 (wcs ar am at' af ad ax).toList ∧ wr.rangeAt gb 0 (wcs br bm bt bf bd bx).toList ∧ Below W.heap.size W wr) (fun _ i _ => n - (intOf i).toNat)
  case atStart => exact ⟨0, by omega, rfl, rfl, A3.out, C3.out, B3.out⟩
  case round =>
    obtain ⟨k, hk, rfl, rfl, hAr, hCr, hb⟩ := hrel
    have B := Lib.hid hb; have AR := Lib.hid hAr; have CR := Lib.hid hCr
    clear hb hAr hCr
    by_cases hlt : k < n
    · obtain ⟨b, o, rfl, hc⟩ := (HT.out.later B.out).lies (by omega)
      obtain ⟨r, m, f, d, x, hr⟩ := hc k hlt
      have HR := Lib.hid hr
      have hkI : (k : Int) < n := by omega
      have LT : Hid (lat T (k + 1) = max (lat T k) (T k)) := rfl
      generalize lat T k = yy at LT
      clear hr hc q1 q2
      go_wp2_with (first | refine wpList_gload rfl _ rfl b (o + k * 6) rfl _ HR.out _ Try.underlying25 rfl sizeW ?_ | refine wpList_galloc _ zeroW rfl rfl ?_)
      intro g w2 lg hg hb2
      have B2 := Lib.hid (thenBelow B.out hb2); have lwg := Nat.le_trans B.out.size lg; have AR2 := Lib.hid (range_below AR.out hb2); have CR2 := Lib.hid (range_below CR.out hb2)
      have hga : ga < g := Nat.lt_of_lt_of_le (World.block_lt_of_cell? _ _ (AR.out 0 _ rfl)) lg
      have hgb : gb < g := Nat.lt_of_lt_of_le (World.block_lt_of_cell? _ _ (CR.out 0 _ rfl)) lg
      clear hb2
      go_wp2_with (refine wpList_gstore rfl _ _ rfl g rfl _ rfl _ _ hg sizeW rfl (wcs_one _ _ _ _ _ _) ?_)
      intro w3 h3 g3
      have B3 := Lib.hid (B2.out.trans (grown_below g3 B2.out.size lwg))
      have AR3 : Hid (w3.rangeAt ga 0 (wcs ar am at' af ad ax).toList) := fun j v hv => g3.cell (AR2.out j v hv) (by simp; omega)
      have CR3 : Hid (w3.rangeAt gb 0 (wcs br bm bt bf bd bx).toList) := fun j v hv => g3.cell (CR2.out j v hv) (by simp; omega)
      have ct := (cell_of_row _ g 2 _ _ _ h3).trans (show _ = some (.int .i64 (T k)) from rfl)
      clear h3 g3 hg
      go_wp2
      go_roundw
      case rel => exact ⟨k + 1, by omega, by go_num, by rw [LT.out], AR3.out, CR3.out, B3.out⟩
      case measure => simp [intOf]; omega
    · obtain rfl : k = n := by omega
      go_wp2_with (first | refine wpList_gloadG (by rfl) _ rfl ga 0 rfl _ AR.out _ Try.underlying25 rfl sizeW ?_ | refine wpList_gloadG (by rfl) _ rfl gb 0 rfl _ CR.out _ Try.underlying25 rfl sizeW ?_)
      refine (L1.out _).mono ?_
      rintro e w5 ⟨rfl, hb5⟩
      have B5 := Lib.hid (thenBelow B.out hb5); have A5 := Lib.hid (range_below AR.out hb5); have C5 := Lib.hid (range_below CR.out hb5)
      clear hb5 L1
      go_wp2_with (first | refine wpList_gloadG (by rfl) _ rfl ga 0 rfl _ A5.out _ Try.underlying25 rfl sizeW ?_ | refine wpList_gloadG (by rfl) _ rfl gb 0 rfl _ C5.out _ Try.underlying25 rfl sizeW ?_)
      refine (L2.out _).mono ?_
      rintro e w6 ⟨rfl, hb6⟩
      have B6 := Lib.hid (thenBelow B5.out hb6)
      have LA := Lib.hid (latest_is p k c T w6 (HT.out.later B6.out))
      clear hb6 L2
      go_wp2_with fail
      refine LA.out.mono ?_
      rintro e w7 ⟨rfl, hb7⟩
      have B7 := Lib.hid (thenBelow B6.out hb7)
      have AW := Lib.hid (awake9 w7)
      clear hb7 LA
      go_wp2_with fail
      refine AW.out.mono ?_
      rintro e w8 ⟨rfl, hb8⟩
      have B8 := Lib.hid (thenBelow B7.out hb8)
      go_wp2
      go_ret
      exact ⟨rfl, B8.out⟩
end Go.Proofs.Ytoelpeodepkaaaa
