/- The walk of TokenAll. -/
import Derived.Test.YtldfomggeleolaaDoorTokAwake
import Derived.Test.YtldfomggeleolaaDoorTokCount
import Derived.Test.YtldfomggeleolaaDoorTokCounts
import Derived.Test.YtldfomggeleolaaDoorRegionFree
import Derived.Deep.RegionLaw
import Derived.Deep.RegionLawGrows
namespace Go.Proofs.YtldfomggeleolaaDoor
open Go Go.RowKit
set_option linter.unusedVariables false

/-- the place of the word ahead -/
def lastOf (l : List (ByteArray × Nat)) (k : Nat) : Int := if k = 0 then -1 else ((l.getD (k - 1) (⟨#[]⟩, 0)).2 : Int)
theorem last_lt (s : ByteArray) (k : Nat) (h : k < (Tok.toks s).length) : lastOf (Tok.toks s) k < ((Tok.toks s)[k].2 : Int) ∧ lastOf (Tok.toks s) (k + 1) = ((Tok.toks s)[k].2 : Int) := by
  unfold lastOf
  refine ⟨?_, ?_⟩
  · split
    · omega
    · have := Tok.toks_lt s (k - 1) k (by omega) h (by omega)
      simp only [List.getD, List.getElem?_eq_getElem (show k - 1 < (Tok.toks s).length by omega), Option.getD_some]
      omega
  · rw [if_neg (by omega), Nat.add_sub_cancel]
    simp [List.getD, List.getElem?_eq_getElem h]

theorem drew_cell {w w' : World} {a : Addr} {v : Value} (hb : Below w.drew.heap.size w.drew w') (h : w.cell? a = some v) : w'.cell? a = some v :=
  (hb.cell (p := a) (World.block_lt_of_cell? w _ h)).trans h
theorem below_cell {w w' : World} {a : Addr} {v : Value} (hb : Below w.heap.size w w') (h : w.cell? a = some v) : w'.cell? a = some v :=
  (hb.cell (p := a) (World.block_lt_of_cell? w _ h)).trans h
theorem drew_then {w0 w w' : World} (h : Below w0.heap.size w0 w) (hb : Below w.drew.heap.size w.drew w') : Below w0.heap.size w0 w' := h.trans (Below.mono (Below.trans (Below.drew (Below.refl _ w)) hb) h.size)
set_option maxHeartbeats 4000000 in
set_option maxRecDepth 10000000 in
theorem tokenAll_walk (s : ByteArray) (W : World) (hs : s.size ≤ 140737488351232) (hT : Tables W) :
    Calls Tryd.prog 5 #[.string s] W (Yes W) := by
  have HT := Lib.hid hT
  by_cases hbig : s.size ≤ 2048
  · have hbig' : ¬ (s.size : Int) > 2048 := by omega
    have hs5 : s.size ≤ 100000 := by omega
    have L1 : (Tok.toks s).length ≤ 100000 := Nat.le_trans (Nat.le_trans (toks_len s) (Tok.sp_in s).1) hs5
    have H1 := Lib.hid (fun w h => tokWords_is s w hs5 h)
    have EA := Lib.hid (fun k h => Tok.toks_each s ((Tok.toks s)[k]'h) (List.getElem_mem h))
    have LA := Lib.hid (fun k h => last_lt s k h)
    clear hT
    go_enter Tryd.func5, Tryd.ntmps5
    go_wp2_with fail
    refine (H1.out W HT.out).mono ?_
    rintro e w1 ⟨v, rfl, hown, hb⟩
    obtain ⟨p1, c1, rfl, hc1, hrow⟩ := own_row2 hown
    rw [tkl_len]
    have R1 := Lib.hid hrow; have B1 := Lib.hid hb
    clear hown hb hrow
    go_wp2_with fail
    go_loopw [3, 17] (fun la i wr => ∃ k : Nat, i = .int .i64 k ∧ la = .int .i64 (lastOf (Tok.toks s) k) ∧ k ≤ (Tok.toks s).length ∧ Below W.heap.size W wr ∧ Row2 wr p1 (Tok.tkl (Tok.toks s))) (fun _ i _ => (Tok.toks s).length - (intOf i).toNat)
    case atStart => exact ⟨0, rfl, rfl, Nat.zero_le _, B1.out, R1.out⟩
    case round =>
      obtain ⟨k, rfl, rfl, hk, hb, hr⟩ := hrel
      have B := Lib.hid hb; have R := Lib.hid hr
      clear hb hr
      by_cases hlt : k < (Tok.toks s).length
      · have h6 : (k : Int) < (Tok.toks s).length := by omega
        obtain ⟨g, rfl, hg, c0, c1⟩ := R.out k (by rw [tkl_len]; exact hlt)
        simp only [Tok.tkl, List.getElem_map] at c0 c1
        obtain ⟨a1, a2, a3, a4⟩ := EA.out k hlt
        obtain ⟨b1, b2⟩ := LA.out k hlt
        have SG := tokSingle_is (Tok.toks s)[k].1
        have FT := foldText_is (Tok.toks s)[k].1
        rw [a1] at SG
        rw [a2] at FT
        have B2 := Lib.hid b2
        generalize (Tok.toks s)[k].1 = T at c0 a4 SG FT
        generalize (Tok.toks s)[k].2 = N at c1 a3 b1 B2
        have SG2 := Lib.hid (fun w => SG w (by omega))
        have FT2 := Lib.hid (fun w => FT w (by omega))
        clear a1 a2 SG FT b2
        generalize lastOf (Tok.toks s) k = la at b1 ⊢
        obtain ⟨d0, d1, f0, f1⟩ := new2 wr (.string ⟨#[]⟩) (.int .i64 0) 26
        go_upto_region 7 with fail
        have hx5 := new2h wr (.string T) (.int .i64 (N : Int)) 26
        have V5 := Lib.hid (B.out.alloc B.out.size (.cells #[.string T, .int .i64 (N : Int)] 26))
        have R5 := Lib.hid (R.out.below ((Below.refl _ wr).alloc (Nat.le_refl _) (.cells #[.string T, .int .i64 (N : Int)] 26)))
        clear d0 d1 f0 f1 c0 c1 R hg
        generalize wr.alloc (.cells #[.string T, .int .i64 (N : Int)] 26) = w5 at *
        generalize wr.heap.size = g5 at *
        have c0 := (cell_of_row w5 g5 0 _ _ _ hx5).trans (show _ = some (Value.string T) from rfl)
        have c1 := (cell_of_row w5 g5 1 _ _ _ hx5).trans (show _ = some (Value.int .i64 (N : Int)) from rfl)
        have hN60 : ¬ (N : Int) ≥ 60 := by omega
        have hT20 : ¬ (T.size : Int) > 20 := by omega
        have hla : ¬ (N : Int) ≤ la := by omega
        go_region_law (go_simp; first | (go_at_call 16; refine (SG2.out _ (HT.out.below V5.out.drew)).mono ?_; rintro e w6 ⟨rfl, hb6⟩; have V6 := Lib.hid (drew_then V5.out hb6); have X6 := Lib.hid (drew_then (Below.refl w5.heap.size w5) hb6); have e0 := drew_cell hb6 c0; have e1 := drew_cell hb6 c1) | (go_at_call 20; refine (FT2.out _ (HT.out.below V6.out).shapes (HT.out.below V6.out).great).mono ?_; rintro e w7 ⟨rfl, hb7⟩; have V7 := Lib.hid (thenBelow V6.out hb7); have X7 := Lib.hid (thenBelow X6.out hb7); have i0 := below_cell hb7 e0; have i1 := below_cell hb7 e1))
        all_goals (
          have R7 := Lib.hid (R5.out.below X7.out)
          simp only [Act.put, List.setIfInBounds_toArray, List.set_cons_zero, List.set_cons_succ]
          clear SG2 FT2 V5 R5 V6 X6 X7 c0 c1 e0 e1 hx5
          go_wp2
          go_roundw
          case rel => exact ⟨k + 1, by go_num, by rw [B2.out], by omega, V7.out, R7.out⟩
          case measure => simp [intOf]; omega)
      · have h6 : ¬ (k : Int) < (Tok.toks s).length := by omega
        have PC := Lib.hid (refPieces_is s wr hs5)
        have hsp : Tok.spans s = Tok.ws (Tok.pcs s) := Tok.spans_pcs s
        have hlen := Tok.pcs_len s
        obtain ⟨all, hall⟩ : ∃ all, all = Tok.pcs s := ⟨_, rfl⟩
        rw [← hall] at PC hsp hlen
        have HA : Hid (all.drop 0 = Tok.pcF s s.size 0) := hall
        have hNl : Tok.longs s (Tok.spans s) ≤ all.length := by
          have h1 := Tok.longs_len s (Tok.spans s)
          have h2 := Tok.ws_len all
          rw [hsp] at h1 ⊢
          omega
        have HN : Hid (Tok.longs s (Tok.spans s) = Tok.longs s (Tok.ws all)) := by show _ = _; rw [← hsp]
        have LZ := Lib.hid (Tok.longs_zero s)
        have L2 : (Tok.spans s).length ≤ 100000 := Nat.le_trans (Tok.sp_in s).1 hs5
        have C1 := Lib.hid (fun w h => tokCount_is s w hs5 h)
        clear hall hsp EA LA R
        generalize Tok.longs s (Tok.spans s) = NL at hNl HN LZ
        generalize lastOf (Tok.toks s) k = la
        generalize Tok.toks s = TK at L1 H1 LZ h6 hlt hk ⊢
        generalize (Tok.spans s).length = NS at L2 C1 LZ
        go_wp2_with fail
        refine PC.out.mono ?_
        rintro e wp ⟨v, rfl, hown, hb⟩
        obtain ⟨q, c, rfl, hc, hrow⟩ := own_pieces hown
        have RO := Lib.hid hrow; have BP := Lib.hid (thenBelow B.out hb)
        clear PC hown hb hrow B
        go_wp2_with fail
        go_loopw [4, 56] (fun n i wr => ∃ (k p f m : Nat), i = .int .i64 k ∧ n = .int .i64 m ∧ k ≤ all.length ∧ p ≤ s.size ∧ s.size ≤ p + f ∧ all.drop k = Tok.pcF s f p ∧ NL = m + Tok.longs s (Tok.ws (Tok.pcF s f p)) ∧ Below W.heap.size W wr ∧ PRow wr s q all) (fun _ i _ => all.length - (intOf i).toNat)
        case atStart => exact ⟨0, 0, s.size, 0, rfl, rfl, Nat.zero_le _, Nat.zero_le _, by omega, HA.out, by rw [← HA.out, List.drop_zero, HN.out]; omega, BP.out, RO.out⟩
        case round =>
          obtain ⟨k, p, f, m, rfl, rfl, hk, hp, hf, hd, hm, hb1, hr1⟩ := hrel
          have HD := Lib.hid hd; have HM := Lib.hid hm; have BV := Lib.hid hb1; have RW := Lib.hid hr1
          have hml : m ≤ 100000 := by omega
          clear hd hm hb1 hr1
          by_cases hlt : k < all.length
          · obtain ⟨h1, h2, h3, h4, h5⟩ := Tok.pc_at s all k f p HD.out hf hlt
            obtain ⟨g, rfl, hg, c0, c1⟩ := RW.out k hlt
            rw [h2] at c0 c1
            have HM2 := HM.out
            rw [Tok.pc_step s f p h1 hf] at HM2
            have HD3 := Lib.hid h3
            have h6 : (k : Int) < all.length := by omega
            generalize hq : Tok.sk s (Tok.wd s p) p = q at *
            have hes : (s.extract p q).size ≤ 100000 := by rw [ByteArray.size_extract]; omega
            have TX2 : Hid (∀ w, Shapes w → Great w → Calls Tryd.prog 20 #[.string (s.extract p q)] w (RetS w (Tok.term s (p, q)))) := fun w h1 h2 => foldText_is (s.extract p q) w (by omega) h1 h2
            have Y1 := Lib.hid (fun h => Tok.longs_yes s (p, q) (Tok.ws (Tok.pcF s (f - 1) q)) h)
            have Y2 := Lib.hid (fun h => Tok.longs_no s (p, q) (Tok.ws (Tok.pcF s (f - 1) q)) h)
            obtain ⟨X, hX⟩ : ∃ X, X = s.extract p q := ⟨_, rfl⟩
            rw [← hX] at c0 TX2
            obtain ⟨d0, d1, f0, f1⟩ := new2 wr (.string ⟨#[]⟩) (.bool false) 42
            obtain ⟨d2, d3, f2, f3⟩ := new2 wr (.string X) (.bool (Tok.wd s p)) 42
            have V5 := Lib.hid (BV.out.alloc BV.out.size (.cells #[.string X, .bool (Tok.wd s p)] 42))
            have R5 := Lib.hid (RW.out.below ((Below.refl _ wr).alloc (Nat.le_refl _) (.cells #[.string X, .bool (Tok.wd s p)] 42)))
            generalize Tok.term s (p, q) = T at *
            cases hw : Tok.wd s p with
            | true =>
              rw [hw] at HM2 c1 d2 d3 f2 f3 V5 R5
              rw [Tok.ws_yes] at HM2
              have HM3 := Lib.hid HM2
              clear HM2 HM h2 h3 hq hw hX BV RW
              go_wp2_with fail
              refine (TX2.out _ (HT.out.below V5.out).shapes (HT.out.below V5.out).great).mono ?_
              rintro e w6 ⟨rfl, hb6⟩
              have V6 := Lib.hid (thenBelow V5.out hb6)
              have R6 := Lib.hid (R5.out.below hb6)
              clear hb6 V5 R5 d0 d1 d2 d3 f0 f1 f2 f3 TX2 hes
              by_cases hz : 20 < T.size
              · have hz' : (T.size : Int) > 20 := by omega
                have Y := Lib.hid (HM3.out.trans (by rw [Y1.out hz]))
                clear Y1 Y2 HM3
                go_wp2
                go_roundw
                case rel => exact ⟨k + 1, q, f - 1, m + 1, by go_num, by go_num, by omega, h5, by omega, HD3.out, by rw [Y.out]; omega, V6.out, R6.out⟩
                case measure => simp [intOf]; omega
              · have hz' : ¬ (T.size : Int) > 20 := by omega
                have Y := Lib.hid (HM3.out.trans (by rw [Y2.out hz]))
                clear Y1 Y2 HM3
                go_wp2
                go_roundw
                case rel => exact ⟨k + 1, q, f - 1, m, by go_num, rfl, by omega, h5, by omega, HD3.out, Y.out, V6.out, R6.out⟩
                case measure => simp [intOf]; omega
            | false =>
              rw [hw] at HM2 c1 d2 d3 f2 f3 V5 R5
              rw [Tok.ws_no] at HM2
              have HM3 := Lib.hid HM2
              clear HM2 HM h2 h3 hq hw hX BV RW Y1 Y2 TX2 hes
              go_wp2
              go_roundw
              case rel => exact ⟨k + 1, q, f - 1, m, by go_num, rfl, by omega, h5, by omega, HD3.out, HM3.out, V5.out, R5.out⟩
              case measure => simp [intOf]; omega
          · have h1 : ¬ (k : Int) < all.length := by omega
            have h2 := Tok.pc_no s all k f p HD.out hf (by omega)
            have h3 := HM.out
            rw [Tok.pc_end s f p h2, Tok.ws_nil, Tok.longs_nil, Nat.add_zero] at h3
            subst h3
            clear HM HN HA HD
            go_wp2_with fail
            refine (C1.out wr (HT.out.below BV.out)).mono ?_
            rintro e w7 ⟨rfl, hb7⟩
            have B7 := Lib.hid (thenBelow BV.out hb7)
            clear hb7 BV C1
            by_cases hz : NL = 0
            · subst hz
              have LY := Lib.hid (LZ.out rfl)
              clear LZ hml hNl
              go_wp2_with fail
              refine (H1.out w7 (HT.out.below B7.out)).mono ?_
              rintro e w8 ⟨v, rfl, hown, hb8⟩
              obtain ⟨p2, c2, rfl, _, hrow⟩ := own_row2 hown
              rw [tkl_len]
              have B8 := Lib.hid (thenBelow B7.out hb8)
              have AW := Lib.hid (awake15 w8 (HT.out.below B8.out))
              clear hown hb8 hrow H1 B7
              by_cases hm : NS ≤ 60
              · have hm' : (NS : Int) ≤ 60 := by omega
                have hmin : min (NS : Int) 60 = (NS : Int) := by omega
                have hmin2 : (min NS 60 : Nat) = NS := by omega
                have ht : TK.length = NS := by rw [LY.out]; omega
                rw [ht]
                clear LY ht
                go_wp2_with fail
                refine AW.out.mono ?_
                rintro e w9 ⟨rfl, hb9⟩
                have B9 := Lib.hid (thenBelow B8.out hb9)
                clear hb9 AW B8
                go_wp2_with fail
                go_ret
                exact ⟨ret_bool (by first | rfl | (simp; done)), B9.out⟩
              · have hm' : ¬ (NS : Int) ≤ 60 := by omega
                have hmin : min (NS : Int) 60 = 60 := by omega
                have hmin2 : (min NS 60 : Nat) = 60 := by omega
                have ht : TK.length = 60 := by rw [LY.out]; omega
                rw [ht]
                clear LY ht
                go_wp2_with fail
                refine AW.out.mono ?_
                rintro e w9 ⟨rfl, hb9⟩
                have B9 := Lib.hid (thenBelow B8.out hb9)
                clear hb9 AW B8
                go_wp2_with fail
                go_ret
                exact ⟨ret_bool (by first | rfl | (simp; done)), B9.out⟩
            · have hz' : (NL : Int) > 0 := by omega
              have AW := Lib.hid (awake15 w7 (HT.out.below B7.out))
              clear LZ
              go_wp2_with fail
              refine AW.out.mono ?_
              rintro e w9 ⟨rfl, hb9⟩
              have B9 := Lib.hid (thenBelow B7.out hb9)
              clear hb9 AW B7
              go_wp2_with fail
              go_ret
              exact ⟨ret_bool (by first | rfl | (simp; done)), B9.out⟩
  · have hbig' : (s.size : Int) > 2048 := by omega
    have AW := Lib.hid (awake15 W hT)
    clear hT
    go_enter Tryd.func5, Tryd.ntmps5
    go_wp2_with fail
    refine AW.out.mono ?_
    rintro e w3 ⟨rfl, hb3⟩
    have B3 := Lib.hid hb3
    clear AW hb3
    go_wp2_with fail
    go_ret
    exact ⟨ret_bool (by first | rfl | (simp; done)), B3.out⟩
end Go.Proofs.YtldfomggeleolaaDoor
