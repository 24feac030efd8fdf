/- The document's Mark. -/
import Derived.Test.YtldfomggeleolaaDoorTokRef2
import Derived.Test.YtldfomggeleolaaDoorTokMark
import Derived.Test.YtldfomggeleolaaDoorOpenS
namespace Go.Proofs.YtldfomggeleolaaDoor
open Go Go.RowKit
set_option linter.unusedVariables false

/-- is a term one of some? -/
def oneOf (T : ByteArray) (l : List ByteArray) : Bool := l.any fun t => decide (t.data.toList = T.data.toList)
theorem oneOf_snoc (T : ByteArray) (l : List ByteArray) (t : ByteArray) : oneOf T (l ++ [t]) = (oneOf T l || decide (t = T)) := by
  unfold oneOf
  rw [List.any_append, List.any_cons, List.any_nil, Bool.or_false]
  congr 1
  by_cases e : t = T
  · rw [decide_eq_true e, decide_eq_true (by rw [e])]
  · rw [decide_eq_false e, decide_eq_false (fun h => e (ByteArray.ext (Array.toList_inj.1 h)))]

set_option maxHeartbeats 4000000 in
set_option maxRecDepth 100000 in
theorem refMark15_is (s : ByteArray) (p0 : Option Addr) (c0' : Nat) (ws : List ByteArray) (Bf Bh : ByteArray) (w : World) (hs : s.size ≤ 10000) (hl : LiesS w p0 ws) (hwl : ws.length ≤ 20) (hBf : Bf.size ≤ 20) (hBh : Bh.size ≤ 20) :
    Calls Tryd.prog 19 #[.string s, .slice p0 ws.length c0', .string Bf, .string Bh] w fun e w' => e = .returned (.string ⟨(Tok.marked s (fun x => oneOf (Tok.term s x) ws) Bf.data.toList Bh.data.toList).toArray⟩) ∧ Below w.heap.size w w' := by
  have PC := Lib.hid (refPieces_is s w (by omega))
  have hsp := Tok.marked_ref s (fun x => oneOf (Tok.term s x) ws) Bf.data.toList Bh.data.toList
  have hlen := Tok.pcs_len s
  have HL := Lib.hid hl
  obtain ⟨all, hall⟩ : ∃ all, all = Tok.pcs s := ⟨_, rfl⟩
  rw [← hall] at PC hsp hlen
  have HA : Hid (all.drop 0 = Tok.pcF s s.size 0) := hall
  generalize Tok.marked s (fun x => oneOf (Tok.term s x) ws) Bf.data.toList Bh.data.toList = L at hsp ⊢
  obtain ⟨step, hstep⟩ : ∃ f, f = Tok.stepR s (fun x => oneOf (Tok.term s x) ws) Bf.data.toList Bh.data.toList := ⟨_, rfl⟩
  rw [← hstep] at hsp
  have HN := Lib.hid hsp
  have HS := Lib.hid hstep
  clear hall hsp hl hstep
  go_enter Tryd.func19, Tryd.ntmps19
  go_wp2_with fail
  refine PC.out.mono ?_
  rintro e w1 ⟨v, rfl, hown, hb⟩
  obtain ⟨q, c, rfl, hc, hrow⟩ := own_pieces hown
  have RO := Lib.hid hrow; have B := Lib.hid hb
  clear PC hown hb hrow
  go_wp2
  go_loopw [9, 18] (fun o i wr => ∃ (k p f : Nat) (O : ByteArray), i = .int .i64 k ∧ o = .string O ∧ k ≤ all.length ∧ p ≤ s.size ∧ s.size ≤ p + f ∧ all.drop k = Tok.pcF s f p ∧ O.size ≤ k * 10040 ∧ L = (Tok.pcF s f p).foldl step O.data.toList ∧ Below w1.heap.size w1 wr) (fun _ i _ => all.length - (intOf i).toNat)
  case atStart => exact ⟨0, 0, s.size, ⟨#[]⟩, rfl, rfl, Nat.zero_le _, Nat.zero_le _, by omega, HA.out, by show 0 ≤ _; omega, by rw [← HA.out, List.drop_zero, HN.out], Below.refl _ _⟩
  case round =>
    obtain ⟨k, p, f, O, rfl, rfl, hk, hp, hf, hd, hO, hm, hb1⟩ := hrel
    have HD := Lib.hid hd; have HM := Lib.hid hm; have BV := Lib.hid hb1
    have RW := Lib.hid (RO.out.below hb1)
    clear hd hm hb1
    by_cases hlt : k < all.length
    · obtain ⟨h1, h2, h3, h4, h5⟩ := Tok.pc_at s all k f p HD.out hf hlt
      obtain ⟨g, rfl, hg, c0, c1⟩ := RW.out k hlt
      rw [h2] at c0 c1
      have HM2 := HM.out
      rw [Tok.pc_step s f p h1 hf, List.foldl_cons, HS.out] at HM2
      have HD3 := Lib.hid h3
      have h6 : (k : Int) < all.length := by omega
      generalize hq : Tok.sk s (Tok.wd s p) p = q at *
      have hes : (s.extract p q).size ≤ 10000 := by rw [ByteArray.size_extract]; omega
      have TX : Hid (∀ w, Calls Tryd.prog 24 #[.string (s.extract p q)] w (RetS w (Tok.term s (p, q)))) := fun w => refText_is (s.extract p q) w (by omega)
      obtain ⟨T, hT⟩ : ∃ T, T = Tok.term s (p, q) := ⟨_, rfl⟩
      have hby : Tok.by_ s p q = (s.extract p q).data.toList := rfl
      rw [← hT] at TX
      have SR : ∀ b : Bool, Tok.stepR s (fun x => oneOf (Tok.term s x) ws) Bf.data.toList Bh.data.toList O.data.toList (p, q, b) = if b && oneOf T ws then O.data.toList ++ Bf.data.toList ++ (s.extract p q).data.toList ++ Bh.data.toList else O.data.toList ++ (s.extract p q).data.toList := fun b => by rw [hT]; rfl
      rw [SR, ← HS.out] at HM2
      clear SR hT hby h2 h3 hq RW HM
      generalize s.extract p q = X at *
      have hx5 := new2h wr (.string X) (.bool (Tok.wd s p)) 42
      obtain ⟨d0, d1, f0, f1⟩ := new2 wr (.string ⟨#[]⟩) (.bool false) 42
      obtain ⟨d2, d3, f2, f3⟩ := new2 wr (.string X) (.bool (Tok.wd s p)) 42
      have V5 := Lib.hid (BV.out.alloc BV.out.size (.cells #[.string X, .bool (Tok.wd s p)] 42))
      have LW := Lib.hid (HL.out.below (B.out.trans (V5.out.mono B.out.size)))
      generalize Tok.wd s p = b at *
      have HM3 := Lib.hid HM2
      clear HM2
      go_upto_region 5 with fail
      generalize wr.alloc (.cells #[.string X, .bool b] 42) = w5 at *
      generalize wr.heap.size = g5 at *
      have HX := Lib.hid hx5
      have hs0 : w5.heap.size = w5.heap.size := rfl
      have hBe : (b && oneOf T (ws.take 0)) = false := by simp [oneOf]
      clear c0 c1 d0 d1 f0 f1 d2 d3 f2 f3 hx5 hg hs0
      go_wp2
      go_loopw [12, 24] (fun hv i w6 => ∃ j : Nat, i = .int .i64 j ∧ hv = .bool (b && oneOf T (ws.take j)) ∧ j ≤ ws.length ∧ Below w5.heap.size w5 w6) (fun _ i _ => ws.length - (intOf i).toNat)
      case atStart => exact ⟨0, rfl, by rw [hBe], Nat.zero_le _, Below.refl _ _⟩
      case round =>
        obtain ⟨j, rfl, rfl, hj, hb6⟩ := hrel
        have V6 := Lib.hid (thenBelow V5.out hb6); have B6 := Lib.hid hb6; have LJ := Lib.hid (LW.out.below hb6)
        have HX6 := (hb6.block g5 (Array.getElem?_eq_some_iff.1 HX.out).1).trans HX.out
        have e0 := (cell_of_row wr g5 0 _ _ _ HX6).trans (show _ = some (Value.string X) from rfl)
        have e1 := (cell_of_row wr g5 1 _ _ _ HX6).trans (show _ = some (Value.bool b) from rfl)
        clear hb6 HX6
        by_cases hjl : j < ws.length
        · have h7 : (j : Int) < ws.length := by omega
          obtain ⟨bb, oo, rfl, hbb, hcell⟩ := LJ.out.at (by omega)
          have hc2 := hcell j hjl
          have hsn := oneOf_snoc T (ws.take j) (ws.getD j ByteArray.empty)
          have htk : ws.take j ++ [ws.getD j ByteArray.empty] = ws.take (j + 1) := by
            rw [List.take_add_one]; simp [List.getD, List.getElem?_eq_getElem hjl]
          rw [htk] at hsn
          have SN := Lib.hid hsn
          clear hsn htk hcell hbb
          generalize ws.getD j ByteArray.empty = tx at hc2 SN
          cases b with
          | false =>
            simp only [Bool.false_and]
            go_wp2
            go_roundw
            case rel => exact ⟨j + 1, by go_num, by simp, by omega, B6.out⟩
            case measure => simp [intOf]; omega
          | true =>
            simp only [Bool.true_and]
            generalize oneOf T (ws.take j) = r at SN ⊢
            cases r with
            | true =>
              go_wp2
              go_roundw
              case rel => exact ⟨j + 1, by go_num, by rw [SN.out]; simp, by omega, B6.out⟩
              case measure => simp [intOf]; omega
            | false =>
              go_wp2_with fail
              refine (TX.out wr).mono ?_
              rintro e w7 ⟨rfl, hb7⟩
              by_cases hTx : T = tx
              · subst hTx
                go_wp2
                exact ⟨⟨j + 1, by go_num, by rw [SN.out]; simp, by omega, thenBelow B6.out hb7⟩, by simp [intOf]; omega⟩
              · have hTl : (T.toList == tx.toList) = false := by
                  rw [beq_eq_false_iff_ne]
                  intro h
                  rw [Lib.toList_data, Lib.toList_data] at h
                  exact hTx (ByteArray.ext (Array.toList_inj.1 h))
                have TL := Lib.hid hTl
                clear hTl
                go_wp2
                exact ⟨⟨j + 1, by go_num, by rw [TL.out, SN.out, decide_eq_false (Ne.symm hTx)]; rfl, by omega, thenBelow B6.out hb7⟩, by simp [intOf]; omega⟩
        · have h7 : ¬ (j : Int) < ws.length := by omega
          obtain rfl : j = ws.length := by omega
          rw [List.take_of_length_le (Nat.le_refl _)]
          have hO2 : O.size ≤ 100400000 := by omega
          generalize (b && oneOf T ws) = r at HM3 ⊢
          have z1 : (O ++ Bf).size = O.size + Bf.size := ByteArray.size_append
          have z2 : (O ++ Bf ++ X).size = (O ++ Bf).size + X.size := ByteArray.size_append
          have z3 : (O ++ Bf ++ X ++ Bh).size = (O ++ Bf ++ X).size + Bh.size := ByteArray.size_append
          have z4 : (O ++ X).size = O.size + X.size := ByteArray.size_append
          have HM4 := HM3.out
          clear HM3
          cases r with
          | true =>
            rw [if_pos rfl] at HM4
            have HM5 := Lib.hid HM4
            clear HM4
            go_wp2
            go_roundw
            case rel => exact ⟨k + 1, q, f - 1, O ++ Bf ++ X ++ Bh, by go_num, rfl, by omega, h5, by omega, HD3.out, by omega, by rw [HM5.out]; simp only [ByteArray.data_append, Array.toList_append], V6.out⟩
            case measure => simp [intOf]; omega
          | false =>
            rw [if_neg (by simp)] at HM4
            have HM5 := Lib.hid HM4
            clear HM4
            go_wp2
            go_roundw
            case rel => exact ⟨k + 1, q, f - 1, O ++ X, by go_num, rfl, by omega, h5, by omega, HD3.out, by omega, by rw [HM5.out]; simp only [ByteArray.data_append, Array.toList_append], V6.out⟩
            case measure => simp [intOf]; omega
    · have h1 : ¬ (k : Int) < all.length := by omega
      have h2 := Tok.pc_no s all k f p HD.out hf (by omega)
      have h3 := HM.out
      rw [Tok.pc_end s f p h2, List.foldl_nil] at h3
      subst h3
      go_wp2
      go_ret
      exact ⟨rfl, thenBelow B.out BV.out⟩
end Go.Proofs.YtldfomggeleolaaDoor
