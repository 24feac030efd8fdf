/- The statement DocsReads, proved for every input that its row reads: part 44 of 54. -/
import Derived.Test.YtijmijokgenflaaGreatDoorPackDocsReads28
import Derived.Test.YtijmijokgenflaaGreatDoorPackDocsReads15
import Derived.Test.YtijmijokgenflaaGreatDoorPackDocsReads42
import Derived.Test.YtijmijokgenflaaGreatDoorPackDocsReads43
/- The document's Gone: the dots of writes, in order, each once. -/
namespace Go.Proofs.YtijmijokgenflaaGreatDoor
open Go Go.RowKit
set_option linter.unusedVariables false
set_option maxRecDepth 1000000

theorem dt_at {w : World} {B : Nat} {p : Option Addr} {c : Nat} {l : List Dt} (h : w.ownsRow B 37 2 (.slice p l.length c) l.length (dcl l)) {k : Nat} (hk : k < l.length) : ∃ g, p = some ⟨g, 0, none⟩ ∧ w.cell? ⟨g, k * 2, none⟩ = some (.int .i64 l[k].1) ∧ w.cell? ⟨g, k * 2 + 1, none⟩ = some (.int .i64 l[k].2) := by
  rcases h.2 with ⟨_, h1⟩ | ⟨g, cap, cur, h0, _⟩
  · omega
  · injection h0 with h0 _ _
    subst h0
    obtain ⟨d1, d2⟩ := dcl_get l k hk
    exact ⟨g, rfl, by rw [World.ownsRow.cellAt h (k * 2) (by omega)]; exact d1, by rw [World.ownsRow.cellAt h (k * 2 + 1) (by omega)]; exact d2⟩
theorem dotsIn_nil : dotsIn [] = [] := List.eq_nil_of_length_eq_zero (by have := dotsIn_len []; simpa using this)
def RetDotsR (w : World) (D : List Dt) (e : Ending) (w' : World) : Prop := ∃ v, e = .returned v ∧ w'.ownsRow w.heap.size 37 2 v D.length (dcl D) ∧ Below w.heap.size w w'
set_option maxHeartbeats 16000000 in
theorem refGone_is (p : Option Addr) (c : Nat) (L : List Wr) (w : World) (h : WrsAt w p L) (hn : L.length ≤ 1000) :
    Calls Tryz.prog 13 #[.slice p L.length c] w (RetDotsR w (dotsIn L)) := by
  have HW := Lib.hid h
  clear h
  go_enter Tryz.func13, Tryz.ntmps13
  go_wp2_with fail
  go_loopw [3, 12] (fun v i wr => ∃ k : Nat, k ≤ L.length ∧ i = .int .i64 k ∧ Hid (wr.ownsRow w.heap.size 37 2 v (dotsIn (L.take k)).length (dcl (dotsIn (L.take k)))) ∧ Hid (Below w.heap.size w wr)) (fun _ i _ => L.length - (RowKit.intOf i).toNat)
  case atStart => exact ⟨0, Nat.zero_le _, rfl, Lib.hid (by rw [List.take_zero, dotsIn_nil]; exact ⟨rfl, .inl ⟨rfl, rfl⟩⟩), Lib.hid (Below.refl _ _)⟩
  case round =>
    obtain ⟨k, hk, rfl, OO, BB⟩ := hrel
    obtain ⟨q, cq, hq⟩ := own_slice OO.out
    subst hq
    by_cases hkl : k < L.length
    · have hkl' : (k : Int) < L.length := by omega
      obtain ⟨b, o', rfl, hlt, hr⟩ := (HW.out.below BB.out).at hkl
      obtain ⟨c0, c1, c2, c3, c4, c5⟩ := wr_cells hr
      have hOL : (dotsIn (L.take k)).length ≤ 1000 := by
        have := dotsIn_len (L.take k)
        rw [List.length_take] at this; omega
      have RI := Lib.hid (dotsIn_rises (L.take k))
      have TK : Hid (L.take (k + 1) = L.take k ++ [L[k]]) := Lib.hid (List.take_succ_eq_append_getElem hkl)
      have HAS : Hid (L[k].dot ∈ dotsIn (L.take k) → dotsIn (L.take (k + 1)) = dotsIn (L.take k)) := Lib.hid fun h => by rw [TK.out]; exact dotsIn_has h
      have PUT : Hid (∀ A, SrchL ltD (dotsIn (L.take k)) L[k].dot (dotsIn (L.take k)).length A → L[k].dot ∉ dotsIn (L.take k) → (dotsIn (L.take k)).take A ++ [L[k].dot] ++ (dotsIn (L.take k)).drop A = dotsIn (L.take (k + 1))) := Lib.hid fun A h1 h2 => by rw [TK.out]; exact dotsIn_put h1 h2
      clear hr hlt
      obtain ⟨y, hy⟩ : ∃ y, L[k] = y := ⟨_, rfl⟩
      rw [hy] at c0 c1 c2 c3 c4 c5 HAS PUT
      clear hy TK
      obtain ⟨r, n, tt, d, fl, tx⟩ := y
      simp only [Wr.dot] at c0 c1 c2 c3 c4 c5 HAS PUT
      obtain ⟨TG, hTG⟩ : ∃ TG, dotsIn (L.take (k + 1)) = TG := ⟨_, rfl⟩
      have HTG := Lib.hid hTG
      rw [hTG] at HAS PUT
      clear hTG
      generalize dotsIn (L.take k) = o at *
      have b7 := below_alloc wr (.cells #[.int .i64 r, .int .i64 n, .int .i64 tt, .string d, .int .i64 fl, .string tx] 39)
      have B7 := Lib.hid (thenBelow BB.out b7)
      have O7 := Lib.hid (own_later OO.out b7)
      have Y7 : Hid ((wr.alloc (.cells #[.int .i64 r, .int .i64 n, .int .i64 tt, .string d, .int .i64 fl, .string tx] 39)).rangeAt wr.heap.size 0 [.int .i64 r, .int .i64 n, .int .i64 tt, .string d, .int .i64 fl, .string tx]) := Lib.hid (range_of_block (heap_alloc_new wr _))
      clear b7 OO BB
      go_wp2_with fail
      generalize wr.alloc (.cells #[.int .i64 r, .int .i64 n, .int .i64 tt, .string d, .int .i64 fl, .string tx] 39) = V1 at B7 O7 Y7 ⊢
      obtain ⟨yb, hyb⟩ : ∃ yb, wr.heap.size = yb := ⟨_, rfl⟩
      rw [hyb] at Y7 ⊢
      obtain ⟨_, _, cz, e0, _, DR, _, _⟩ := own_drow O7.out
      injection e0 with e0 _ e9
      subst e0 e9
      have HI := Lib.hid (refHasIn_is q cq o r n V1 DR (by omega))
      clear DR hyb
      refine HI.out.mono ?_
      rintro e V5 ⟨rfl, b5⟩
      have B5 := Lib.hid (thenBelow B7.out b5)
      have O5 := Lib.hid (own_later O7.out b5)
      have Y5 := Lib.hid (range_below Y7.out b5)
      clear HI b5 B7 O7 Y7
      dsimp only
      cases hin : hasIn o (r, n) with
      | true =>
        have e := HAS.out (of_decide_eq_true hin)
        subst e
        clear HAS PUT hin
        go_wp2
        go_roundw
        case rel => exact ⟨k + 1, by omega, by go_num, by rw [HTG.out]; exact O5, B5⟩
        case measure => simp [RowKit.intOf]; omega
      | false =>
        have hni : (r, n) ∉ o := of_decide_eq_false hin
        have NI := Lib.hid hni
        clear HAS hin hni c0 c1 c2 c3 c4 c5
        go_wp2_with fail
        go_loopw [6, 22] (fun a i wr => ∃ j A : Nat, j ≤ o.length ∧ a = .int .i64 A ∧ i = .int .i64 j ∧ Hid (SrchL ltD o (r, n) j A) ∧ Hid (Below V5.heap.size V5 wr)) (fun _ i _ => o.length - (RowKit.intOf i).toNat)
        case atStart => exact ⟨0, 0, Nat.zero_le _, rfl, rfl, Lib.hid (SrchL.start _ _), Lib.hid (Below.refl _ _)⟩
        case round =>
          obtain ⟨j, A, hj, rfl, rfl, SS, BX⟩ := hrel
          by_cases hjo : j < o.length
          · have hjo' : (j : Int) < o.length := by omega
            obtain ⟨g, rfl, d0, d1⟩ := dt_at (own_later O5.out BX.out) hjo
            have LS := Lib.hid (less_is o[j].1 o[j].2 r n)
            have SY : Hid (lessD o[j].1 o[j].2 r n = true → SrchL ltD o (r, n) (j + 1) (j + 1)) := Lib.hid fun e => SS.out.yes lin_D RI.out hjo e
            have SN : Hid (lessD o[j].1 o[j].2 r n = false → SrchL ltD o (r, n) (j + 1) A) := Lib.hid fun e => SS.out.no hjo e
            obtain ⟨⟨x1, x2⟩, hx⟩ : ∃ x, o[j] = x := ⟨_, rfl⟩
            rw [hx] at d0 d1 LS SY SN
            simp only at d0 d1 LS SY SN
            clear hx
            have bq := below_alloc wr (.cells #[.int .i64 x1, .int .i64 x2] 37)
            have BQ := Lib.hid (thenBelow BX.out bq)
            obtain ⟨m0, m1, m2, m3, m4, m5⟩ := wr_cells (x := ⟨r, n, tt, d, fl, tx⟩) (range_below Y5.out BQ.out)
            simp only [Nat.zero_add] at m0 m1 m2 m3 m4 m5
            clear bq
            go_wp2_with fail
            refine (LS.out _).mono ?_
            rintro e w7 ⟨rfl, b7⟩
            have B9 := Lib.hid (thenBelow BQ.out b7)
            clear b7 LS m0 m1 m2 m3 m4 m5 d0 d1
            dsimp only
            cases hlt : lessD x1 x2 r n with
            | true =>
              have S9 := Lib.hid (SY.out hlt)
              clear hlt
              go_wp2
              go_roundw
              case rel => exact ⟨j + 1, j + 1, by omega, by go_num, by go_num, S9, B9⟩
              case measure => simp [RowKit.intOf]; omega
            | false =>
              have S9 := Lib.hid (SN.out hlt)
              clear hlt
              go_wp2
              go_roundw
              case rel => exact ⟨j + 1, A, by omega, rfl, by go_num, S9, B9⟩
              case measure => simp [RowKit.intOf]; omega
          · obtain rfl : j = o.length := by omega
            have hjo' : ¬ ((o.length : Nat) : Int) < o.length := by omega
            have hA2 : A ≤ o.length := SS.out.le
            have FIN0 := Lib.hid (PUT.out A SS.out NI.out)
            have HO := Lib.hid (own_later O5.out BX.out)
            have R2 : Hid (wr.rangeAt yb 0 (Wr.cells ⟨r, n, tt, d, fl, tx⟩)) := Lib.hid (range_below Y5.out BX.out)
            have B2 := Lib.hid (thenBelow B5.out BX.out)
            clear SS PUT NI RI O5 Y5 B5 BX
            rcases HO.out.2 with ⟨h1, h2⟩ | ⟨g, cap, cur, h1, hg1, hg2, hg3, _⟩
            · injection h1 with h1 _ hc0
              subst h1 hc0
              have hl0 : o = [] := List.eq_nil_of_length_eq_zero h2
              subst hl0
              obtain rfl : A = 0 := by simpa using hA2
              clear h2 hA2 hjo hjo' hj
              obtain ⟨c0, c1, c2, c3, c4, c5⟩ := wr_cells R2.out
              simp only [Nat.zero_add, Nat.add_zero] at c0 c1 c2 c3 c4 c5
              go_wp2_with (at_builtin; refine wpList_dt _ rfl _ _ rfl wr.heap.size 0 [] (.slice none 0 0) rfl ⟨rfl, .inl ⟨rfl, rfl⟩⟩ ((r, n)) rfl (by omega) (Nat.le_refl _) ?_)
              clear c0 c1 c2 c3 c4 c5
              intro v6 w6 o6 g6
              have D6 := Lib.hid ((Below.refl wr.heap.size wr).grown g6 (Nat.le_refl _) (fun k hk => by cases hk))
              have O6 := Lib.hid o6
              clear o6 g6
              go_wp2_with (at_builtin; refine wpList_dtNone w6 rfl _ _ rfl wr.heap.size _ _ _ rfl O6.out rfl ?_)
              have O7 : Hid (w6.ownsRow w.heap.size 37 2 v6 TG.length (dcl TG)) := Lib.hid (by
                have h9 := own_base O6.out B2.out.size
                rw [← FIN0.out]
                simpa [dcl] using h9)
              have B7 := Lib.hid (B2.out.trans (D6.out.mono B2.out.size))
              go_wp2
              go_roundw
              case rel => exact ⟨k + 1, by omega, by go_num, by rw [HTG.out]; exact O7, B7⟩
              case measure => simp [RowKit.intOf]; omega
            · injection h1 with h1 _ hc0
              subst h1 hc0
              have hcap : A ≤ cq := by omega
              have RW : Hid (wr.rangeAt g 0 (dcl o)) := Lib.hid fun j u hu => by
                have hj : j < o.length * 2 := by rw [← dcl_length]; exact (List.getElem?_eq_some_iff.1 hu).1
                rw [Nat.zero_add, HO.out.cellAt j hj]; exact hu
              have RD : Hid (wr.rangeAt g (A * 2) (dcl (o.drop A))) := Lib.hid fun j u hu => by
                rw [dcl_dropK, List.getElem?_drop] at hu
                have := RW.out (A * 2 + j) u hu
                rwa [Nat.zero_add] at this
              have RT : Hid (wr.rangeAt g 0 (dcl (o.take A))) := Lib.hid fun j u hu => by
                rw [dcl_takeK] at hu
                by_cases h5 : j < A * 2
                · rw [List.getElem?_take_of_lt h5] at hu; exact RW.out j u hu
                · rw [List.getElem?_eq_none (by rw [List.length_take]; omega)] at hu; cases hu
              have LT : Hid ((o.take A).length = A) := Lib.hid (by rw [List.length_take]; omega)
              have LD : Hid ((o.drop A).length = o.length - A) := Lib.hid (by rw [List.length_drop])
              have FIN : Hid (A + 1 + (o.length - A) = TG.length ∧ dcl (o.take A) ++ dvs (r, n) ++ dcl (o.drop A) = dcl TG) := Lib.hid (by
                rw [← FIN0.out]
                refine ⟨by rw [List.length_append, List.length_append, List.length_singleton, LT.out, LD.out], ?_⟩
                rw [dcl_append, dcl_append]
                simp [dcl])
              clear hg1 hg2 RW
              obtain ⟨m, hm2⟩ : ∃ m, o.length = m := ⟨_, rfl⟩
              rw [hm2] at FIN LD hA2 hOL hg3 ⊢
              go_wp2_with (at_builtin; refine wpList_dts wr rfl _ _ rfl wr.heap.size 0 [] (.slice none 0 0) rfl ⟨rfl, .inl ⟨rfl, rfl⟩⟩ g 0 A cq (o.take A) LT.out rfl RT.out (by omega) (Nat.le_refl _) ?_)
              intro v5 w5 o5 g5
              have D5 := Lib.hid ((Below.refl wr.heap.size wr).grown g5 (Nat.le_refl _) (fun k hk => by cases hk))
              have R5 := Lib.hid (range_below R2.out D5.out)
              have HA1 : Hid (A + 1 ≤ 1000000) := Lib.hid (by omega)
              have O5 : Hid (w5.ownsRow wr.heap.size 37 2 v5 A (dcl (o.take A))) := Lib.hid (by simpa using o5)
              have S5 := Lib.hid D5.out.size
              clear o5 g5 R2 RT
              obtain ⟨c0, c1, c2, c3, c4, c5⟩ := wr_cells R5.out
              simp only [Nat.zero_add, Nat.add_zero] at c0 c1 c2 c3 c4 c5
              go_wp2_with (at_builtin; refine wpList_dt _ rfl _ _ rfl wr.heap.size A (dcl (o.take A)) v5 rfl O5.out ((r, n)) rfl HA1.out S5.out ?_)
              clear c0 c1 c2 c3 c4 c5
              intro v6 w6 o6 g6
              have D6 := Lib.hid (D5.out.grown g6 S5.out (fun k hk => (O5.out.lt k hk).1))
              have O6 := Lib.hid o6; have S6 := Lib.hid D6.out.size
              have RD6 := Lib.hid (range_below RD.out D6.out)
              clear o6 g6 RD
              have HA2 : Hid (A + 1 + (m - A) ≤ 1000000) := Lib.hid (by omega)
              have hAn : A ≤ m := hA2
              by_cases hcA : cq = A
              · obtain rfl : cq = A := hcA
                obtain rfl : m = cq := by omega
                have RZ : Hid (w6.rangeAt g 0 (dcl (o.drop m))) := Lib.hid (by
                  have h9 : o.drop m = [] := List.eq_nil_of_length_eq_zero (by rw [LD.out]; omega)
                  rw [h9]
                  intro j u hu
                  simp [dcl] at hu)
                have hz : m - m = 0 := Nat.sub_self m
                rw [hz] at LD HA2 FIN
                clear RD6 hm2
                go_wp2_with (at_builtin; refine wpList_dts w6 rfl _ _ rfl wr.heap.size (m + 1) (dcl (o.take m) ++ dvs (r, n)) v6 rfl O6.out g 0 0 0 (o.drop m) LD.out rfl RZ.out HA2.out S6.out ?_)
                intro v7 w7 o7 g7
                have D7 := Lib.hid (D6.out.grown g7 S6.out (fun k hk => (O6.out.lt k hk).1))
                have B7 := Lib.hid (B2.out.trans (D7.out.mono B2.out.size))
                have O7 : Hid (w7.ownsRow w.heap.size 37 2 v7 TG.length (dcl TG)) := Lib.hid (by rw [← FIN.out.1, ← FIN.out.2, List.append_assoc]; exact own_base o7 B2.out.size)
                clear o7 g7
                go_wp2
                go_roundw
                case rel => exact ⟨k + 1, by omega, by go_num, by rw [HTG.out]; exact O7, B7⟩
                case measure => simp [RowKit.intOf]; omega
              · clear hm2
                go_wp2_with (at_builtin; refine wpList_dts w6 rfl _ _ rfl wr.heap.size (A + 1) (dcl (o.take A) ++ dvs (r, n)) v6 rfl O6.out g (A * 2) (m - A) (cq - A) (o.drop A) LD.out rfl RD6.out HA2.out S6.out ?_)
                intro v7 w7 o7 g7
                have D7 := Lib.hid (D6.out.grown g7 S6.out (fun k hk => (O6.out.lt k hk).1))
                have B7 := Lib.hid (B2.out.trans (D7.out.mono B2.out.size))
                have O7 : Hid (w7.ownsRow w.heap.size 37 2 v7 TG.length (dcl TG)) := Lib.hid (by rw [← FIN.out.1, ← FIN.out.2, List.append_assoc]; exact own_base o7 B2.out.size)
                clear o7 g7
                go_wp2
                go_roundw
                case rel => exact ⟨k + 1, by omega, by go_num, by rw [HTG.out]; exact O7, B7⟩
                case measure => simp [RowKit.intOf]; omega
    · obtain rfl : k = L.length := by omega
      have hkl' : ¬ ((L.length : Nat) : Int) < L.length := by omega
      have TZ : L.take L.length = L := List.take_length
      rw [TZ] at OO
      rw [TZ]
      go_wp2
      go_ret
      exact ⟨_, rfl, OO.out, BB.out⟩
end Go.Proofs.YtijmijokgenflaaGreatDoor
/- The document's Corpus. -/
namespace Go.Proofs.YtijmijokgenflaaGreatDoor
open Go Go.RowKit
set_option linter.unusedVariables false
set_option maxRecDepth 1000000

theorem there_in {L : List Wr} {n : ByteArray} (h : n ∈ namesIn L) : readD L n = dvOf L n ∧ thereB L n = true := by
  obtain ⟨j, hj, rfl⟩ := List.getElem_of_mem h
  obtain ⟨y, l, e, _⟩ := block_some L j hj
  exact readD_some e
set_option maxHeartbeats 8000000 in
theorem refCorpus_is (F : Nat → Int) (p : Option Addr) (c : Nat) (L : List Wr) (w : World) (h : WrsAt w p L) (hn : L.length ≤ 1000) :
    Calls Tryz.prog 19 #[.agg (scs F (.slice p L.length c))] w (fun e w' => ∃ v, e = .returned v ∧ w'.ownsRow w.heap.size 31 5 v (corpusIn L).length (vcl (corpusIn L)) ∧ Below w.heap.size w w') := by
  have NM := Lib.hid (fun (V : World) (hV : Below w.heap.size w V) => refNames_is F p c L V (h.below hV) hn)
  have RD := Lib.hid (fun (V : World) (hV : Below w.heap.size w V) (n : ByteArray) (hm : n ∈ namesIn L) => (show Calls Tryz.prog 7 #[.agg (scs F (.slice p L.length c)), .string n] V (fun e w' => e = .returned (.tuple #[.agg (dvA (dvOf L n)), .bool true]) ∧ Below V.heap.size V w') from by
    have := refRead_is F p c L n V (h.below hV) hn
    unfold ReadDR at this
    rw [(there_in hm).1, (there_in hm).2] at this
    exact this))
  have CE : Hid (corpusIn L = (namesIn L).map (dvOf L)) := Lib.hid rfl
  have NLE := namesIn_len L
  rw [CE.out]
  clear h CE
  generalize namesIn L = N at *
  generalize dvOf L = dv at *
  go_enter Tryz.func19, Tryz.ntmps19
  go_wp2_with (refine wpList_gbox rfl _ rfl (scs F (.slice p L.length c)) rfl ?_)
  intro g2 w1 l2 h2 hb1
  have S1 : Hid (Sx w1 g2 F (.slice p L.length c)) := Lib.hid h2
  have B1 := Lib.hid hb1
  clear h2 hb1
  have SW := Lib.hid (S1.out.whole)
  go_wp2_with (refine wpList_gload rfl _ rfl g2 0 rfl _ SW.out _ Tryz.underlying26 rfl (sizeStl _ _) ?_)
  refine (NM.out w1 B1.out).mono ?_
  rintro e w2 ⟨v2, rfl, o2, b2⟩
  obtain ⟨pn, cn, rfl⟩ := own_slice o2
  have B2 := Lib.hid (thenBelow B1.out b2)
  have S2 := Lib.hid (S1.out.later b2)
  have O2 := Lib.hid o2
  clear NM o2 b2 S1 SW
  dsimp only
  go_wp2_with fail
  go_loopw [3, 11] (fun v i wr => ∃ j : Nat, j ≤ N.length ∧ i = .int .i64 j ∧ Hid (wr.ownsRow w2.heap.size 31 5 v ((N.take j).map dv).length (vcl ((N.take j).map dv))) ∧ Hid (Below w2.heap.size w2 wr)) (fun _ i _ => N.length - (RowKit.intOf i).toNat)
  case atStart => exact ⟨0, Nat.zero_le _, rfl, Lib.hid ⟨rfl, .inl ⟨rfl, rfl⟩⟩, Lib.hid (Below.refl _ _)⟩
  case round =>
    obtain ⟨j, hj, rfl, OO, BB⟩ := hrel
    obtain ⟨q, cq, hq⟩ := own_slice OO.out
    subst hq
    by_cases hjl : j < N.length
    · have hjl' : (j : Int) < N.length := by omega
      obtain ⟨g, rfl, d0⟩ := str_at (own_later O2.out BB.out) hjl
      have TK : Hid ((N.take (j + 1)).map dv = (N.take j).map dv ++ [dv N[j]]) := Lib.hid (by rw [List.take_succ_eq_append_getElem hjl, List.map_append]; rfl)
      have ML : ((N.take j).map dv).length ≤ 1000 := by rw [List.length_map, List.length_take]; omega
      have RJ := Lib.hid (fun (V : World) (hV : Below w.heap.size w V) => RD.out V hV N[j] (List.getElem_mem hjl))
      obtain ⟨n, hn2⟩ : ∃ n, N[j] = n := ⟨_, rfl⟩
      rw [hn2] at d0 TK RJ
      clear hn2
      generalize (N.take j).map dv = M at OO TK ML
      obtain ⟨⟨di, t0, t1, t2, t3⟩, hd⟩ : ∃ d, dv n = d := ⟨_, rfl⟩
      rw [hd] at TK RJ
      have SW := Lib.hid ((S2.out.later BB.out).whole)
      clear hd
      go_wp2_with (refine wpList_gload rfl _ rfl g2 0 rfl _ SW.out _ Tryz.underlying26 rfl (sizeStl _ _) ?_)
      refine (RJ.out wr (thenBelow B2.out BB.out)).mono ?_
      rintro e w5 ⟨rfl, b5⟩
      have b6 := below_alloc w5 (.cells #[.string di, .string t0, .string t1, .string t2, .string t3] 31)
      have B6 := Lib.hid (thenBelow (thenBelow BB.out b5) b6)
      have O6 := Lib.hid (own_later OO.out (thenBelow b5 b6))
      clear RJ SW b5 b6 OO BB d0
      dsimp only [dvA]
      go_wp2_with (at_builtin; refine wpList_dv _ rfl _ _ rfl w2.heap.size M.length (vcl M) _ rfl O6.out ⟨di, t0, t1, t2, t3⟩ (by rw [World.size_alloc]; rfl) (by omega) B6.out.size ?_)
      intro v6 w6 o6 g6
      have B7 := Lib.hid (B6.out.grown g6 B6.out.size (fun k hk => (O6.out.lt k hk).1))
      have O7 : Hid (w6.ownsRow w2.heap.size 31 5 v6 ((N.take (j + 1)).map dv).length (vcl ((N.take (j + 1)).map dv))) := Lib.hid (by rw [TK.out, vcl_snoc, List.length_append]; exact o6)
      clear o6 g6 O6 B6 TK
      go_wp2
      go_roundw
      case rel => exact ⟨j + 1, by omega, by go_num, O7, B7⟩
      case measure => simp [RowKit.intOf]; omega
    · obtain rfl : j = N.length := by omega
      have hjl' : ¬ ((N.length : Nat) : Int) < N.length := by omega
      have TZ : N.take N.length = N := List.take_length
      rw [TZ] at OO
      rw [TZ]
      have BZ := Lib.hid (thenBelow B2.out BB.out)
      have oz := own_base OO.out B2.out.size
      rw [List.length_map] at oz
      have OZ := Lib.hid oz
      clear oz
      go_wp2
      go_ret
      exact ⟨_, rfl, OZ.out, BZ.out⟩
end Go.Proofs.YtijmijokgenflaaGreatDoor
