/- The statement DocsReads, proved for every input that its row reads: part 37 of 54. -/
import Derived.Test.YtijmijokgenflaaGreatDoorPackDocsReads28
import Derived.Test.YtijmijokgenflaaGreatDoorPackDocsReads36
import Derived.Test.YtijmijokgenflaaGreatDoorPackDocsReads21
/- docs.Corpus: all documents as one reads them; docs.Read of any. -/
namespace Go.Proofs.YtijmijokgenflaaGreatDoor
open Go Go.RowKit
set_option linter.unusedVariables false
set_option maxRecDepth 1000000

theorem cmpS_negD (a b : ByteArray) : decide (cmpS a b < 0) = ltB a b := by
  unfold cmpS
  cases ltB a b <;> cases ltB b a <;> decide
set_option maxHeartbeats 1000000 in
theorem corpus_tell (x y : Wr) (w : World) : Calls Tryz.prog 38 #[.agg x.cells.toArray, .agg y.cells.toArray] w (TellPW (ltN x y) w) := by
  have CM := Lib.hid (compareS_is x.doc y.doc)
  have HB : Hid (decide (cmpS x.doc y.doc < 0) = ltN x y) := Lib.hid (cmpS_negD _ _)
  obtain ⟨b, hb⟩ : ∃ b, ltN x y = b := ⟨_, rfl⟩
  rw [hb] at HB ⊢
  clear hb
  obtain ⟨xr, xn, xt, xd, xf, xx⟩ := x
  obtain ⟨yr, yn, yt, yd, yf, yx⟩ := y
  simp only at CM HB
  generalize cmpS xd yd = i at CM HB
  change Calls Tryz.prog 38 #[.agg #[.int .i64 xr, .int .i64 xn, .int .i64 xt, .string xd, .int .i64 xf, .string xx], .agg #[.int .i64 yr, .int .i64 yn, .int .i64 yt, .string yd, .int .i64 yf, .string yx]] w _
  have b1 := below_alloc w (.cells #[.int .i64 xr, .int .i64 xn, .int .i64 xt, .string xd, .int .i64 xf, .string xx] 39)
  have b2 := below_alloc (w.alloc (.cells #[.int .i64 xr, .int .i64 xn, .int .i64 xt, .string xd, .int .i64 xf, .string xx] 39)) (.cells #[.int .i64 yr, .int .i64 yn, .int .i64 yt, .string yd, .int .i64 yf, .string yx] 39)
  have B2 := Lib.hid (thenBelow b1 b2)
  clear b1 b2
  go_enter Tryz.func38, Tryz.ntmps38
  go_wp2_with fail
  refine (CM.out _).mono ?_
  rintro e w3 ⟨rfl, hw3⟩
  subst hw3
  clear CM
  dsimp only
  go_wp2
  go_ret
  exact ⟨i, rfl, HB.out, B2.out⟩
theorem corpus_tells : TellsW 38 #[] ltN where
  enter := fun args w => by kernel_rfl
  tell := fun x y w => by
    rw [show (#[.agg x.cells.toArray, .agg y.cells.toArray] ++ #[] : Array Value) = #[.agg x.cells.toArray, .agg y.cells.toArray] from rfl]
    exact corpus_tell x y w
theorem wrs_front {w : World} {b o : Nat} {A B : List Wr} (h : WrsAt w (some ⟨b, o, none⟩) (A ++ B)) : WrsAt w (some ⟨b, o, none⟩) A where
  row hn := by
    obtain ⟨b', o', e, hr⟩ := h.row (by simp [hn])
    cases e
    exact ⟨b, o, rfl, fun j u hu => hr j u (by rw [wcl_append, List.getElem?_append_left (List.getElem?_eq_some_iff.1 hu).1]; exact hu)⟩
  none e := by cases e
theorem wrs_back {w : World} {b o : Nat} {A B : List Wr} (h : WrsAt w (some ⟨b, o, none⟩) (A ++ B)) : WrsAt w (some ⟨b, o + A.length * 6, none⟩) B where
  row hn := by
    obtain ⟨b', o', e, hr⟩ := h.row (by simp [hn])
    cases e
    refine ⟨b, o + A.length * 6, rfl, fun j u hu => ?_⟩
    have := hr (A.length * 6 + j) u (by rw [wcl_append, List.getElem?_append_right (by rw [wcl_length]; omega), wcl_length, Nat.add_sub_cancel_left]; exact hu)
    rw [Nat.add_assoc]; exact this
  none e := by cases e
theorem readOf_dv (p : Option Addr) (c : Nat) (L : List Wr) (n : ByteArray) (y : Wr) (l : List Wr) (w : World) (hl : ofW L n (-1) = y :: l) (h : WrsAt w p (ofW L n (-1))) (hn : L.length ≤ 1000) :
    Calls Tryz.prog 25 #[.slice p (ofW L n (-1)).length c] w (fun e w' => e = .returned (.agg (dvA (dvOf L n))) ∧ Below w.heap.size w w') := by
  have hy : y.doc = n := ofW_doc (k := -1) (L := L) (by rw [hl]; simp)
  have hln : (ofW L n (-1)).length ≤ L.length := by rw [ofW_all]; exact List.length_filter_le _ _
  have e1 : dvOf L n = ⟨y.doc, latestOf (y :: l) 1, latestOf (y :: l) 2, latestOf (y :: l) 3, latestOf (y :: l) 4⟩ := by unfold dvOf; rw [hl, hy]
  rw [e1]
  rw [hl] at h hln ⊢
  exact (readOf_is p c y l w h (by omega)).mono fun e w' ⟨h1, h2⟩ => ⟨h1, h2⟩
set_option maxHeartbeats 8000000 in
theorem docCorpus_is (F : Nat → Int) (p : Option Addr) (c : Nat) (L : List Wr) (w : World) (h : WrsAt w p L) (ho : ∀ a, p = some a → ∃ b o, a = ⟨b, o, none⟩) (hn : L.length ≤ 1000) :
    Calls Tryz.prog 18 #[.agg (scs F (.slice p L.length c))] w (fun e w' => ∃ v, e = .returned v ∧ w'.ownsRow w.heap.size 31 5 v (corpusIn L).length (vcl (corpusIn L)) ∧ Below w.heap.size w w') := by
  have CL := Lib.hid (fun (V : World) (hV : Below w.heap.size w V) => cloneW_is p c L V (h.below hV) ho (by omega))
  clear h ho
  go_enter Tryz.func18, Tryz.ntmps18
  go_wp2_with (refine wpList_gbox rfl _ rfl (scs F (.slice p L.length c)) rfl ?_)
  intro g2 w1 l2 h2 hb1
  have S1 : Hid (Sx w1 g2 F (.slice p L.length c)) := Lib.hid h2
  have B1 := Lib.hid hb1
  clear h2 hb1
  have s1 := S1.out.slot
  go_wp2_with fail
  refine (CL.out w1 B1.out).mono ?_
  rintro e w2 ⟨v2, rfl, o2, b2⟩
  obtain ⟨q, cq, rfl⟩ := own_slice o2
  have B2 := Lib.hid (thenBelow B1.out b2)
  have SO := Lib.hid (stsAnyL ltN sw_N 38 corpus_tells w1.heap.size q cq L w2 o2 (by omega) b2.size)
  clear CL o2 b2 s1
  dsimp only
  go_wp2_with fail
  refine SO.out.mono ?_
  rintro e w3 ⟨rfl, o3, b3⟩
  have B3 := Lib.hid (B2.out.trans (b3.mono B1.out.size))
  have e0 : (isrt ltN L).length = L.length := isrt_len L
  have o3' : w3.ownsRow w1.heap.size 39 6 (.slice q L.length cq) (isrt ltN L).length (wcl (isrt ltN L)) := by rw [e0]; exact o3
  obtain ⟨pq, cq', e1, hcq, W3, N3⟩ := own_wat o3'
  injection e1 with e1 e2 e3
  subst e1 e3
  have f0 := fromN_all L
  rw [f0] at W3 hcq e0
  have HW := Lib.hid W3
  have NQ := Lib.hid N3
  clear SO o3 o3' b3 W3 N3 f0 S1
  obtain ⟨N, hN⟩ : ∃ N, namesIn L = N := ⟨_, rfl⟩
  have HNN := Lib.hid hN
  have NL : N.length ≤ L.length := by rw [← hN]; exact namesIn_len L
  have CE : Hid (corpusIn L = N.map (dvOf L)) := Lib.hid (by rw [← hN]; rfl)
  have e4 : (L.length : Nat) = (fromN L 0).length := e0.symm
  rw [e4]
  dsimp only
  go_wp2_with fail
  have z3 : w.heap.size ≤ w3.heap.size := B3.out.size
  go_loopw [3, 4] (fun v u wr => ∃ (j : Nat) (pp : Option Addr) (cc : Nat), j ≤ N.length ∧ v = .slice pp (fromN L j).length cc ∧ (fromN L j).length ≤ cc ∧ Hid (WrsAt w3 pp (fromN L j)) ∧ (∀ a, pp = some a → ∃ b o, a = ⟨b, o, none⟩) ∧ Hid (wr.ownsRow w3.heap.size 31 5 u ((N.take j).map (dvOf L)).length (vcl ((N.take j).map (dvOf L)))) ∧ Hid (Below w3.heap.size w3 wr)) (fun v _ _ => (match v with | .slice _ n _ => n | _ => 0))
  case atStart => exact ⟨0, _, _, Nat.zero_le _, rfl, hcq, HW, NQ.out, Lib.hid ⟨rfl, .inl ⟨rfl, rfl⟩⟩, Lib.hid (Below.refl _ _)⟩
  case round =>
    clear HW NQ hcq e0 e4 e2
    obtain ⟨j, pp, cc, hj, rfl, hcc, WW, NP, OO, BB⟩ := hrel
    obtain ⟨qd, cd, hq⟩ := own_slice OO.out
    subst hq
    by_cases hjN : j < N.length
    · have hjN' : j < (namesIn L).length := by rw [hN]; exact hjN
      obtain ⟨y, l, hyl, hyd⟩ := block_some L j hjN'
      have hnx := fromN_next L j hjN'
      have hrest := block_rest L j hjN'
      have en : (namesIn L)[j] = N[j] := by simp [hN]
      rw [en] at hyl hyd hnx hrest
      have TK : Hid ((N.take (j + 1)).map (dvOf L) = (N.take j).map (dvOf L) ++ [dvOf L N[j]]) := Lib.hid (by rw [List.take_succ_eq_append_getElem hjN, List.map_append]; rfl)
      have ML : ((N.take j).map (dvOf L)).length ≤ 1000 := by rw [List.length_map, List.length_take]; omega
      have fl := fromN_len L j
      obtain ⟨n, hn2⟩ : ∃ n, N[j] = n := ⟨_, rfl⟩
      rw [hn2] at hyl hyd hnx hrest TK
      have hpos : 0 < (ofW L n (-1)).length := by rw [hyl]; simp
      have hdoc : ∀ x ∈ ofW L n (-1), x.doc = n := fun x hx => ofW_doc hx
      obtain ⟨b, o, rfl⟩ : ∃ b o, pp = some ⟨b, o, none⟩ := by
        cases pp with
        | none => have := WW.out.none rfl; rw [hnx, hyl] at this; cases this
        | some a => obtain ⟨b, o, rfl⟩ := NP a rfl; exact ⟨b, o, rfl⟩
      rw [hnx] at WW hcc fl ⊢
      have W0 := WW.out.below BB.out
      have FI := Lib.hid (ofFirst_is (some ⟨b, o, none⟩) cc (ofW L n (-1)) (fromN L (j + 1)) n wr W0 hdoc hpos hrest (by omega))
      have RO := Lib.hid (fun (V : World) (hV : Below wr.heap.size wr V) => readOf_dv (some ⟨b, o, none⟩) cc L n y l V hyl ((wrs_front W0).below hV) hn)
      have WB := Lib.hid (wrs_back WW.out)
      have LEN : (ofW L n (-1) ++ fromN L (j + 1)).length = (ofW L n (-1)).length + (fromN L (j + 1)).length := List.length_append
      generalize (N.take j).map (dvOf L) = M at OO TK ML
      generalize dvOf L n = d at RO TK
      rw [LEN] at FI hcc fl ⊢
      generalize ofW L n (-1) = A at *
      obtain ⟨R, hR⟩ : ∃ R, fromN L (j + 1) = R := ⟨_, rfl⟩
      have HRR := Lib.hid hR
      rw [hR] at FI hcc fl hrest hnx WB LEN ⊢
      clear hR
      have hpos' : (0 : Int) < ((A.length + R.length : Nat) : Int) := by omega
      have hA : A.length ≤ cc := by omega
      have hA' : (A.length : Int) ≤ cc := by omega
      clear hn2 hyl hyd hnx hrest hdoc W0 WW LEN en hjN'
      go_wp2_with fail
      refine FI.out.mono ?_
      rintro e wa ⟨rfl, ba⟩
      have RA := Lib.hid (RO.out wa ba)
      have BA := Lib.hid (thenBelow BB.out ba)
      have OA := Lib.hid (own_later OO.out ba)
      clear FI RO OO BB ba
      dsimp only
      go_wp2_with fail
      refine RA.out.mono ?_
      rintro e wb ⟨rfl, bb⟩
      have Bb := Lib.hid (thenBelow BA.out bb)
      have Ob := Lib.hid (own_later OA.out bb)
      clear RA OA BA bb
      obtain ⟨di, d0, d1, d2, d3⟩ := d
      simp only [dvA] at TK ⊢
      go_wp2_with (at_builtin; refine wpList_dv _ rfl _ _ rfl w3.heap.size M.length (vcl M) _ rfl Ob.out ⟨di, d0, d1, d2, d3⟩ rfl (by omega) Bb.out.size ?_)
      intro v6 w6 o6 g6
      have B6 := Lib.hid (Bb.out.grown g6 Bb.out.size (fun k hk => (Ob.out.lt k hk).1))
      have O6 : Hid (w6.ownsRow w3.heap.size 31 5 v6 ((N.take (j + 1)).map (dvOf L)).length (vcl ((N.take (j + 1)).map (dvOf L)))) := Lib.hid (by rw [TK.out, vcl_snoc, List.length_append]; exact o6)
      clear o6 g6 Ob Bb TK
      by_cases hcA : cc = A.length
      · subst hcA
        obtain rfl : R = [] := List.eq_nil_of_length_eq_zero (by omega)
        go_wp2
        go_roundw
        case rel => exact ⟨j + 1, some ⟨b, o, none⟩, 0, by omega, by rw [HRR.out]; rfl, by rw [HRR.out]; simp, Lib.hid (by rw [HRR.out]; exact ⟨fun h => absurd rfl h, fun h => by cases h⟩), fun a ha => ⟨b, o, (Option.some.inj ha).symm⟩, O6, B6⟩
        case measure => simp; omega
      · go_wp2
        go_roundw
        case rel => exact ⟨j + 1, some ⟨b, o + A.length * 6, none⟩, cc - A.length, by omega, by rw [HRR.out], by rw [HRR.out]; omega, by rw [HRR.out]; exact WB, fun a ha => ⟨b, o + A.length * 6, (Option.some.inj ha).symm⟩, O6, B6⟩
        case measure => simp; omega
    · obtain rfl : j = N.length := by omega
      have hend : fromN L N.length = [] := by rw [← hN]; exact fromN_end L
      rw [hend] at WW hcc ⊢
      rw [List.take_length] at OO
      have BZ := Lib.hid (B3.out.trans (BB.out.mono z3))
      have OZ := Lib.hid (own_base OO.out z3)
      clear WW OO BB
      have TZ : N.take N.length = N := List.take_length
      rw [TZ]
      go_wp2
      go_ret
      refine ⟨_, rfl, ?_, BZ.out⟩
      rw [CE.out]
      exact OZ.out
end Go.Proofs.YtijmijokgenflaaGreatDoor
