/- SortedMerges: the walk. -/
import Derived.Test.YtlajceamjodcjaaSrtMergesP
import Derived.Test.YtlajceamjodcjaaOpenRI
namespace Go.Proofs.Ytlajceamjodcjaa
open Go Go.RowKit Hp
set_option linter.unusedVariables false

theorem liesI_take {w : World} {p : Option Addr} {l : List Int} (h : LiesI w p l) (k : Nat) : LiesI w p (l.take k) := by
  intro h0
  have hne : l ≠ [] := by rintro rfl; simp at h0
  obtain ⟨b, o, rfl, hc⟩ := h hne
  refine ⟨b, o, rfl, fun i hi => ?_⟩
  rw [List.length_take] at hi
  rw [hc i (by omega)]
  simp [List.getD, List.getElem?_take, show i < k by omega]
set_option maxHeartbeats 600000
set_option maxRecDepth 100000
theorem sortedMerges_walk (p : Option Addr) (c : Nat) (L : List RowI) (w : World) (hcame : CameRI w p c L) : Calls Try.prog 7 #[.slice p L.length c] w fun e w' => e = .returned (.bool true) ∧ Below w.heap.size w w' := by
  have CM := Lib.hid hcame
  have hLc := hcame.le; have hLr := hcame.reach
  clear hcame
  obtain ⟨ll, hll⟩ : ∃ ll, ll = L.map (·.l) := ⟨_, rfl⟩
  have HLL := Lib.hid hll
  clear hll
  go_enter Try.func7, Try.ntmps7
  go_wp2
  go_loopw [3, 4, 5, 10] (fun v3 v4 n i wr => ∃ (k : Nat) (xs : List Value), k ≤ L.length ∧ k ≤ 20 ∧ i = .int .i64 k ∧ n = .int .i64 (sumM (tkM ll k) : Nat) ∧ SMS wr w.heap.size ((tkM ll k).map sortK) ((tkM ll k).map sortK).flatten xs v3 v4 ∧ Below w.heap.size w wr) (fun _ _ _ i _ => L.length - (intOf i).toNat)
  case atStart => exact ⟨0, [], Nat.zero_le _, Nat.zero_le _, rfl, rfl, ⟨⟨rfl, .inl ⟨rfl, rfl⟩⟩, fun _ => rfl, ⟨rfl, .inl ⟨rfl, rfl⟩⟩, fun I hI => by simp [tkM] at hI⟩, Below.refl _ _⟩
  case round =>
    obtain ⟨k, xs, hkl, hk20, rfl, rfl, hst, hb⟩ := hrel
    have hz := hb.size
    have ST := Lib.hid hst; have BB := Lib.hid hb
    clear hst hb
    by_cases hlt : k < L.length
    · have hlt' : (k : Int) < L.length := by omega
      obtain ⟨bk, o, rfl, hcs⟩ := CM.out.lies (by rintro rfl; simp at hlt)
      obtain ⟨hc0, hr0⟩ := hcs k hlt
      have hc1 := (BB.out.cell (p := ⟨bk, o + k, none⟩) (World.block_lt_of_cell? w _ hc0)).trans hc0
      have hr1 := hr0.below (w' := wr) (BB.out)
      have hll1 : ll.getD k [] = (L.getD k rowI0).l := by rw [HLL.out]; simp [List.getD, List.getElem?_eq_getElem hlt]
      have TS := Lib.hid (show tkM ll (k + 1) = tkM ll k ++ [(ll.getD k []).take (200 - sumM (tkM ll k))] from rfl)
      have hs := tkM_sum ll k
      have hTk := tkM_len ll k
      generalize tkM ll k = T at TS ST hs hTk ⊢
      rw [hll1] at TS
      have hrw := hr0.lies
      generalize L.getD k rowI0 = r at hc1 hr1 TS hrw
      obtain ⟨rp, rc, rl⟩ := r
      simp only at hc1 hr1 TS hrw
      obtain ⟨s, hsE⟩ : ∃ s, s = sumM T := ⟨_, rfl⟩
      rw [← hsE] at hs TS ⊢
      clear hc0 hr0 hcs hll1
      by_cases h20 : k < 20
      · have h20' : ¬ (k : Int) ≥ 20 := by omega
        have hrl := hr1.le
        have hrm := hr1.max
        unfold maxLen at hrm
        simp only at hrl hrm
        have HR := Lib.hid hr1
        clear hr1
        have hTl := Lib.hid (show (T.map sortK).length = k by rw [List.length_map]; exact hTk)
        have HSE := Lib.hid hsE
        clear hTk hsE
        by_cases hrs : rl.length ≤ 200 - s
        · have hrs' : (rl.length : Int) ≤ 200 - s := by omega
          rw [List.take_of_length_le hrs] at TS
          have HLW := Lib.hid hrw
          clear hrw
          go_wp2_with fail
          have HLw := Lib.hid (HLW.out.below BB.out)
          refine (refSort_is rp rc rl wr HLw.out (by omega)).mono ?_
          rintro e w1 ⟨v1, rfl, hown1, hb1⟩
          obtain ⟨_, q1, c1, rfl, _, hq1, hn1⟩ := own_liesI hown1
          have FR := Lib.hid (ST.out.fresh hown1)
          have ST1 := Lib.hid (ST.out.below hb1)
          have B1 := Lib.hid (thenBelow BB.out hb1)
          have hz1 := Nat.le_trans hz hb1.size
          have HQ1 := Lib.hid hq1
          clear hown1 hb1 hq1 ST BB
          go_wp2_with (at_builtin; refine wpList_oneAt Try.underlying66 infoII rfl (by decide) w1 rfl _ _ rfl w.heap.size (T.map sortK).length xs u3 rfl ST1.out.own3 (.slice q1 (sortK rl).length c1) rfl rfl (by rw [hTl.out]; omega) hz1 ?_)
          intro v3 w2 hown2 hb2 hg2 ha2
          have ST2 := Lib.hid (ST1.out.push3 HQ1.out FR.out (by rw [List.length_map]; exact hown2) hg2 ha2)
          have B2 := Lib.hid (B1.out.trans hb2)
          have hz2 := Nat.le_trans hz1 hb2.size
          clear hown2 hb2 hg2 ha2 FR HQ1
          go_wp2_with fail
          refine (refSort_is rp rc rl w2 (HLW.out.below B2.out) (by omega)).mono ?_
          rintro e w3 ⟨v2, rfl, hown3, hb3⟩
          obtain ⟨_, q2, c2, rfl, _, hq2, hn2⟩ := own_liesI hown3
          have ST3 := Lib.hid (ST2.out.below hb3)
          have B3 := Lib.hid (thenBelow B2.out hb3)
          have hz3 := Nat.le_trans hz2 hb3.size
          have HQ2 := Lib.hid hq2
          have hn2' : q2 = none → (sortK rl).length = 0 ∧ c2 = 0 := fun e => ⟨by rw [(hn2 e).1]; rfl, (hn2 e).2⟩
          have HN2 := Lib.hid hn2'
          clear hown3 hb3 hq2 ST2 hn2 hn2' hn1
          go_wp2_with (at_builtin; refine wpList_catAt isI64 w3 rfl _ _ rfl w.heap.size (T.map sortK).flatten u4 rfl ST3.out.own4 q2 _ c2 (sortK rl) rfl HQ2.out rfl HN2.out (by rw [flat_len, sum_sorted, sortK_len, ← HSE.out]; omega) hz3 ?_)
          intro v4 w4 hown4 hb4 hg4 ha4
          have ST4 := Lib.hid (ST3.out.push4 (by simpa using hown4) hg4 ha4)
          have B4 := Lib.hid (B3.out.trans hb4)
          clear hown4 hb4 hg4 ha4 HQ2 HN2
          go_wp2
          go_roundw
          case rel =>
            refine ⟨k + 1, xs ++ [.slice q1 (sortK rl).length c1], by omega, by omega, by go_num, ?_, ?_, B4.out⟩
            · rw [TS.out, sumM_snoc, ← HSE.out]; congr 1
            · rw [TS.out, List.map_append, List.map_cons, List.map_nil, List.flatten_append, List.flatten_cons, List.flatten_nil, List.append_nil]; exact ST4.out
          case measure => simp [intOf]; omega
        · have hrs' : ¬ (rl.length : Int) ≤ 200 - s := by omega
          obtain ⟨l1, hl1⟩ : ∃ l1, l1 = rl.take (200 - s) := ⟨_, rfl⟩
          have hl1n : 200 - s = l1.length := by rw [hl1, List.length_take]; omega
          have hlw : LiesI w rp l1 := by rw [hl1]; exact liesI_take hrw _
          rw [← hl1] at TS
          have HLN := Lib.hid hl1n; have HLW := Lib.hid hlw
          clear hl1 hrw hl1n hlw
          go_wp2_with fail
          rw [HLN.out]
          have hl1n := HLN.out
          clear HLN
          have HLw := Lib.hid (HLW.out.below BB.out)
          refine (refSort_is rp rc l1 wr HLw.out (by omega)).mono ?_
          rintro e w1 ⟨v1, rfl, hown1, hb1⟩
          obtain ⟨_, q1, c1, rfl, _, hq1, hn1⟩ := own_liesI hown1
          have FR := Lib.hid (ST.out.fresh hown1)
          have ST1 := Lib.hid (ST.out.below hb1)
          have B1 := Lib.hid (thenBelow BB.out hb1)
          have hz1 := Nat.le_trans hz hb1.size
          have HQ1 := Lib.hid hq1
          clear hown1 hb1 hq1 ST BB
          go_wp2_with (at_builtin; refine wpList_oneAt Try.underlying66 infoII rfl (by decide) w1 rfl _ _ rfl w.heap.size (T.map sortK).length xs u3 rfl ST1.out.own3 (.slice q1 (sortK l1).length c1) rfl rfl (by rw [hTl.out]; omega) hz1 ?_)
          intro v3 w2 hown2 hb2 hg2 ha2
          have ST2 := Lib.hid (ST1.out.push3 HQ1.out FR.out (by rw [List.length_map]; exact hown2) hg2 ha2)
          have B2 := Lib.hid (B1.out.trans hb2)
          have hz2 := Nat.le_trans hz1 hb2.size
          clear hown2 hb2 hg2 ha2 FR HQ1
          go_wp2_with fail
          refine (refSort_is rp rc l1 w2 (HLW.out.below B2.out) (by omega)).mono ?_
          rintro e w3 ⟨v2, rfl, hown3, hb3⟩
          obtain ⟨_, q2, c2, rfl, _, hq2, hn2⟩ := own_liesI hown3
          have ST3 := Lib.hid (ST2.out.below hb3)
          have B3 := Lib.hid (thenBelow B2.out hb3)
          have hz3 := Nat.le_trans hz2 hb3.size
          have HQ2 := Lib.hid hq2
          have hn2' : q2 = none → (sortK l1).length = 0 ∧ c2 = 0 := fun e => ⟨by rw [(hn2 e).1]; rfl, (hn2 e).2⟩
          have HN2 := Lib.hid hn2'
          clear hown3 hb3 hq2 ST2 hn2 hn2' hn1
          go_wp2_with (at_builtin; refine wpList_catAt isI64 w3 rfl _ _ rfl w.heap.size (T.map sortK).flatten u4 rfl ST3.out.own4 q2 _ c2 (sortK l1) rfl HQ2.out rfl HN2.out (by rw [flat_len, sum_sorted, sortK_len, ← HSE.out]; omega) hz3 ?_)
          intro v4 w4 hown4 hb4 hg4 ha4
          have ST4 := Lib.hid (ST3.out.push4 (by simpa using hown4) hg4 ha4)
          have B4 := Lib.hid (B3.out.trans hb4)
          clear hown4 hb4 hg4 ha4 HQ2 HN2
          go_wp2
          go_roundw
          case rel =>
            refine ⟨k + 1, xs ++ [.slice q1 (sortK l1).length c1], by omega, by omega, by go_num, ?_, ?_, B4.out⟩
            · rw [TS.out, sumM_snoc, ← HSE.out]; congr 1
            · rw [TS.out, List.map_append, List.map_cons, List.map_nil, List.flatten_append, List.flatten_cons, List.flatten_nil, List.append_nil]; exact ST4.out
          case measure => simp [intOf]; omega
      · have h20' : (k : Int) ≥ 20 := by omega
        rw [hsE] at hs
        have hTk' := Lib.hid hTk
        clear hr1 hrw hsE TS hTk
        have hTl : T.length ≤ 20 := by rw [hTk'.out]; exact hk20
        have M0 := ST.out.merge (sorted_rows T) (by rw [List.length_map]; exact hTl) (by rw [sum_sorted]; exact hs)
        have hA200 : (T.map sortK).flatten.length ≤ 200 := by rw [flat_len, sum_sorted]; omega
        have O4 := ST.out.own4
        generalize (T.map sortK).flatten = A at M0 O4 hA200
        obtain ⟨_, p4, c4, rfl, _, hl4, _⟩ := own_liesI O4
        have HL4 := Lib.hid hl4; have HM := Lib.hid M0
        clear hl4 M0 O4 ST
        go_wp2_with fail
        refine HM.out.mono ?_
        rintro e w5 ⟨p5, c5, rfl, hl5, hb5⟩
        have HL5 := Lib.hid hl5; have B5 := Lib.hid (thenBelow BB.out hb5); have HL4' := Lib.hid (HL4.out.below hb5)
        clear hl5 hb5 HM BB HL4
        go_wp2_with fail
        refine (refSort_is p4 c4 A w5 HL4'.out (by omega)).mono ?_
        rintro e w6 ⟨v6, rfl, hown6, hb6⟩
        obtain ⟨_, p6, c6, rfl, _, hl6, _⟩ := own_liesI hown6
        have HL6 := Lib.hid hl6; have B6 := Lib.hid (thenBelow B5.out hb6); have HL5' := Lib.hid (HL5.out.below hb6)
        have hK : (sortK A).length ≤ 1000000 := by rw [sortK_len]; omega
        clear hl6 hown6 hb6 B5 HL5 HL4'
        go_wp2_with fail
        refine (equalI_any p5 p6 c5 c6 (sortK A) w6 HL5'.out HL6.out hK).mono ?_
        rintro e w7 ⟨rfl, hb7⟩
        have B7 := Lib.hid (thenBelow B6.out hb7)
        clear hb7 B6 HL5' HL6
        go_wp2_with fail
        refine (awake6 w7).mono ?_
        rintro e w8 ⟨rfl, hb8⟩
        have B8 := Lib.hid (thenBelow B7.out hb8)
        clear hb8 B7
        go_wp2_with fail
        go_ret
        exact ⟨ret_bool rfl, B8.out⟩
    · obtain rfl : k = L.length := by omega
      have hlt' : ¬ ((L.length : Nat) : Int) < L.length := by omega
      have hs := tkM_sum ll L.length
      have hTl : (tkM ll L.length).length ≤ 20 := by rw [tkM_len]; exact hk20
      generalize tkM ll L.length = T at ST hs hTl ⊢
      have M0 := ST.out.merge (sorted_rows T) (by rw [List.length_map]; exact hTl) (by rw [sum_sorted]; exact hs)
      have hA200 : (T.map sortK).flatten.length ≤ 200 := by rw [flat_len, sum_sorted]; omega
      have O4 := ST.out.own4
      generalize (T.map sortK).flatten = A at M0 O4 hA200
      obtain ⟨_, p4, c4, rfl, _, hl4, _⟩ := own_liesI O4
      have HL4 := Lib.hid hl4; have HM := Lib.hid M0
      clear hl4 M0 O4 ST
      go_wp2_with fail
      refine HM.out.mono ?_
      rintro e w5 ⟨p5, c5, rfl, hl5, hb5⟩
      have HL5 := Lib.hid hl5; have B5 := Lib.hid (thenBelow BB.out hb5); have HL4' := Lib.hid (HL4.out.below hb5)
      clear hl5 hb5 HM BB HL4
      go_wp2_with fail
      refine (refSort_is p4 c4 A w5 HL4'.out (by omega)).mono ?_
      rintro e w6 ⟨v6, rfl, hown6, hb6⟩
      obtain ⟨_, p6, c6, rfl, _, hl6, _⟩ := own_liesI hown6
      have HL6 := Lib.hid hl6; have B6 := Lib.hid (thenBelow B5.out hb6); have HL5' := Lib.hid (HL5.out.below hb6)
      have hK : (sortK A).length ≤ 1000000 := by rw [sortK_len]; omega
      clear hl6 hown6 hb6 B5 HL5 HL4'
      go_wp2_with fail
      refine (equalI_any p5 p6 c5 c6 (sortK A) w6 HL5'.out HL6.out hK).mono ?_
      rintro e w7 ⟨rfl, hb7⟩
      have B7 := Lib.hid (thenBelow B6.out hb7)
      clear hb7 B6 HL5' HL6
      go_wp2_with fail
      refine (awake6 w7).mono ?_
      rintro e w8 ⟨rfl, hb8⟩
      have B8 := Lib.hid (thenBelow B7.out hb8)
      clear hb8 B7
      go_wp2_with fail
      go_ret
      exact ⟨ret_bool rfl, B8.out⟩
end Go.Proofs.Ytlajceamjodcjaa
