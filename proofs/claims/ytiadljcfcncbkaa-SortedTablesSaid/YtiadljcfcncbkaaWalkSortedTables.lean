/- SortedTables: the walk. -/
import Derived.Test.YtiadljcfcncbkaaTabRefCut
import Derived.Test.YtiadljcfcncbkaaSrtAwake
import Derived.Test.YtiadljcfcncbkaaBoxEqS
import Derived.Test.YtiadljcfcncbkaaSrtLays
import Derived.Deep.CutBlock
import Derived.Deep.DeepCutAuto
namespace Go.Proofs.Ytiadljcfcncbkaa
open Go Go.RowKit Hp
set_option linter.unusedVariables false

/-- deeds that came in: three cells each -/
abbrev Deed := Int × Int × ByteArray
abbrev deedD : Deed := (0, 0, ByteArray.empty)
def LiesDo (w : World) (p : Option Addr) (l : List Deed) : Prop :=
  l ≠ [] → ∃ b o, p = some ⟨b, o, none⟩ ∧ ∀ i, i < l.length → w.cell? ⟨b, o + i * 3, none⟩ = some (.int .i64 (l.getD i deedD).1) ∧ w.cell? ⟨b, o + i * 3 + 1, none⟩ = some (.int .i64 (l.getD i deedD).2.1) ∧ w.cell? ⟨b, o + i * 3 + 2, none⟩ = some (.string (l.getD i deedD).2.2)
theorem LiesDo.at {w w' : World} {p : Option Addr} {l : List Deed} (h : LiesDo w p l) (hb : Below w.heap.size w w') {i : Nat} (hi : i < l.length) :
    ∃ b o, p = some ⟨b, o, none⟩ ∧ b < w.heap.size ∧ w'.cell? ⟨b, o + i * 3, none⟩ = some (.int .i64 (l.getD i deedD).1) ∧ w'.cell? ⟨b, o + i * 3 + 1, none⟩ = some (.int .i64 (l.getD i deedD).2.1) ∧ w'.cell? ⟨b, o + i * 3 + 2, none⟩ = some (.string (l.getD i deedD).2.2) := by
  obtain ⟨b, o, rfl, hc⟩ := h (by rintro rfl; simp at hi)
  obtain ⟨h1, h2, h3⟩ := hc i hi
  have hlt := World.block_lt_of_cell? w _ h1
  exact ⟨b, o, rfl, hlt, (hb.cell (p := ⟨b, o + i * 3, none⟩) hlt).trans h1, (hb.cell (p := ⟨b, o + i * 3 + 1, none⟩) hlt).trans h2, (hb.cell (p := ⟨b, o + i * 3 + 2, none⟩) hlt).trans h3⟩
/-- what lies while deeds are done: the table at n0, rows of the call's own -/
structure TW (n0 : Nat) (r : Tb.Rows ByteArray) (v : Value) (w : World) : Prop where
  tab : TabS (n0 + 1) n0 r w
  row : w.ownsRow (n0 + 1) 37 2 v r.length (pc (rowsE r))
  rise : Tb.Rise ltB r
theorem TW.lt {n0 : Nat} {r : Tb.Rows ByteArray} {v : Value} {w : World} (h : TW n0 r v w) : n0 < w.heap.size := by
  obtain ⟨vk, vv, h1, _⟩ := h.tab
  exact (Array.getElem?_eq_some_iff.1 h1).1
theorem TW.below {n0 : Nat} {r : Tb.Rows ByteArray} {v : Value} {w w' : World} (h : TW n0 r v w) (hb : Below w.heap.size w w') : TW n0 r v w' := ⟨h.tab.below hb, own_later2 h.row hb, h.rise⟩
theorem row_stay {w w' : World} {B n : Nat} {v : Value} {xs : List Value} (h : w.ownsRow B 37 2 v n xs) (hs : TabStay w w') : w'.ownsRow B 37 2 v n xs := by
  refine ⟨h.1, ?_⟩
  rcases h.2 with q | ⟨g, cap, cur, q1, q2, q3, q4⟩
  · exact .inl q
  · exact .inr ⟨g, cap, cur, q1, q2, hs _ _ _ _ q3 (by decide) (by decide) (by decide), q4⟩
theorem tw_rows {n0 : Nat} {r' : Tb.Rows ByteArray} {v' : Value} {w w' : World} (hlt : n0 < w.heap.size) (ht : TabS (n0 + 1) n0 r' w) (hr : Tb.Rise ltB r') (hb : Below w.heap.size w w') (ho : w'.ownsRow w.heap.size 37 2 v' r'.length (pc (rowsE r'))) : TW n0 r' v' w' := by
  refine ⟨ht.below hb, ⟨ho.1, ?_⟩, hr⟩
  rcases ho.2 with q | ⟨g, cap, cur, q1, q2, q3⟩
  · exact .inl q
  · exact .inr ⟨g, cap, cur, q1, by omega, q3⟩
theorem own_liesR2 {w : World} {B : Nat} {e : TypeId} {q : Option Addr} {n c : Nat} {r : Tb.Rows ByteArray} (h : w.ownsRow B e 2 (.slice q n c) r.length (pc (rowsE r))) : LiesR w q r ∧ (q = none → r = [] ∧ c = 0) := by
  obtain ⟨_, p, cap, e1, _, h1⟩ := own_liesR h
  obtain ⟨_, p', cap', e2, _, h2, _⟩ := own_pc h
  injection e1 with e1 _ _
  injection e2 with e2 _ e3
  subst e1; subst e2; subst e3
  exact ⟨h1, fun hq => ⟨by simpa [rowsE] using (h2 hq).1, (h2 hq).2⟩⟩
theorem containsS_is (p : Option Addr) (c : Nat) (K : List ByteArray) (x : ByteArray) (bb : Bool) (w : World) (hl : LiesS w p K) (hbb : bb = true ↔ x ∈ K) (hn : K.length ≤ 1000000) : Calls Try.prog 19 #[.slice p K.length c, .string x] w fun e w' => e = .returned (.bool bb) ∧ w' = w := by
  by_cases h0 : K = []
  · subst h0
    obtain rfl : bb = false := by cases bb with | false => rfl | true => exact absurd (hbb.1 rfl) (by simp)
    exact Try.slices_Contains_string_empty p c x w
  · obtain ⟨b, o, rfl, hc⟩ := hl h0
    have h := Try.slices_Contains_string b o K.length c K x w (Nat.le_refl _) (by omega) hc
    rw [List.take_length] at h
    have e : Lib.containsS K x = bb := by rw [Bool.eq_iff_iff, hbb]; exact Lib.containsS_iff K x
    rw [e] at h
    exact h
theorem isOneS : One Try.prog 23 9 (.string ⟨#[]⟩) 16 := ⟨Try.underlying23, by kernel_rfl, rfl, by decide, by decide⟩
set_option maxHeartbeats 20000000
set_option maxRecDepth 1000000
theorem sortedTables_walk (p : Option Addr) (c : Nat) (l : List Deed) (key : ByteArray) (w : World) (hl : LiesDo w p l) (hlc : l.length ≤ c) : Calls Try.prog 3 #[.slice p l.length c, .string key] w fun e w' => e = .returned (.bool true) ∧ Below w.heap.size w w' := by
  have CL := Lib.hid hl
  clear hl
  go_enter Try.func3, Try.ntmps3
  go_upto_block 0 with fail
  have N0 : TW w.heap.size [] (.slice none 0 0) (w.alloc (.cells #[.slice none 0 0, .slice none 0 0] 26)) :=
    ⟨⟨.slice none 0 0, .slice none 0 0, heap_alloc_new w _, ⟨rfl, .inl ⟨rfl, rfl⟩⟩, ⟨rfl, .inl ⟨rfl, rfl⟩⟩, .inl rfl⟩, ⟨rfl, .inl ⟨rfl, rfl⟩⟩, List.Pairwise.nil⟩
  have HN0 := Lib.hid N0; have HB0 := Lib.hid ((Below.refl w.heap.size w).alloc (Nat.le_refl _) (.cells #[.slice none 0 0, .slice none 0 0] 26))
  clear N0
  generalize w.alloc (.cells #[.slice none 0 0, .slice none 0 0] 26) = w0 at HN0 HB0 ⊢
  go_cut [6] (fun v wx => ∃ (r : Tb.Rows ByteArray), r.length ≤ 200 ∧ TW w.heap.size r v wx ∧ Below w.heap.size w wx)
  case first =>
    go_wp2_with fail
    go_loopw [6, 23] (fun v i wr => ∃ (j : Nat) (r : Tb.Rows ByteArray), j ≤ l.length ∧ j ≤ 200 ∧ r.length ≤ j ∧ i = .int .i64 j ∧ TW w.heap.size r v wr ∧ Below w.heap.size w wr) (fun _ i _ => l.length - (intOf i).toNat)
    case atStart => exact ⟨0, [], Nat.zero_le _, Nat.zero_le _, Nat.le_refl _, rfl, HN0.out, HB0.out⟩
    case round =>
      obtain ⟨j, r, hj, hj2, hrj, rfl, hw, hb⟩ := hrel
      have HW := Lib.hid hw; have BB := Lib.hid hb
      clear hw hb HN0 HB0
      by_cases hjl : j < l.length
      · obtain ⟨b1, o1, rfl, _, r1, r2, r3⟩ := CL.out.at BB.out hjl
        have hjl' : (j : Int) < l.length := by omega
        generalize l.getD j deedD = dd at r1 r2 r3
        obtain ⟨O, V, K⟩ := dd
        simp only at r1 r2 r3
        by_cases h200 : j < 200
        · have h200' : ¬ (j : Int) ≥ 200 := by omega
          have hal := heap_alloc_new wr (.cells #[.int .i64 O, .int .i64 V, .string K] 29)
          have hbl : Below wr.heap.size wr (wr.alloc (.cells #[.int .i64 O, .int .i64 V, .string K] 29)) := (Below.refl _ wr).alloc (Nat.le_refl _) _
          have W1 := Lib.hid (HW.out.below hbl); have B1 := Lib.hid (thenBelow BB.out hbl)
          have D1 := Lib.hid hal
          have hzn := HW.out.lt
          clear hal hbl HW BB
          obtain ⟨A, Bs, sp⟩ := Tb.split lin_B W1.out.rise K
          obtain ⟨_, q, cq, rfl, hqc, hqr⟩ := own_liesR W1.out.row
          have RB := Lib.hid (refBelow_is q cq r K _ hqr (by omega) hqc)
          have hbb := isR_iff r K
          have SB := Lib.hid (fun W (hT : TabS (w.heap.size + 1) w.heap.size r W) => tabSeekS_is (w.heap.size + 1) w.heap.size r A Bs K W hT W1.out.rise sp (isR r K) hbb (by omega))
          rw [sp.count] at RB
          have SP := Lib.hid sp; have HBB := Lib.hid hbb
          clear sp hqr hbb
          obtain ⟨n, hn⟩ : ∃ n, A.length = n := ⟨_, rfl⟩
          obtain ⟨tt, htt⟩ : ∃ tt, isR r K = tt := ⟨_, rfl⟩
          rw [hn, htt] at RB SB
          have HN := Lib.hid hn; have HT := Lib.hid htt
          clear hn htt
          go_wp2_with fail
          generalize hW0 : wr.alloc (.cells #[.int .i64 O, .int .i64 V, .string K] 29) = wa at W1 B1 D1 RB ⊢
          refine RB.out.mono ?_
          rintro e w2 ⟨rfl, hb2⟩
          have W2 := Lib.hid (W1.out.below hb2); have B2 := Lib.hid (thenBelow B1.out hb2)
          have D2 := Lib.hid ((hb2.block _ (Array.getElem?_eq_some_iff.1 D1.out).1).trans D1.out)
          clear hb2 W1 B1 D1 RB r1 r2 r3 hW0
          have k2 := (cell_of_row w2 wr.heap.size 2 _ _ _ D2.out).trans (show _ = some (Value.string K) from rfl)
          go_wp2_with fail
          refine (SB.out w2 W2.out.tab).mono ?_
          rintro e w3 ⟨rfl, hb3⟩
          have W3 := Lib.hid (W2.out.below hb3); have B3 := Lib.hid (thenBelow B2.out hb3)
          have D3 := Lib.hid ((hb3.block _ (Array.getElem?_eq_some_iff.1 D2.out).1).trans D2.out)
          clear hb3 W2 B2 D2 k2 SB
          have k0 := (cell_of_row w3 wr.heap.size 0 _ _ _ D3.out).trans (show _ = some (Value.int .i64 O) from rfl)
          have k1 := (cell_of_row w3 wr.heap.size 1 _ _ _ D3.out).trans (show _ = some (Value.int .i64 V) from rfl)
          have k2 := (cell_of_row w3 wr.heap.size 2 _ _ _ D3.out).trans (show _ = some (Value.string K) from rfl)
          rcases SP.out.cases lin_B W3.out.rise with ⟨hno, hab⟩ | ⟨u0, B', hBe, hab⟩
          · have htt : tt = false := by
              cases tt with
              | false => rfl
              | true => exact absurd (HBB.out.1 HT.out) hno
            subst htt
            cases h0 : ((IntKind.u64.wrap O).tmod 3 == 0) with
            | true =>
              go_wp2_with fail
              refine (tabPutS_new (w.heap.size + 1) w.heap.size r A Bs K V w3 W3.out.tab W3.out.rise SP.out hno (by omega) (by omega) (by have := W3.out.lt; omega)).mono ?_
              rintro e w4 ⟨rfl, ht4, hb4, hs4⟩
              have hlt4 : w.heap.size < w4.heap.size := by have := hb4.size; have := W3.out.lt; omega
              have R4 := Lib.hid (row_stay W3.out.row hs4)
              have D4 := Lib.hid (hs4 _ _ _ _ D3.out (by decide) (by decide) (by decide))
              have T4 := Lib.hid ht4
              have B4 := Lib.hid (B3.out.trans hb4)
              have hre := Lib.hid W3.out.rise
              clear k0 k1 k2 ht4 hb4 hs4 W3 B3 D3
              have k0 := (cell_of_row w4 wr.heap.size 0 _ _ _ D4.out).trans (show _ = some (Value.int .i64 O) from rfl)
              have k1 := (cell_of_row w4 wr.heap.size 1 _ _ _ D4.out).trans (show _ = some (Value.int .i64 V) from rfl)
              have k2 := (cell_of_row w4 wr.heap.size 2 _ _ _ D4.out).trans (show _ = some (Value.string K) from rfl)
              have hrise := Lib.hid (SP.out.rise lin_B hre.out (List.Sublist.refl _) hab V)
              have hlen : (A ++ (K, V) :: Bs).length ≤ j + 1 := by have := congrArg List.length SP.out.eq; simp at this ⊢; omega
              go_wp2_with fail
              refine (refPut_is q cq r A Bs Bs false K V w4 (own_liesR2 R4.out).1 (by omega) hqc (own_liesR2 R4.out).2 SP.out HT.out (by simpa using SP.out.eq) (fun h => nomatch h)).mono ?_
              rintro e w5 ⟨v5, rfl, ho5, hb5⟩
              have W5 := Lib.hid (tw_rows hlt4 T4.out hrise.out hb5 ho5)
              have B5 := Lib.hid (thenBelow B4.out hb5)
              clear ho5 hb5 T4 B4 R4 D4 k0 k1 k2 hrise
              obtain ⟨_, q5, c5, rfl, hqc5, _⟩ := own_liesR W5.out.row
              generalize A ++ (K, V) :: Bs = R at W5 hlen
              go_wp2_with fail
              refine (tabLenS_is (w.heap.size + 1) w.heap.size R w5 W5.out.tab).mono ?_
              rintro e w6 ⟨rfl, rfl⟩
              go_wp2_with fail
              go_roundw
              case rel => exact ⟨j + 1, R, by omega, by omega, hlen, by go_num, W5.out, B5.out⟩
              case measure => simp [intOf]; omega
            | false =>
              cases h1 : ((IntKind.u64.wrap O).tmod 3 == 1) with
              | true =>
                go_wp2_with fail
                refine (tabGetS_no (w.heap.size + 1) w.heap.size r A Bs K w3 W3.out.tab W3.out.rise SP.out (by omega) hno).mono ?_
                rintro e w5 ⟨rfl, hb5⟩
                have W5 := Lib.hid (W3.out.below hb5); have B5 := Lib.hid (thenBelow B3.out hb5)
                clear hb5 W3 B3 D3 k0 k1 k2
                have hlen : r.length ≤ j + 1 := by omega
                go_wp2_with fail
                refine (tabLenS_is (w.heap.size + 1) w.heap.size r w5 W5.out.tab).mono ?_
                rintro e w6 ⟨rfl, rfl⟩
                go_wp2_with fail
                go_roundw
                case rel => exact ⟨j + 1, r, by omega, by omega, hlen, by go_num, W5.out, B5.out⟩
                case measure => simp [intOf]; omega
              | false =>
                go_wp2_with fail
                refine (tabCutS_no (w.heap.size + 1) w.heap.size r A Bs K w3 W3.out.tab W3.out.rise SP.out hno (by omega)).mono ?_
                rintro e w4 ⟨rfl, hb4⟩
                have W4 := Lib.hid (W3.out.below hb4); have B4 := Lib.hid (thenBelow B3.out hb4)
                have D4 := Lib.hid ((hb4.block _ (Array.getElem?_eq_some_iff.1 D3.out).1).trans D3.out)
                have hlt4 := W4.out.lt
                clear hb4 W3 B3 D3 k0 k1 k2
                have k0 := (cell_of_row w4 wr.heap.size 0 _ _ _ D4.out).trans (show _ = some (Value.int .i64 O) from rfl)
                have k1 := (cell_of_row w4 wr.heap.size 1 _ _ _ D4.out).trans (show _ = some (Value.int .i64 V) from rfl)
                have k2 := (cell_of_row w4 wr.heap.size 2 _ _ _ D4.out).trans (show _ = some (Value.string K) from rfl)
                have hlen : r.length ≤ j + 1 := by omega
                go_wp2_with fail
                refine (refCut_is q cq r K w4 (own_liesR2 W4.out.row).1 (by omega) hqc).mono ?_
                rintro e w5 ⟨v5, rfl, ho5, hb5⟩
                rw [Tb.filter_absent lin_B hno] at ho5
                have W5 := Lib.hid (tw_rows hlt4 W4.out.tab W4.out.rise hb5 ho5)
                have B5 := Lib.hid (thenBelow B4.out hb5)
                clear ho5 hb5 B4 D4 k0 k1 k2 W4
                obtain ⟨_, q5, c5, rfl, hqc5, _⟩ := own_liesR W5.out.row
                go_wp2_with fail
                refine (tabLenS_is (w.heap.size + 1) w.heap.size r w5 W5.out.tab).mono ?_
                rintro e w6 ⟨rfl, rfl⟩
                go_wp2_with fail
                go_roundw
                case rel => exact ⟨j + 1, r, by omega, by omega, hlen, by go_num, W5.out, B5.out⟩
                case measure => simp [intOf]; omega
          · subst hBe
            have htt : tt = true := by rw [← HT.out]; exact HBB.out.2 SP.out.mem_iff
            subst htt
            cases h0 : ((IntKind.u64.wrap O).tmod 3 == 0) with
            | true =>
              go_wp2_with fail
              refine (tabPutS_there (w.heap.size + 1) w.heap.size r A B' K u0 V w3 W3.out.tab W3.out.rise SP.out (by omega) (by omega) (by have := W3.out.lt; omega)).mono ?_
              rintro e w4 ⟨rfl, ht4, hb4, hs4⟩
              have hlt4 : w.heap.size < w4.heap.size := by have := hb4.size; have := W3.out.lt; omega
              have R4 := Lib.hid (row_stay W3.out.row hs4)
              have D4 := Lib.hid (hs4 _ _ _ _ D3.out (by decide) (by decide) (by decide))
              have T4 := Lib.hid ht4
              have B4 := Lib.hid (B3.out.trans hb4)
              have hre := Lib.hid W3.out.rise
              clear k0 k1 k2 ht4 hb4 hs4 W3 B3 D3
              have k0 := (cell_of_row w4 wr.heap.size 0 _ _ _ D4.out).trans (show _ = some (Value.int .i64 O) from rfl)
              have k1 := (cell_of_row w4 wr.heap.size 1 _ _ _ D4.out).trans (show _ = some (Value.int .i64 V) from rfl)
              have k2 := (cell_of_row w4 wr.heap.size 2 _ _ _ D4.out).trans (show _ = some (Value.string K) from rfl)
              have hrise := Lib.hid (SP.out.rise lin_B hre.out (List.sublist_cons_self _ _) hab V)
              have hlen : (A ++ (K, V) :: B').length ≤ j + 1 := by have := congrArg List.length SP.out.eq; simp at this ⊢; omega
              go_wp2_with fail
              refine (refPut_is q cq r A ((K, u0) :: B') B' true K V w4 (own_liesR2 R4.out).1 (by omega) hqc (own_liesR2 R4.out).2 SP.out HT.out (by simpa using SP.out.eq) (fun _ => by simp)).mono ?_
              rintro e w5 ⟨v5, rfl, ho5, hb5⟩
              have W5 := Lib.hid (tw_rows hlt4 T4.out hrise.out hb5 ho5)
              have B5 := Lib.hid (thenBelow B4.out hb5)
              clear ho5 hb5 T4 B4 R4 D4 k0 k1 k2 hrise
              obtain ⟨_, q5, c5, rfl, hqc5, _⟩ := own_liesR W5.out.row
              generalize A ++ (K, V) :: B' = R at W5 hlen
              go_wp2_with fail
              refine (tabLenS_is (w.heap.size + 1) w.heap.size R w5 W5.out.tab).mono ?_
              rintro e w6 ⟨rfl, rfl⟩
              go_wp2_with fail
              go_roundw
              case rel => exact ⟨j + 1, R, by omega, by omega, hlen, by go_num, W5.out, B5.out⟩
              case measure => simp [intOf]; omega
            | false =>
              cases h1 : ((IntKind.u64.wrap O).tmod 3 == 1) with
              | true =>
                go_wp2_with fail
                refine (tabGetS_is (w.heap.size + 1) w.heap.size r A B' K u0 w3 W3.out.tab W3.out.rise SP.out (by omega)).mono ?_
                rintro e w5 ⟨rfl, hb5⟩
                have W5 := Lib.hid (W3.out.below hb5); have B5 := Lib.hid (thenBelow B3.out hb5)
                clear hb5 W3 B3 D3 k0 k1 k2
                have hlen : r.length ≤ j + 1 := by omega
                have hnr : n < r.length := by rw [SP.out.eq, List.length_append, List.length_cons]; have := HN.out; omega
                obtain ⟨b5, o5, rfl, _, q5⟩ := (own_liesR2 W5.out.row).1.at (by omega)
                obtain ⟨g1, g2⟩ := q5 n hnr
                have hgn : r.getD n rowD = (K, u0) := by rw [SP.out.eq, ← HN.out]; simp [List.getD]
                rw [hgn] at g1 g2
                have hnr' : (n : Int) < r.length := by omega
                clear q5 hgn
                go_wp2_with fail
                refine (tabLenS_is (w.heap.size + 1) w.heap.size r w5 W5.out.tab).mono ?_
                rintro e w6 ⟨rfl, rfl⟩
                go_wp2_with fail
                go_roundw
                case rel => exact ⟨j + 1, r, by omega, by omega, hlen, by go_num, W5.out, B5.out⟩
                case measure => simp [intOf]; omega
              | false =>
                go_wp2_with fail
                refine (tabCutS_is (w.heap.size + 1) w.heap.size r A B' K u0 w3 W3.out.tab W3.out.rise SP.out (by omega) (by omega) (by have := W3.out.lt; omega)).mono ?_
                rintro e w4 ⟨rfl, ht4, hb4, hs4⟩
                have hlt4 : w.heap.size < w4.heap.size := by have := hb4.size; have := W3.out.lt; omega
                have R4 := Lib.hid (row_stay W3.out.row hs4)
                have D4 := Lib.hid (hs4 _ _ _ _ D3.out (by decide) (by decide) (by decide))
                have T4 := Lib.hid ht4
                have B4 := Lib.hid (B3.out.trans hb4)
                have hre := Lib.hid W3.out.rise
                clear k0 k1 k2 ht4 hb4 hs4 W3 B3 D3
                have k0 := (cell_of_row w4 wr.heap.size 0 _ _ _ D4.out).trans (show _ = some (Value.int .i64 O) from rfl)
                have k1 := (cell_of_row w4 wr.heap.size 1 _ _ _ D4.out).trans (show _ = some (Value.int .i64 V) from rfl)
                have k2 := (cell_of_row w4 wr.heap.size 2 _ _ _ D4.out).trans (show _ = some (Value.string K) from rfl)
                have hrise := Lib.hid (SP.out.rise_cut hre.out (List.sublist_cons_self _ _))
                have hlen : (A ++ B').length ≤ j + 1 := by have := congrArg List.length SP.out.eq; simp at this ⊢; omega
                go_wp2_with fail
                refine (refCut_is q cq r K w4 (own_liesR2 R4.out).1 (by omega) hqc).mono ?_
                rintro e w5 ⟨v5, rfl, ho5, hb5⟩
                rw [SP.out.filter_there lin_B hab] at ho5
                have W5 := Lib.hid (tw_rows hlt4 T4.out hrise.out hb5 ho5)
                have B5 := Lib.hid (thenBelow B4.out hb5)
                clear ho5 hb5 T4 B4 R4 D4 k0 k1 k2 hrise
                obtain ⟨_, q5, c5, rfl, hqc5, _⟩ := own_liesR W5.out.row
                generalize A ++ B' = R at W5 hlen
                go_wp2_with fail
                refine (tabLenS_is (w.heap.size + 1) w.heap.size R w5 W5.out.tab).mono ?_
                rintro e w6 ⟨rfl, rfl⟩
                go_wp2_with fail
                go_roundw
                case rel => exact ⟨j + 1, R, by omega, by omega, hlen, by go_num, W5.out, B5.out⟩
                case measure => simp [intOf]; omega
        · have h200' : (j : Int) ≥ 200 := by omega
          go_wp2_with fail
          go_meet
          case rel => exact ⟨r, by omega, HW.out.below ((Below.refl _ _).alloc (Nat.le_refl _) _), thenBelow BB.out ((Below.refl _ _).alloc (Nat.le_refl _) _)⟩
      · obtain rfl : j = l.length := by omega
        have hjl' : ¬ ((l.length : Nat) : Int) < l.length := by omega
        go_wp2_with fail
        go_meet
        case rel => exact ⟨r, by omega, HW.out, BB.out⟩
  case rest =>
    obtain ⟨r, hrl, hw, hb⟩ := hcut
    have HW := Lib.hid hw
    have BB := Lib.hid hb
    clear hw hb HN0 HB0 CL
    obtain ⟨_, q, cq, rfl, hqc, _⟩ := own_liesR HW.out.row
    have LR := Lib.hid (own_liesR2 HW.out.row).1
    have hzn := HW.out.lt
    go_wp2_with fail
    go_loopw [16, 131] (fun v i wr => ∃ (k : Nat), k ≤ r.length ∧ i = .int .i64 k ∧ wr.ownsRow wc.heap.size 9 1 v (kS (r.take k)).length (strs (kS (r.take k))) ∧ Below wc.heap.size wc wr) (fun _ i _ => r.length - (intOf i).toNat)
    case atStart => exact ⟨0, Nat.zero_le _, rfl, ⟨rfl, .inl ⟨rfl, rfl⟩⟩, Below.refl _ _⟩
    case round =>
      obtain ⟨k, hk, rfl, hown, hbq⟩ := hrel
      have OW := Lib.hid hown; have BQ := Lib.hid hbq
      clear hown hbq
      by_cases hkl : k < r.length
      · obtain ⟨b2, o2, rfl, _, q2⟩ := (LR.out.below BQ.out).at (by omega)
        obtain ⟨g1, g2⟩ := q2 k hkl
        have hkl' : (k : Int) < r.length := by omega
        have TK := Lib.hid (take_next r k hkl)
        have hkn : (kS (r.take k)).length = k := by rw [kS_len, List.length_take]; omega
        clear q2
        generalize r.getD k rowD = rr at g1 g2 TK
        obtain ⟨X, Y⟩ := rr
        simp only at g1 g2
        have hz := BQ.out.size
        have HB := Lib.hid (BQ.out.alloc (by omega) (.cells #[.string X, .int .i64 Y] 37))
        have HOW := Lib.hid (OW.out.alloc (.cells #[.string X, .int .i64 Y] 37))
        have hz2 : wc.heap.size ≤ (wr.alloc (.cells #[.string X, .int .i64 Y] 37)).heap.size := by simp; omega
        clear OW BQ
        rw [hkn] at HOW
        go_wp2_with (at_builtin; refine wpList_one isOneS _ rfl _ _ rfl wc.heap.size k (strs (kS (r.take k))) u16 rfl HOW.out (.string X) rfl (by rw [World.size_alloc]; rfl) (by omega) hz2 ?_)
        intro v3 w3 hown3 hb3 _
        have O3 := Lib.hid (show w3.ownsRow wc.heap.size 9 1 v3 (kS (r.take (k + 1))).length (strs (kS (r.take (k + 1)))) by
          have e1 : (kS (r.take (k + 1))).length = k + 1 := by rw [kS_len, List.length_take]; omega
          have e2 : strs (kS (r.take (k + 1))) = strs (kS (r.take k)) ++ [.string X] := by rw [TK.out]; simp [strs, kS]
          rw [e1, e2]; exact hown3)
        have B3 := Lib.hid (HB.out.trans (hb3.mono (Nat.le_refl _)))
        clear hown3 hb3 HB HOW
        go_wp2_with fail
        go_roundw
        case rel => exact ⟨k + 1, by omega, by go_num, O3.out, B3.out⟩
        case measure => simp [intOf]; omega
      · obtain rfl : k = r.length := by omega
        rw [List.take_length] at OW
        have hkl' : ¬ ((r.length : Nat) : Int) < r.length := by omega
        have WQ := Lib.hid (HW.out.below BQ.out); have BW := Lib.hid (thenBelow BB.out BQ.out)
        clear HW BB LR BQ
        obtain ⟨A, Bs, sp⟩ := Tb.split lin_B WQ.out.rise key
        obtain ⟨_, qk, ck, rfl, hckk, hlk, _⟩ := own_liesS OW.out
        have LK := Lib.hid hlk
        have hbb := isR_iff r key
        have hkl2 := Lib.hid (kS_len r)
        have hrl2 := Lib.hid hrl
        clear hlk hckk hqc hrl hk hzn
        go_wp2_with fail
        refine (tabSeekS_is (w.heap.size + 1) w.heap.size r A Bs key wr WQ.out.tab WQ.out.rise sp (isR r key) hbb (by have := hrl2.out; omega)).mono ?_
        rintro e w5 ⟨rfl, hb5⟩
        have W5 := Lib.hid (WQ.out.below hb5); have B5 := Lib.hid (thenBelow BW.out hb5); have LK5 := Lib.hid (LK.out.below hb5)
        have HBB := Lib.hid hbb
        clear hb5 WQ BW LK OW sp hbb
        generalize A.length = n
        go_wp2_with fail
        refine (tabKeysS_is (w.heap.size + 1) w.heap.size r w5 W5.out.tab (by have := hrl2.out; omega)).mono ?_
        rintro e w6 ⟨p6, c6, rfl, hl6, hb6⟩
        have L6 := Lib.hid hl6; have B6 := Lib.hid (thenBelow B5.out hb6); have LK6 := Lib.hid (LK5.out.below hb6)
        clear hl6 hb6 B5 LK5 W5
        go_wp2_with fail
        refine (equalS_same p6 qk c6 ck (kS r) w6 L6.out LK6.out (by have := hrl2.out; have := hkl2.out; omega)).mono ?_
        rintro e w7 ⟨rfl, hb7⟩
        have B7 := Lib.hid (thenBelow B6.out hb7); have LK7 := Lib.hid (LK6.out.below hb7)
        clear hb7 B6 LK6 L6
        go_wp2_with fail
        refine (containsS_is qk ck (kS r) key (isR r key) w7 LK7.out HBB.out (by have := hrl2.out; have := hkl2.out; omega)).mono ?_
        rintro e w8 ⟨rfl, rfl⟩
        go_wp2_with fail
        refine (awake6 w8).mono ?_
        rintro e w9 ⟨rfl, hb9⟩
        have B9 := Lib.hid (thenBelow B7.out hb9)
        clear hb9 B7
        go_wp2_with fail
        go_ret
        exact ⟨rfl, B9.out⟩
end Go.Proofs.Ytiadljcfcncbkaa
