/- The statement DocsJoins, proved for every input that its row reads: part 47 of 54. -/
import Derived.Test.YtdnkhcbglmfjbaaDoorPackDocsJoins34
import Derived.Test.YtdnkhcbglmfjbaaDoorPackDocsJoins46
/- The document's Join of any two states. -/
namespace Go.Proofs.YtdnkhcbglmfjbaaDoor
open Go Go.RowKit
set_option linter.unusedVariables false
set_option maxRecDepth 1000000

theorem wpList_skipJ {P : Program} {ops : Array Oper} {rest : List Oper} {o : Oper} {a : Act} {w : World} {Q : Exit → Act → World → Prop} (hg : o.guard = none) (w' : World) (hrun : (execOp a.eval o).run P w = .ok .skip w') (h : ∀ V, Hid (V = w') → wpList P ops Q rest (a.put o.dst undef) V) : wpList P ops Q (o :: rest) a w := by
  refine wpList_plain hg fun K hK => ?_
  unfold Oper.wp
  rw [hrun, Oper.upon_skip]
  exact hK _ _ (h _ (Lib.hid rfl))
theorem refStepK_len (M : List Wr) (G : Nat → Int) (acc : List Wr) (x : Wr) : (refStepK M G acc x).length ≤ acc.length + 1 := by
  unfold refStepK
  split
  · have := (insW_perm acc x).length_eq; simp at this; omega
  · omega
theorem own_wrsAt {w : World} {B : Nat} {p : Option Addr} {c : Nat} {K : List Wr} (h : w.ownsRow B 34 6 (.slice p K.length c) K.length (wcl K)) : WrsAt w p K := by
  obtain ⟨p', c', e, _, h1, _⟩ := own_wat h
  injection e with e1 _ _
  subst e1; exact h1
theorem grown_cellJ (w : World) (g o : Nat) (v : Value) : w.grownBy (w.setCell ⟨g, o, none⟩ v) (some g) := grown_cell w g o v
set_option maxHeartbeats 8000000 in
theorem refJoinS_is (F G : Nat → Int) (p q : Option Addr) (c d : Nat) (L M : List Wr) (w : World) (h : WrsAt w p L) (hn : L.length ≤ 1000) (h2 : WrsAt w q M) (hn2 : M.length ≤ 1000) :
    Calls Tryd.prog 9 #[.agg (scs F (.slice p L.length c)), .agg (scs G (.slice q M.length d))] w (JoinR w (fun i => max (F i) (G i)) (refL L M F G)) := by
  have HW := Lib.hid h; have HM := Lib.hid h2
  have VJ := Lib.hid (fun V : World => refJoin_is F G V)
  have HRL := Lib.hid (show refL L M F G = M.foldl (refStepK L F) (L.foldl (refStepK M G) []) from rfl)
  generalize (fun i => max (F i) (G i)) = H at *
  generalize refL L M F G = RL at *
  clear h h2
  go_enter Tryd.func9, Tryd.ntmps9
  go_wp2_with (refine wpList_gbox rfl _ rfl (scs F (.slice p L.length c)) rfl ?_)
  intro g2 w1 l2 h2 hb1
  have S1 : Hid (Sx w1 g2 F (.slice p L.length c)) := Lib.hid h2
  have B1 := Lib.hid hb1
  clear h2 hb1
  go_wp2_with (refine wpList_gbox rfl _ rfl (scs G (.slice q M.length d)) rfl ?_)
  intro g3 w2 l3 h3 hb2
  have S2 := Lib.hid (S1.out.later hb2); have B2 := Lib.hid (thenBelow B1.out hb2)
  have T2 : Hid (Sx w2 g3 G (.slice q M.length d)) := Lib.hid h3
  clear h3 hb2 S1
  go_wp2_with (refine wpList_galloc _ zeroSt rfl rfl ?_)
  intro g4 w3 l4 h4 hb3
  have S3 := Lib.hid (S2.out.later hb3); have B3 := Lib.hid (thenBelow B2.out hb3)
  have T3 := Lib.hid (T2.out.later hb3)
  have Z3 : Hid (Sx w3 g4 (fun _ => 0) (.slice none 0 0)) := Lib.hid h4
  have lw4 : w.heap.size ≤ g4 := Nat.le_trans B2.out.size l4
  have SV := Lib.hid (S3.out.vec); have TV := Lib.hid (T3.out.vec)
  clear h4 hb3 S2 T2
  go_wp2_with (first | refine wpList_gload rfl _ rfl g2 0 rfl _ SV.out _ Tryd.underlying23 rfl (sizeVcl F) ?_ | refine wpList_gload rfl _ rfl g3 0 rfl _ TV.out _ Tryd.underlying23 rfl (sizeVcl G) ?_)
  refine (VJ.out w3).mono ?_
  rintro e w4 ⟨rfl, b4⟩
  have S4 := Lib.hid (S3.out.later b4); have T4 := Lib.hid (T3.out.later b4); have Z4 := Lib.hid (Z3.out.later b4); have B4 := Lib.hid (thenBelow B3.out b4)
  clear b4 SV TV VJ S3 T3 Z3
  go_wp2_with (first | refine wpList_pbuild (by rfl) _ rfl (scs H (.slice none 0 0)) (by simp only [List.map_toArray, List.map_cons, List.map_nil]; exact builtSt1 H _) ?_ | refine wpList_galloc _ zeroSt rfl rfl ?_)
  intro g5 w5 l5 h5 hb5
  have S5 := Lib.hid (S4.out.later hb5); have T5 := Lib.hid (T4.out.later hb5); have Z5 := Lib.hid (Z4.out.later hb5); have B5 := Lib.hid (thenBelow B4.out hb5)
  have n45 : g4 < g5 := Nat.lt_of_lt_of_le Z4.out.lt l5
  have n25 : g2 < g5 := Nat.lt_of_lt_of_le S4.out.lt l5
  have n35 : g3 < g5 := Nat.lt_of_lt_of_le T4.out.lt l5
  have lw5 : w.heap.size ≤ g5 := Nat.le_trans B4.out.size l5
  have O5 : Hid (Sx w5 g5 (fun _ => 0) (.slice none 0 0)) := Lib.hid h5
  clear h5 hb5 S4 T4 Z4
  go_wp2_with (refine wpList_gstore rfl _ _ rfl g5 rfl (scs H (.slice none 0 0)) rfl _ _ O5.out (sizeSt _ _) (by rw [scs_size, scs_size]) (scs_one H rfl) ?_)
  intro w6 h6 gr6
  have S6 := Lib.hid (S5.out.kept gr6 (by simp; omega)); have T6 := Lib.hid (T5.out.kept gr6 (by simp; omega)); have Z6 := Lib.hid (Z5.out.kept gr6 (by simp; omega))
  have B6 := Lib.hid (B5.out.trans (grown_below gr6 B5.out.size lw5))
  have O6 : Hid (Sx w6 g5 H (.slice none 0 0)) := Lib.hid h6
  clear h6 gr6 S5 T5 Z5 O5 B5
  have sl := S6.out.slot
  go_wp2_with fail
  clear sl
  go_loopw [19] (fun i wr => ∃ (j : Nat) (K : List Wr) (pk : Option Addr) (ck : Nat), j ≤ L.length ∧ i = .int .i64 (j : Int) ∧ Hid (K = (L.take j).foldl (refStepK M G) []) ∧ K.length ≤ 0 + j ∧ Hid (Sx wr g5 H (.slice pk K.length ck)) ∧ Hid (wr.ownsRow w.heap.size 34 6 (.slice pk K.length ck) K.length (wcl K)) ∧ Hid (Below g5 w6 wr)) (fun i _ => L.length - (intOf i).toNat)
  case atStart => exact ⟨0, [], none, 0, Nat.zero_le _, rfl, Lib.hid rfl, Nat.le_refl _, O6, Lib.hid ⟨rfl, .inl ⟨rfl, rfl⟩⟩, Lib.hid (Below.refl _ _)⟩
  case round =>
    obtain ⟨j, K, pk, ck, hj, rfl, HK, hKj, SK, OK, BB⟩ := hrel
    by_cases hjl : j < L.length
    · have hjl2 : (j : Int) < L.length := by omega
      have bw := B6.out.trans (BB.out.mono lw5)
      obtain ⟨b, o, rfl, hlt, hr⟩ := (HW.out.below bw).at hjl
      obtain ⟨k0, k1, k2, k3, k4, k5⟩ := wr_cells hr
      have TK : Hid (L.take (j + 1) = L.take j ++ [L[j]]) := Lib.hid (List.take_succ_eq_append_getElem hjl)
      clear hr hlt
      obtain ⟨y, hy⟩ : ∃ y, L[j] = y := ⟨_, rfl⟩
      rw [hy] at k0 k1 k2 k3 k4 k5 TK
      clear hy
      have KN : Hid (refStepK M G K y = (L.take (j + 1)).foldl (refStepK M G) []) := Lib.hid (by rw [TK.out, fold_snoc, ← HK.out])
      obtain ⟨hb, hhb⟩ : ∃ z, hasB G y.rep y.n = z := ⟨_, rfl⟩
      obtain ⟨ib, hib⟩ : ∃ z, inW M y = z := ⟨_, rfl⟩
      obtain ⟨kb, hkb⟩ : ∃ z, inW K y = z := ⟨_, rfl⟩
      have KV : Hid (refStepK M G K y = if (!hb || ib) && !kb then insW K y else K) := Lib.hid (by unfold refStepK; rw [hhb, hib, hkb])
      have HS := Lib.hid (fun V : World => refHas_is G y.rep y.n V)
      rw [hhb] at HS
      obtain ⟨yr, yn, yt, yd, yf, yx⟩ := y
      simp only at k0 k1 k2 k3 k4 k5 HS
      have b7 := below_alloc wr (.cells #[.int .i64 yr, .int .i64 yn, .int .i64 yt, .string yd, .int .i64 yf, .string yx] 34)
      have bw7 := thenBelow bw b7
      have I1 : Hid (∀ V : World, Below (wr.alloc (.cells #[.int .i64 yr, .int .i64 yn, .int .i64 yt, .string yd, .int .i64 yf, .string yx] 34)).heap.size (wr.alloc (.cells #[.int .i64 yr, .int .i64 yn, .int .i64 yt, .string yd, .int .i64 yf, .string yx] 34)) V → Calls Tryd.prog 23 #[.slice q M.length d, .agg #[.int .i64 yr, .int .i64 yn, .int .i64 yt, .string yd, .int .i64 yf, .string yx]] V (RetBool V ib)) := Lib.hid fun V hV => by have := refIn_is q d M ⟨yr, yn, yt, yd, yf, yx⟩ V (HM.out.below (thenBelow bw7 hV)) (by omega); rw [hib] at this; exact this
      have I2 : Hid (∀ V : World, Below (wr.alloc (.cells #[.int .i64 yr, .int .i64 yn, .int .i64 yt, .string yd, .int .i64 yf, .string yx] 34)).heap.size (wr.alloc (.cells #[.int .i64 yr, .int .i64 yn, .int .i64 yt, .string yd, .int .i64 yf, .string yx] 34)) V → Calls Tryd.prog 23 #[.slice pk K.length ck, .agg #[.int .i64 yr, .int .i64 yn, .int .i64 yt, .string yd, .int .i64 yf, .string yx]] V (RetBool V kb)) := Lib.hid fun V hV => by have := refIn_is pk ck K ⟨yr, yn, yt, yd, yf, yx⟩ V (own_wrsAt (own_later OK.out (thenBelow b7 hV))) (by omega); rw [hkb] at this; exact this
      have PT : Hid (∀ V : World, Below (wr.alloc (.cells #[.int .i64 yr, .int .i64 yn, .int .i64 yt, .string yd, .int .i64 yf, .string yx] 34)).heap.size (wr.alloc (.cells #[.int .i64 yr, .int .i64 yn, .int .i64 yt, .string yd, .int .i64 yf, .string yx] 34)) V → Calls Tryd.prog 24 #[.slice pk K.length ck, .agg #[.int .i64 yr, .int .i64 yn, .int .i64 yt, .string yd, .int .i64 yf, .string yx]] V (InsR V.heap.size (insW K ⟨yr, yn, yt, yd, yf, yx⟩) V)) := Lib.hid fun V hV => refPut_is w.heap.size pk ck K ⟨yr, yn, yt, yd, yf, yx⟩ V (own_later OK.out (thenBelow b7 hV)) (by omega)
      have SO : Sx wr g3 G (.slice q M.length d) := (BB.out.block g3 (by omega)).trans T6.out
      have FA : Hid (∀ V : World, Below (wr.alloc (.cells #[.int .i64 yr, .int .i64 yn, .int .i64 yt, .string yd, .int .i64 yf, .string yx] 34)).heap.size (wr.alloc (.cells #[.int .i64 yr, .int .i64 yn, .int .i64 yt, .string yd, .int .i64 yf, .string yx] 34)) V → V.cell? ⟨g3, 64, none⟩ = some (.slice q M.length d) ∧ V.cell? ⟨g5, 64, none⟩ = some (.slice pk K.length ck) ∧ V.rangeAt wr.heap.size 0 (Wr.cells ⟨yr, yn, yt, yd, yf, yx⟩)) := Lib.hid fun V hV => ⟨(SO.later (thenBelow b7 hV)).slot, (SK.out.later (thenBelow b7 hV)).slot, range_below (range_of_block (heap_alloc_new wr (.cells #[.int .i64 yr, .int .i64 yn, .int .i64 yt, .string yd, .int .i64 yf, .string yx] 34))) hV⟩
      have KP : Hid (∀ V : World, Below (wr.alloc (.cells #[.int .i64 yr, .int .i64 yn, .int .i64 yt, .string yd, .int .i64 yf, .string yx] 34)).heap.size (wr.alloc (.cells #[.int .i64 yr, .int .i64 yn, .int .i64 yt, .string yd, .int .i64 yf, .string yx] 34)) V → Hid (Sx V g5 H (.slice pk K.length ck)) ∧ Hid (V.ownsRow w.heap.size 34 6 (.slice pk K.length ck) K.length (wcl K)) ∧ Hid (Below g5 w6 V)) := Lib.hid fun V hV => ⟨Lib.hid (SK.out.later (thenBelow b7 hV)), Lib.hid (own_later OK.out (thenBelow b7 hV)), Lib.hid (BB.out.trans ((thenBelow b7 hV).mono (Nat.le_of_lt SK.out.lt)))⟩
      have SVV : Hid ((wr.alloc (.cells #[.int .i64 yr, .int .i64 yn, .int .i64 yt, .string yd, .int .i64 yf, .string yx] 34)).rangeAt g3 0 (vf G).toList) := Lib.hid (SO.later b7).vec
      have lk := SK.out.lt
      have hz7 : wr.heap.size ≤ (wr.alloc (.cells #[.int .i64 yr, .int .i64 yn, .int .i64 yt, .string yd, .int .i64 yf, .string yx] 34)).heap.size := b7.size
      clear bw bw7 b7 SO TK hhb hib hkb
      go_wp2_with (refine wpList_gload rfl _ rfl g3 0 rfl _ SVV.out _ Tryd.underlying23 rfl (sizeVcl G) ?_)
      refine (HS.out _).mono ?_
      rintro e w7 ⟨rfl, b8⟩
      clear k0 k1 k2 k3 k4 k5
      obtain ⟨f0, f1, fr⟩ := FA.out w7 b8
      obtain ⟨m0, m1, m2, m3, m4, m5⟩ := wr_cells fr
      simp only [Nat.zero_add] at m0 m1 m2 m3 m4 m5
      clear fr
      cases hb with
      | false =>
        go_wp2_with fail
        refine (I2.out w7 b8).mono ?_
        rintro e x1 ⟨rfl, c1⟩
        have d1 := thenBelow b8 c1
        clear f0 f1 m0 m1 m2 m3 m4 m5
        obtain ⟨f0, f1, fr⟩ := FA.out x1 d1
        obtain ⟨m0, m1, m2, m3, m4, m5⟩ := wr_cells fr
        simp only [Nat.zero_add] at m0 m1 m2 m3 m4 m5
        clear fr
        cases kb with
        | true =>
          obtain ⟨q1, q2, q3⟩ := KP.out x1 d1
          have KE : Hid (K = (L.take (j + 1)).foldl (refStepK M G) []) := Lib.hid (by rw [← KN.out, KV.out]; rfl)
          go_wp2
          go_roundw
          case rel => exact ⟨j + 1, K, pk, ck, by omega, by go_num, KE, by omega, q1, q2, q3⟩
          case measure => simp [intOf]; omega
        | false =>
          go_wp2_with fail
          refine (PT.out x1 d1).mono ?_
          rintro e z ⟨vz, rfl, oz, bz⟩
          obtain ⟨pz, cz, rfl⟩ := own_slice oz
          have dz := thenBelow d1 bz
          obtain ⟨q1, q2, q3⟩ := KP.out z dz
          clear f0 f1 m0 m1 m2 m3 m4 m5
          have oz2 := own_base oz (show w.heap.size ≤ x1.heap.size by have h1 := d1.size; omega)
          have ln := (insW_perm K ⟨yr, yn, yt, yd, yf, yx⟩).length_eq
          rw [List.length_append, List.length_singleton] at ln
          have LN := Lib.hid ln
          clear ln
          go_wp2_with (refine wpList_skipJ rfl _ (exec_storeVS 24 _ _ rfl (fun w => by kernel_rfl) ⟨g5, 64, none⟩ pz (insW K ⟨yr, yn, yt, yd, yf, yx⟩).length cz _ (by kernel_rfl) (by kernel_rfl) q1.out.slot (frozen_of_row z g5 64 _ _ q1.out)) ?_)
          intro zz hzz
          have sz := q1.out.setSlot (.slice pz (insW K ⟨yr, yn, yt, yd, yf, yx⟩).length cz)
          have gz := grown_cellJ z g5 64 (.slice pz (insW K ⟨yr, yn, yt, yd, yf, yx⟩).length cz)
          rw [← hzz.out] at sz gz
          have R1 := Lib.hid sz
          have R2 := Lib.hid (own_keepT oz2 q1.out (by decide) gz)
          have R3 := Lib.hid (q3.out.trans (grown_below gz (Nat.le_of_lt q1.out.lt) (Nat.le_refl _)))
          clear sz gz hzz oz oz2
          have KE : Hid (insW K ⟨yr, yn, yt, yd, yf, yx⟩ = (L.take (j + 1)).foldl (refStepK M G) []) := Lib.hid (by rw [← KN.out, KV.out]; rfl)
          go_wp2
          go_roundw
          case rel => exact ⟨j + 1, _, pz, cz, by omega, by go_num, KE, by have := LN.out; omega, R1, R2, R3⟩
          case measure => simp [intOf]; omega
      | true =>
        go_wp2_with fail
        refine (I1.out w7 b8).mono ?_
        rintro e w8 ⟨rfl, b9⟩
        have b10 := thenBelow b8 b9
        clear f0 f1 m0 m1 m2 m3 m4 m5
        obtain ⟨f0, f1, fr⟩ := FA.out w8 b10
        obtain ⟨m0, m1, m2, m3, m4, m5⟩ := wr_cells fr
        simp only [Nat.zero_add] at m0 m1 m2 m3 m4 m5
        clear fr
        cases ib with
        | false =>
          obtain ⟨q1, q2, q3⟩ := KP.out w8 b10
          have KE : Hid (K = (L.take (j + 1)).foldl (refStepK M G) []) := Lib.hid (by rw [← KN.out, KV.out]; rfl)
          go_wp2
          go_roundw
          case rel => exact ⟨j + 1, K, pk, ck, by omega, by go_num, KE, by omega, q1, q2, q3⟩
          case measure => simp [intOf]; omega
        | true =>
          go_wp2_with fail
          refine (I2.out w8 b10).mono ?_
          rintro e x2 ⟨rfl, c2⟩
          have d2 := thenBelow b10 c2
          clear f0 f1 m0 m1 m2 m3 m4 m5
          obtain ⟨f0, f1, fr⟩ := FA.out x2 d2
          obtain ⟨m0, m1, m2, m3, m4, m5⟩ := wr_cells fr
          simp only [Nat.zero_add] at m0 m1 m2 m3 m4 m5
          clear fr
          cases kb with
          | true =>
            obtain ⟨q1, q2, q3⟩ := KP.out x2 d2
            have KE : Hid (K = (L.take (j + 1)).foldl (refStepK M G) []) := Lib.hid (by rw [← KN.out, KV.out]; rfl)
            go_wp2
            go_roundw
            case rel => exact ⟨j + 1, K, pk, ck, by omega, by go_num, KE, by omega, q1, q2, q3⟩
            case measure => simp [intOf]; omega
          | false =>
            go_wp2_with fail
            refine (PT.out x2 d2).mono ?_
            rintro e z ⟨vz, rfl, oz, bz⟩
            obtain ⟨pz, cz, rfl⟩ := own_slice oz
            have dz := thenBelow d2 bz
            obtain ⟨q1, q2, q3⟩ := KP.out z dz
            clear f0 f1 m0 m1 m2 m3 m4 m5
            have oz2 := own_base oz (show w.heap.size ≤ x2.heap.size by have h1 := d2.size; omega)
            have ln := (insW_perm K ⟨yr, yn, yt, yd, yf, yx⟩).length_eq
            rw [List.length_append, List.length_singleton] at ln
            have LN := Lib.hid ln
            clear ln
            go_wp2_with (refine wpList_skipJ rfl _ (exec_storeVS 24 _ _ rfl (fun w => by kernel_rfl) ⟨g5, 64, none⟩ pz (insW K ⟨yr, yn, yt, yd, yf, yx⟩).length cz _ (by kernel_rfl) (by kernel_rfl) q1.out.slot (frozen_of_row z g5 64 _ _ q1.out)) ?_)
            intro zz hzz
            have sz := q1.out.setSlot (.slice pz (insW K ⟨yr, yn, yt, yd, yf, yx⟩).length cz)
            have gz := grown_cellJ z g5 64 (.slice pz (insW K ⟨yr, yn, yt, yd, yf, yx⟩).length cz)
            rw [← hzz.out] at sz gz
            have R1 := Lib.hid sz
            have R2 := Lib.hid (own_keepT oz2 q1.out (by decide) gz)
            have R3 := Lib.hid (q3.out.trans (grown_below gz (Nat.le_of_lt q1.out.lt) (Nat.le_refl _)))
            clear sz gz hzz oz oz2
            have KE : Hid (insW K ⟨yr, yn, yt, yd, yf, yx⟩ = (L.take (j + 1)).foldl (refStepK M G) []) := Lib.hid (by rw [← KN.out, KV.out]; rfl)
            go_wp2
            go_roundw
            case rel => exact ⟨j + 1, _, pz, cz, by omega, by go_num, KE, by have := LN.out; omega, R1, R2, R3⟩
            case measure => simp [intOf]; omega
    · obtain rfl : j = L.length := by omega
      have hjl2 : ¬ ((L.length : Nat) : Int) < L.length := by omega
      rw [List.take_length] at HK
      have sl2 : wr.cell? ⟨g3, 64, none⟩ = some (.slice q M.length d) := Sx.slot ((BB.out.block g3 (by omega)).trans T6.out)
      have HK1 := HK
      have lK1 : K.length ≤ L.length := by omega
      obtain ⟨K1, hK1⟩ : ∃ X, K = X := ⟨_, rfl⟩
      rw [hK1] at HK1 lK1
      have START : Hid (Sx wr g5 H (.slice pk K1.length ck)) ∧ Hid (wr.ownsRow w.heap.size 34 6 (.slice pk K1.length ck) K1.length (wcl K1)) ∧ Hid (Below g5 w6 wr) := ⟨by rw [← hK1]; exact SK, by rw [← hK1]; exact OK, BB⟩
      clear hK1
      go_wp2_with fail
      clear sl2
      go_loopw [51] (fun i wr => ∃ (j : Nat) (K : List Wr) (pk : Option Addr) (ck : Nat), j ≤ M.length ∧ i = .int .i64 (j : Int) ∧ Hid (K = (M.take j).foldl (refStepK L F) K1) ∧ K.length ≤ L.length + j ∧ Hid (Sx wr g5 H (.slice pk K.length ck)) ∧ Hid (wr.ownsRow w.heap.size 34 6 (.slice pk K.length ck) K.length (wcl K)) ∧ Hid (Below g5 w6 wr)) (fun i _ => M.length - (intOf i).toNat)
      case atStart => exact ⟨0, K1, pk, ck, Nat.zero_le _, rfl, Lib.hid rfl, by omega, START.1, START.2.1, START.2.2⟩
      case round =>
        obtain ⟨j, K, pk, ck, hj, rfl, HK, hKj, SK, OK, BB⟩ := hrel
        by_cases hjl : j < M.length
        · have hjl2 : (j : Int) < M.length := by omega
          have bw := B6.out.trans (BB.out.mono lw5)
          obtain ⟨b, o, rfl, hlt, hr⟩ := (HM.out.below bw).at hjl
          obtain ⟨k0, k1, k2, k3, k4, k5⟩ := wr_cells hr
          have TK : Hid (M.take (j + 1) = M.take j ++ [M[j]]) := Lib.hid (List.take_succ_eq_append_getElem hjl)
          clear hr hlt
          obtain ⟨y, hy⟩ : ∃ y, M[j] = y := ⟨_, rfl⟩
          rw [hy] at k0 k1 k2 k3 k4 k5 TK
          clear hy
          have KN : Hid (refStepK L F K y = (M.take (j + 1)).foldl (refStepK L F) K1) := Lib.hid (by rw [TK.out, fold_snoc, ← HK.out])
          obtain ⟨hb, hhb⟩ : ∃ z, hasB F y.rep y.n = z := ⟨_, rfl⟩
          obtain ⟨ib, hib⟩ : ∃ z, inW L y = z := ⟨_, rfl⟩
          obtain ⟨kb, hkb⟩ : ∃ z, inW K y = z := ⟨_, rfl⟩
          have KV : Hid (refStepK L F K y = if (!hb || ib) && !kb then insW K y else K) := Lib.hid (by unfold refStepK; rw [hhb, hib, hkb])
          have HS := Lib.hid (fun V : World => refHas_is F y.rep y.n V)
          rw [hhb] at HS
          obtain ⟨yr, yn, yt, yd, yf, yx⟩ := y
          simp only at k0 k1 k2 k3 k4 k5 HS
          have b7 := below_alloc wr (.cells #[.int .i64 yr, .int .i64 yn, .int .i64 yt, .string yd, .int .i64 yf, .string yx] 34)
          have bw7 := thenBelow bw b7
          have I1 : Hid (∀ V : World, Below (wr.alloc (.cells #[.int .i64 yr, .int .i64 yn, .int .i64 yt, .string yd, .int .i64 yf, .string yx] 34)).heap.size (wr.alloc (.cells #[.int .i64 yr, .int .i64 yn, .int .i64 yt, .string yd, .int .i64 yf, .string yx] 34)) V → Calls Tryd.prog 23 #[.slice p L.length c, .agg #[.int .i64 yr, .int .i64 yn, .int .i64 yt, .string yd, .int .i64 yf, .string yx]] V (RetBool V ib)) := Lib.hid fun V hV => by have := refIn_is p c L ⟨yr, yn, yt, yd, yf, yx⟩ V (HW.out.below (thenBelow bw7 hV)) (by omega); rw [hib] at this; exact this
          have I2 : Hid (∀ V : World, Below (wr.alloc (.cells #[.int .i64 yr, .int .i64 yn, .int .i64 yt, .string yd, .int .i64 yf, .string yx] 34)).heap.size (wr.alloc (.cells #[.int .i64 yr, .int .i64 yn, .int .i64 yt, .string yd, .int .i64 yf, .string yx] 34)) V → Calls Tryd.prog 23 #[.slice pk K.length ck, .agg #[.int .i64 yr, .int .i64 yn, .int .i64 yt, .string yd, .int .i64 yf, .string yx]] V (RetBool V kb)) := Lib.hid fun V hV => by have := refIn_is pk ck K ⟨yr, yn, yt, yd, yf, yx⟩ V (own_wrsAt (own_later OK.out (thenBelow b7 hV))) (by omega); rw [hkb] at this; exact this
          have PT : Hid (∀ V : World, Below (wr.alloc (.cells #[.int .i64 yr, .int .i64 yn, .int .i64 yt, .string yd, .int .i64 yf, .string yx] 34)).heap.size (wr.alloc (.cells #[.int .i64 yr, .int .i64 yn, .int .i64 yt, .string yd, .int .i64 yf, .string yx] 34)) V → Calls Tryd.prog 24 #[.slice pk K.length ck, .agg #[.int .i64 yr, .int .i64 yn, .int .i64 yt, .string yd, .int .i64 yf, .string yx]] V (InsR V.heap.size (insW K ⟨yr, yn, yt, yd, yf, yx⟩) V)) := Lib.hid fun V hV => refPut_is w.heap.size pk ck K ⟨yr, yn, yt, yd, yf, yx⟩ V (own_later OK.out (thenBelow b7 hV)) (by omega)
          have SO : Sx wr g2 F (.slice p L.length c) := (BB.out.block g2 (by omega)).trans S6.out
          have FA : Hid (∀ V : World, Below (wr.alloc (.cells #[.int .i64 yr, .int .i64 yn, .int .i64 yt, .string yd, .int .i64 yf, .string yx] 34)).heap.size (wr.alloc (.cells #[.int .i64 yr, .int .i64 yn, .int .i64 yt, .string yd, .int .i64 yf, .string yx] 34)) V → V.cell? ⟨g2, 64, none⟩ = some (.slice p L.length c) ∧ V.cell? ⟨g5, 64, none⟩ = some (.slice pk K.length ck) ∧ V.rangeAt wr.heap.size 0 (Wr.cells ⟨yr, yn, yt, yd, yf, yx⟩)) := Lib.hid fun V hV => ⟨(SO.later (thenBelow b7 hV)).slot, (SK.out.later (thenBelow b7 hV)).slot, range_below (range_of_block (heap_alloc_new wr (.cells #[.int .i64 yr, .int .i64 yn, .int .i64 yt, .string yd, .int .i64 yf, .string yx] 34))) hV⟩
          have KP : Hid (∀ V : World, Below (wr.alloc (.cells #[.int .i64 yr, .int .i64 yn, .int .i64 yt, .string yd, .int .i64 yf, .string yx] 34)).heap.size (wr.alloc (.cells #[.int .i64 yr, .int .i64 yn, .int .i64 yt, .string yd, .int .i64 yf, .string yx] 34)) V → Hid (Sx V g5 H (.slice pk K.length ck)) ∧ Hid (V.ownsRow w.heap.size 34 6 (.slice pk K.length ck) K.length (wcl K)) ∧ Hid (Below g5 w6 V)) := Lib.hid fun V hV => ⟨Lib.hid (SK.out.later (thenBelow b7 hV)), Lib.hid (own_later OK.out (thenBelow b7 hV)), Lib.hid (BB.out.trans ((thenBelow b7 hV).mono (Nat.le_of_lt SK.out.lt)))⟩
          have SVV : Hid ((wr.alloc (.cells #[.int .i64 yr, .int .i64 yn, .int .i64 yt, .string yd, .int .i64 yf, .string yx] 34)).rangeAt g2 0 (vf F).toList) := Lib.hid (SO.later b7).vec
          have lk := SK.out.lt
          have hz7 : wr.heap.size ≤ (wr.alloc (.cells #[.int .i64 yr, .int .i64 yn, .int .i64 yt, .string yd, .int .i64 yf, .string yx] 34)).heap.size := b7.size
          clear bw bw7 b7 SO TK hhb hib hkb
          go_wp2_with (refine wpList_gload rfl _ rfl g2 0 rfl _ SVV.out _ Tryd.underlying23 rfl (sizeVcl F) ?_)
          refine (HS.out _).mono ?_
          rintro e w7 ⟨rfl, b8⟩
          clear k0 k1 k2 k3 k4 k5
          obtain ⟨f0, f1, fr⟩ := FA.out w7 b8
          obtain ⟨m0, m1, m2, m3, m4, m5⟩ := wr_cells fr
          simp only [Nat.zero_add] at m0 m1 m2 m3 m4 m5
          clear fr
          cases hb with
          | false =>
            go_wp2_with fail
            refine (I2.out w7 b8).mono ?_
            rintro e x1 ⟨rfl, c1⟩
            have d1 := thenBelow b8 c1
            clear f0 f1 m0 m1 m2 m3 m4 m5
            obtain ⟨f0, f1, fr⟩ := FA.out x1 d1
            obtain ⟨m0, m1, m2, m3, m4, m5⟩ := wr_cells fr
            simp only [Nat.zero_add] at m0 m1 m2 m3 m4 m5
            clear fr
            cases kb with
            | true =>
              obtain ⟨q1, q2, q3⟩ := KP.out x1 d1
              have KE : Hid (K = (M.take (j + 1)).foldl (refStepK L F) K1) := Lib.hid (by rw [← KN.out, KV.out]; rfl)
              go_wp2
              go_roundw
              case rel => exact ⟨j + 1, K, pk, ck, by omega, by go_num, KE, by omega, q1, q2, q3⟩
              case measure => simp [intOf]; omega
            | false =>
              go_wp2_with fail
              refine (PT.out x1 d1).mono ?_
              rintro e z ⟨vz, rfl, oz, bz⟩
              obtain ⟨pz, cz, rfl⟩ := own_slice oz
              have dz := thenBelow d1 bz
              obtain ⟨q1, q2, q3⟩ := KP.out z dz
              clear f0 f1 m0 m1 m2 m3 m4 m5
              have oz2 := own_base oz (show w.heap.size ≤ x1.heap.size by have h1 := d1.size; omega)
              have ln := (insW_perm K ⟨yr, yn, yt, yd, yf, yx⟩).length_eq
              rw [List.length_append, List.length_singleton] at ln
              have LN := Lib.hid ln
              clear ln
              go_wp2_with (refine wpList_skipJ rfl _ (exec_storeVS 24 _ _ rfl (fun w => by kernel_rfl) ⟨g5, 64, none⟩ pz (insW K ⟨yr, yn, yt, yd, yf, yx⟩).length cz _ (by kernel_rfl) (by kernel_rfl) q1.out.slot (frozen_of_row z g5 64 _ _ q1.out)) ?_)
              intro zz hzz
              have sz := q1.out.setSlot (.slice pz (insW K ⟨yr, yn, yt, yd, yf, yx⟩).length cz)
              have gz := grown_cellJ z g5 64 (.slice pz (insW K ⟨yr, yn, yt, yd, yf, yx⟩).length cz)
              rw [← hzz.out] at sz gz
              have R1 := Lib.hid sz
              have R2 := Lib.hid (own_keepT oz2 q1.out (by decide) gz)
              have R3 := Lib.hid (q3.out.trans (grown_below gz (Nat.le_of_lt q1.out.lt) (Nat.le_refl _)))
              clear sz gz hzz oz oz2
              have KE : Hid (insW K ⟨yr, yn, yt, yd, yf, yx⟩ = (M.take (j + 1)).foldl (refStepK L F) K1) := Lib.hid (by rw [← KN.out, KV.out]; rfl)
              go_wp2
              go_roundw
              case rel => exact ⟨j + 1, _, pz, cz, by omega, by go_num, KE, by have := LN.out; omega, R1, R2, R3⟩
              case measure => simp [intOf]; omega
          | true =>
            go_wp2_with fail
            refine (I1.out w7 b8).mono ?_
            rintro e w8 ⟨rfl, b9⟩
            have b10 := thenBelow b8 b9
            clear f0 f1 m0 m1 m2 m3 m4 m5
            obtain ⟨f0, f1, fr⟩ := FA.out w8 b10
            obtain ⟨m0, m1, m2, m3, m4, m5⟩ := wr_cells fr
            simp only [Nat.zero_add] at m0 m1 m2 m3 m4 m5
            clear fr
            cases ib with
            | false =>
              obtain ⟨q1, q2, q3⟩ := KP.out w8 b10
              have KE : Hid (K = (M.take (j + 1)).foldl (refStepK L F) K1) := Lib.hid (by rw [← KN.out, KV.out]; rfl)
              go_wp2
              go_roundw
              case rel => exact ⟨j + 1, K, pk, ck, by omega, by go_num, KE, by omega, q1, q2, q3⟩
              case measure => simp [intOf]; omega
            | true =>
              go_wp2_with fail
              refine (I2.out w8 b10).mono ?_
              rintro e x2 ⟨rfl, c2⟩
              have d2 := thenBelow b10 c2
              clear f0 f1 m0 m1 m2 m3 m4 m5
              obtain ⟨f0, f1, fr⟩ := FA.out x2 d2
              obtain ⟨m0, m1, m2, m3, m4, m5⟩ := wr_cells fr
              simp only [Nat.zero_add] at m0 m1 m2 m3 m4 m5
              clear fr
              cases kb with
              | true =>
                obtain ⟨q1, q2, q3⟩ := KP.out x2 d2
                have KE : Hid (K = (M.take (j + 1)).foldl (refStepK L F) K1) := Lib.hid (by rw [← KN.out, KV.out]; rfl)
                go_wp2
                go_roundw
                case rel => exact ⟨j + 1, K, pk, ck, by omega, by go_num, KE, by omega, q1, q2, q3⟩
                case measure => simp [intOf]; omega
              | false =>
                go_wp2_with fail
                refine (PT.out x2 d2).mono ?_
                rintro e z ⟨vz, rfl, oz, bz⟩
                obtain ⟨pz, cz, rfl⟩ := own_slice oz
                have dz := thenBelow d2 bz
                obtain ⟨q1, q2, q3⟩ := KP.out z dz
                clear f0 f1 m0 m1 m2 m3 m4 m5
                have oz2 := own_base oz (show w.heap.size ≤ x2.heap.size by have h1 := d2.size; omega)
                have ln := (insW_perm K ⟨yr, yn, yt, yd, yf, yx⟩).length_eq
                rw [List.length_append, List.length_singleton] at ln
                have LN := Lib.hid ln
                clear ln
                go_wp2_with (refine wpList_skipJ rfl _ (exec_storeVS 24 _ _ rfl (fun w => by kernel_rfl) ⟨g5, 64, none⟩ pz (insW K ⟨yr, yn, yt, yd, yf, yx⟩).length cz _ (by kernel_rfl) (by kernel_rfl) q1.out.slot (frozen_of_row z g5 64 _ _ q1.out)) ?_)
                intro zz hzz
                have sz := q1.out.setSlot (.slice pz (insW K ⟨yr, yn, yt, yd, yf, yx⟩).length cz)
                have gz := grown_cellJ z g5 64 (.slice pz (insW K ⟨yr, yn, yt, yd, yf, yx⟩).length cz)
                rw [← hzz.out] at sz gz
                have R1 := Lib.hid sz
                have R2 := Lib.hid (own_keepT oz2 q1.out (by decide) gz)
                have R3 := Lib.hid (q3.out.trans (grown_below gz (Nat.le_of_lt q1.out.lt) (Nat.le_refl _)))
                clear sz gz hzz oz oz2
                have KE : Hid (insW K ⟨yr, yn, yt, yd, yf, yx⟩ = (M.take (j + 1)).foldl (refStepK L F) K1) := Lib.hid (by rw [← KN.out, KV.out]; rfl)
                go_wp2
                go_roundw
                case rel => exact ⟨j + 1, _, pz, cz, by omega, by go_num, KE, by have := LN.out; omega, R1, R2, R3⟩
                case measure => simp [intOf]; omega
        · obtain rfl : j = M.length := by omega
          have hjl2 : ¬ ((M.length : Nat) : Int) < M.length := by omega
          rw [List.take_length] at HK
          have SE := SK.out.whole
          have ZE : Hid (Sx wr g4 (fun _ => 0) (.slice none 0 0)) := Lib.hid ((BB.out.block g4 (by omega)).trans Z6.out)
          have BE := Lib.hid (B6.out.trans (BB.out.mono lw5))
          have KE : Hid (RL = K) := Lib.hid (by rw [HRL.out, HK.out, HK1.out])
          go_wp2_with (first | refine wpList_gload rfl _ rfl g5 0 rfl _ SE _ Tryd.underlying26 rfl (sizeStl _ _) ?_ | refine wpList_gstore rfl _ _ rfl g4 rfl (scs H (.slice pk K.length ck)) rfl _ _ ZE.out (sizeSt _ _) (by rw [scs_size, scs_size]) (scs_one H rfl) ?_)
          intro w9 h9 g9
          have H9 := Lib.hid h9
          have O9 := Lib.hid (own_keepT OK.out ZE.out (by decide) g9)
          have B9 := Lib.hid (BE.out.trans (grown_below g9 BE.out.size lw4))
          clear h9 g9 SE
          go_wp2
          exact bodyPost_ret (v := .agg (scs H (.slice pk K.length ck))) (results_cell_row rfl _ w9 g4 _ _ (0, 0) _ rfl H9.out Tryd.underlying26 rfl (sizeSt _ _)) rfl ⟨_, rfl, by rw [KE.out]; exact O9.out, B9.out⟩
end Go.Proofs.YtdnkhcbglmfjbaaDoor
