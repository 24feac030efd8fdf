/- SortedBest: the walk. -/
import Derived.Test.YtlajceamjodcjaaBsPlain
import Derived.Test.YtlajceamjodcjaaSrtLib
import Derived.Test.YtlajceamjodcjaaSrtMergesP
namespace Go.Proofs.Ytlajceamjodcjaa
open Go Go.RowKit Hp
set_option linter.unusedVariables false

theorem liesI_take2 {w : World} {p : Option Addr} {l : List Int} (h : LiesI w p l) (k : Nat) : LiesI w p (l.take k) := by
  intro h0
  have hne : l ≠ [] := by rintro rfl; simp at h0
  obtain ⟨b, o, rfl, hc⟩ := h hne
  refine ⟨b, o, rfl, fun i hi => ?_⟩
  rw [List.length_take] at hi
  rw [hc i (by omega)]
  simp [List.getD, List.getElem?_take, show i < k by omega]
theorem sizeI1 (w : World) : (sizeOf (Try.prog.elem 24)).run Try.prog w = .ok 1 w := by kernel_rfl
theorem elemI1 : Try.prog.underlying 24 = some (.slice (Try.prog.elem 24)) := by kernel_rfl
theorem cutI (p : Option Addr) (A c n : Nat) (w : World) (hn : n ≤ c) : (Instr.sliceAt 24 (.slice p A c) none (some (.int .i64 (n : Int))) none).run Try.prog w = .ok (.slice p n c) w := by
  rw [run_sliceAt_slice (h := elemI1), run_slice_h (ht := elemI1) (h0 := by omega) (h2 := by omega), sizeI1]
  simp only [Result.andThen, sliced, Int.toNat_natCast, Nat.zero_mul, Nat.sub_zero]
  cases p <;> simp [Addr.add]
theorem exec_cutToI {o : Oper} {a : Act} (x y : Operand) (ho : o.op = .slice 24 x none (some y) none) (v : Value) (X : Int) (r : Value) (hx : a.eval x = v) (hy : a.eval y = .int .i64 X) (hr : ∀ V : World, (Instr.sliceAt 24 v none (some (.int .i64 X)) none).run Try.prog V = .ok r V) (w : World) :
    (execOp a.eval o).run Try.prog w = .ok (.value r) w := by
  unfold execOp
  simp only [ho, hx, Option.map_none, Option.map_some, hy]
  exact run_value_of (hr w)
theorem own_lies2 {w : World} {B : Nat} {e : TypeId} {q : Option Addr} {c n : Nat} {l : List Int} (h : w.ownsRow B e 1 (.slice q n c) l.length (ints l)) : LiesI w q l := by
  obtain ⟨_, p, cap, e, _, hl, _⟩ := own_liesI h
  injection e with e1 _ _
  subst e1
  exact hl
/-- what lies while numbers are offered: the boxes of the order at b, the best one behind them -/
structure BsW (w : World) (b : Nat) (k : Int) (h : List E) (t : Nat) : Prop where
  box : InBox b 27 #[] w
  box2 : InBoxE (b + 1) 69 #[.pointer (some ⟨b, 0, none⟩)] w
  at_ : BestAt (b + 2) (b + 2) k 58 #[.pointer (some ⟨b + 1, 0, none⟩)] h t w
def SB (b : Nat) (w : World) : Prop := (True ∧ InBox b 27 #[] w) ∧ InBoxE (b + 1) 69 #[.pointer (some ⟨b, 0, none⟩)] w
theorem bk_tell (b : Nat) : Tell 58 #[.pointer (some ⟨b + 1, 0, none⟩)] bk (fun _ => True) (SB b) :=
  behind_tell _ _ (Hp.steady lessKey) (fun _ => True) (fun w => True ∧ InBox b 27 #[] w) (steady_tell _ _ lessKey (fun _ => True) (fun _ => True) less_tell (fun _ _ _ _ => trivial) b) (fun w w' h hb => ⟨trivial, (hb.block b (Array.getElem?_eq_some_iff.1 h.2).1).trans h.2⟩) (b + 1)
theorem low_SB (b : Nat) : Low (b + 2) (SB b) := fun w w' h hb => ⟨⟨trivial, (hb.block b (by omega)).trans h.1.2⟩, (hb.block (b + 1) (by omega)).trans h.2⟩
theorem bestAt_below {w w' : World} {B H : Nat} {k : Int} {F : FuncId} {caps : Array Value} {l : List E} {turn : Nat} (h : BestAt B H k F caps l turn w) (hb : Below w.heap.size w w') : BestAt B H k F caps l turn w' := by
  obtain ⟨v, h1, h2⟩ := h
  exact ⟨v, (hb.block H (Array.getElem?_eq_some_iff.1 h1).1).trans h1, h2.kept ⟨hb.os, hb.tape, hb.output, hb.size, fun k hk _ => hb.block k hk⟩ (row := none) (by cases e : v.ownBlock with | none => exact .inl rfl | some x => exact .inr (by simp))⟩
theorem BsW.below {w w' : World} {b t : Nat} {k : Int} {h : List E} (i : BsW w b k h t) (hb : Below w.heap.size w w') : BsW w' b k h t :=
  ⟨(hb.block b (Array.getElem?_eq_some_iff.1 i.box).1).trans i.box, (hb.block (b + 1) (Array.getElem?_eq_some_iff.1 i.box2).1).trans i.box2, bestAt_below i.at_ hb⟩
theorem BsW.turn {w w' : World} {b t t' : Nat} {k : Int} {h h' : List E} (i : BsW w b k h t) (ha : BestAt (b + 2) (b + 2) k 58 #[.pointer (some ⟨b + 1, 0, none⟩)] h' t' w') (hb : Below (b + 2) w w') : BsW w' b k h' t' :=
  ⟨(hb.block b (by omega)).trans i.box, (hb.block (b + 1) (by omega)).trans i.box2, ha⟩
theorem BsW.sb {w : World} {b t : Nat} {k : Int} {h : List E} (i : BsW w b k h t) : SB b w := ⟨⟨trivial, i.box⟩, i.box2⟩
theorem BsW.lt {w : World} {b t : Nat} {k : Int} {h : List E} (i : BsW w b k h t) : b + 2 < w.heap.size := by
  obtain ⟨u, hu, _⟩ := i.at_
  exact (Array.getElem?_eq_some_iff.1 hu).1
set_option maxHeartbeats 2000000
set_option maxRecDepth 100000
theorem sortedBest_walk (k : Int) (p : Option Addr) (c : Nat) (l : List Int) (w : World) (_ : (Lit.int .i64 k).wf = true) (hl : CameI w p c l) : Calls Try.prog 6 #[.int .i64 k, .slice p l.length c] w fun e w' => e = .returned (.bool true) ∧ Below w.heap.size w w' := by
  have hlc := hl.le; have hlr := hl.reach
  by_cases hmin : l.length ≤ 200
  · have CL := Lib.hid hl.lies
    have hmin' : (l.length : Int) ≤ 200 := by omega
    clear hl
    go_enter Try.func6, Try.ntmps6
    go_wp2_with fail
    refine (newBest_is k 27 #[] w).mono ?_
    rintro e w1 ⟨rfl, hbox, hbox2, hat, hb1, _⟩
    have W1 := Lib.hid (show BsW w1 w.heap.size k [] 0 from ⟨hbox, hbox2, hat⟩)
    have B1 := Lib.hid hb1
    clear hbox hbox2 hat hb1
    go_wp2_with fail
    go_loopw [22] (fun i wr => ∃ (j : Nat) (h : List E) (t : Nat), j ≤ l.length ∧ i = .int .i64 j ∧ BsW wr w.heap.size k h t ∧ (0 < k → Kept k h (l.take j) ∧ t = j ∧ h.length ≤ j) ∧ (k ≤ 0 → h = []) ∧ Below w.heap.size w wr) (fun i _ => l.length - (intOf i).toNat)
    case atStart => exact ⟨0, [], 0, Nat.zero_le _, rfl, W1.out, fun hk => ⟨Kept.nil k hk, rfl, Nat.zero_le _⟩, fun _ => rfl, B1.out⟩
    case round =>
      obtain ⟨j, h, t, hj, rfl, hw, hpos, hneg, hb⟩ := hrel
      have HW := Lib.hid hw; have BB := Lib.hid hb; have HP := Lib.hid hpos; have HN := Lib.hid hneg
      clear hw hb W1 B1 hpos hneg
      by_cases hjl : j < l.length
      · obtain ⟨b1, o1, rfl, _, q1⟩ := (CL.out.below BB.out).at (by omega)
        have r1 := q1 j hjl
        have hjl' : (j : Int) < l.length := by omega
        have TK := Lib.hid (show l.take (j + 1) = l.take j ++ [l.getD j 0] by rw [List.take_add_one, List.getElem?_eq_getElem hjl]; simp [List.getD, List.getElem?_eq_getElem hjl])
        clear q1
        generalize l.getD j 0 = x at r1 TK
        go_wp2_with fail
        by_cases hk : 0 < k
        · obtain ⟨hK, rfl, hhj⟩ := HP.out hk
          have KS := Lib.hid (hK.step hk x (t : Int))
          refine (offer_is _ _ k _ _ bk (fun _ => True) (SB w.heap.size) (bk_tell w.heap.size) (low_SB w.heap.size) h t x wr HW.out.at_ (Nat.le_refl _) (fun _ _ => trivial) trivial HW.out.sb hk (by omega) (by omega)).mono ?_
          rintro e w2 ⟨rfl, ha2, hb2, _⟩
          have W2 := Lib.hid (HW.out.turn ha2 hb2)
          have B2 := Lib.hid (BB.out.trans (hb2.mono (by omega)))
          have hbl : (bOffer bk k h (x, (t : Int))).length ≤ t + 1 := by
            have h1 : ((bOffer bk k h (x, (t : Int))).length : Int) ≤ h.length + 1 := by
              unfold bOffer
              split
              · rw [(rise_perm bk (h ++ [(x, (t : Int))]) (by simp)).length_eq]; simp
              · split
                · rw [sink_len, List.length_set]; omega
                · omega
            omega
          clear ha2 hb2 HW BB HP HN
          rw [← TK.out] at KS
          generalize bOffer bk k h (x, (t : Int)) = h2 at W2 KS hbl
          go_wp2
          go_roundw
          case rel => exact ⟨t + 1, h2, t + 1, by omega, by go_num, W2.out, fun _ => ⟨KS.out, rfl, hbl⟩, fun h => by omega, B2.out⟩
          case measure => simp [intOf]; omega
        · have hk' : k ≤ 0 := by omega
          refine (offer_no _ _ k _ _ h t x wr HW.out.at_ hk').mono ?_
          rintro e w2 ⟨rfl, rfl⟩
          go_wp2
          go_roundw
          case rel => exact ⟨j + 1, h, t, by omega, by go_num, HW.out, fun h => by omega, HN.out, BB.out⟩
          case measure => simp [intOf]; omega
      · obtain rfl : j = l.length := by omega
        rw [List.take_length] at HP
        have hjl' : ¬ ((l.length : Nat) : Int) < l.length := by omega
        have hhl : h.length ≤ 200 ∧ (h.length : Int) = min (max k 0) (l.length : Int) ∧ keysOf (takeF bk h.length h) = keysOf ((sortK l).take h.length) ∧ ∀ y ∈ takeF bk h.length h, y ∈ l := by
          by_cases hk : 0 < k
          · obtain ⟨hK, _, hh⟩ := HP.out hk
            obtain ⟨e1, e2, e3⟩ := hK.told
            exact ⟨by omega, by omega, e1, e3⟩
          · obtain rfl := HN.out (by omega)
            refine ⟨by simp, ?_, by simp [takeF], fun y hy => by simp [takeF] at hy⟩
            simp only [List.length_nil]; omega
        obtain ⟨hh2, hhn, hke, hym⟩ := hhl
        have HHN := Lib.hid hhn; have HKE := Lib.hid hke; have HYM := Lib.hid hym
        clear HP HN hhn hke hym
        go_wp2_with fail
        refine (takeB_is _ _ k _ _ bk (fun _ => True) (SB w.heap.size) (bk_tell w.heap.size) (low_SB w.heap.size) h t wr HW.out.at_ (Nat.le_refl _) (fun _ _ => trivial) HW.out.sb (by omega)).mono ?_
        rintro e w2 ⟨v2, rfl, ho2, ha2, hb2, _⟩
        have W2 := Lib.hid (HW.out.turn ha2 hb2)
        have B2 := Lib.hid (BB.out.trans (hb2.mono (by omega)))
        have hzz := Nat.le_trans BB.out.size hb2.size
        have hgl := takeF_len bk h.length h
        generalize takeF bk h.length h = got at HKE HYM ho2 hgl
        obtain ⟨q2, c2, rfl⟩ := ownV_slice ho2
        have O2 := Lib.hid ho2
        have HGL := Lib.hid hgl
        have hgl2 : got.length ≤ 200 := by omega
        clear hgl
        clear ha2 hb2 HW BB ho2
        go_wp2_with fail
        refine (refSort_is p c l w2 (CL.out.below B2.out) (by omega)).mono ?_
        rintro e w3 ⟨v3, rfl, ho3, hb3⟩
        obtain ⟨_, q3, c3, rfl, hc3, hq3, _⟩ := own_liesI ho3
        have Q3 := Lib.hid hq3; have O3 := Lib.hid (ownI_later O2.out hb3); have W3 := Lib.hid (W2.out.below hb3); have B3 := Lib.hid (thenBelow B2.out hb3)
        have HSL := Lib.hid (sortK_len l)
        have hz3 := Nat.le_trans hzz hb3.size
        have hs2 : (sortK l).length ≤ 200 := by rw [sortK_len]; omega
        have hhs : h.length ≤ (sortK l).length := by have := HHN.out; rw [HSL.out]; omega
        clear ho3 hb3 hq3 O2 W2 B2
        have NN := Lib.hid (show ∀ X : Int, X = (h.length : Int) → ∀ V : World, (Instr.sliceAt 24 (.slice q3 (sortK l).length c3) none (some (.int .i64 X)) none).run Try.prog V = .ok (.slice q3 h.length c3) V from fun X e V => by rw [e]; exact cutI q3 _ c3 h.length V (by omega))
        by_cases hk : k < 0
        · have hX := Lib.hid (show (0 : Int) = (h.length : Int) by have := HHN.out; omega)
          have hx2 : (0 : Int) ≤ ((sortK l).length : Int) := by omega
          clear HHN
          go_wp2_with fail
          rename_i K10 hK10
          refine rg_calm (by kernel_rfl) rfl (S := fun _ => True) ?_
          refine rgd_pure 0 (some 39) rfl rfl (.slice q2 got.length c2) (by kernel_rfl) (by kernel_rfl) (by kernel_rfl) (fun _ _ _ _ h => h) (by kernel_rfl) (exec_is _ (.inl rfl) _ (by kernel_rfl)) trivial ?_
          refine rgd_pure 2 (some 41) rfl rfl (.slice q3 (sortK l).length c3) (by kernel_rfl) (by kernel_rfl) (by kernel_rfl) (fun _ _ _ _ h => h) (by kernel_rfl) (exec_is _ (.inl rfl) _ (by kernel_rfl)) trivial ?_
          refine rgd_pure 3 (some 42) rfl rfl (.int .i64 0) (by kernel_rfl) (by kernel_rfl) (by kernel_rfl) (fun _ _ _ _ h => h) (by kernel_rfl) (exec_is _ (.inl rfl) _ (by kernel_rfl)) trivial ?_
          refine rgd_pure 4 (some 43) rfl rfl (.slice q3 h.length c3) (by kernel_rfl) (by kernel_rfl) (by kernel_rfl) (fun _ _ _ _ h => h) (by kernel_rfl) (exec_cutToI _ _ rfl (.slice q3 (sortK l).length c3) 0 _ (by kernel_rfl) (by kernel_rfl) (NN.out _ hX.out)) trivial ?_
          refine rgd_call 1 (some 40) (by kernel_rfl) rfl rfl (by kernel_rfl) 33 #[.slice q2 got.length c2] (by kernel_rfl) (refKeys_is q2 c2 got w3.drew (own_lies2 O3.out) (by omega)) ?_
          rintro e w4 ⟨v4, rfl, ho4, hb4⟩
          refine ⟨_, rfl, trivial, ?_⟩
          obtain ⟨_, q4, c4, rfl, _, hq4, _⟩ := own_liesI ho4
          have W4 := Lib.hid (BsW.below (w := w3.drew) (show BsW w3.drew w.heap.size k [] 0 from ⟨W3.out.box, W3.out.box2, W3.out.at_⟩) hb4); have B4 := Lib.hid (thenBelow (show Below w.heap.size w w3.drew from below_drewN B3.out 1) hb4)
          have QT := Lib.hid (LiesI.below (w := w3.drew) (liesI_take2 Q3.out h.length) hb4); have OG := Lib.hid (ownI_later (w := w3.drew) (show w3.drew.ownsRow _ 3 1 _ _ _ from O3.out) hb4); have Q4 := Lib.hid hq4
          have hT : ((sortK l).take h.length).length = h.length := by rw [List.length_take]; omega
          have hT2 : ((sortK l).take h.length).length ≤ 10000 := by omega
          have hz4 := Nat.le_trans hz3 (show w3.heap.size ≤ w4.heap.size from hb4.size)
          clear ho4 hb4 hq4 W3 B3 Q3 O3
          refine rgd_call 5 (some 44) (by kernel_rfl) rfl rfl (by kernel_rfl) 33 #[.slice q3 h.length c3] (by kernel_rfl) (by have := refKeys_is q3 c3 ((sortK l).take h.length) w4 QT.out hT2; rw [hT] at this; exact this) ?_
          rintro e w5 ⟨v5, rfl, ho5, hb5⟩
          refine ⟨_, rfl, trivial, ?_⟩
          rw [← HKE.out] at ho5
          obtain ⟨_, q5, c5, rfl, _, hq5, _⟩ := own_liesI ho5
          have W5 := Lib.hid (W4.out.below hb5); have B5 := Lib.hid (thenBelow B4.out hb5); have Q45 := Lib.hid (Q4.out.below hb5); have OG5 := Lib.hid (ownI_later OG.out hb5); have Q5 := Lib.hid hq5
          have hkl : (keysOf got).length ≤ 1000000 := by simp only [keysOf, List.length_map]; omega
          have hz5 := Nat.le_trans hz4 hb5.size
          clear ho5 hb5 hq5 W4 B4 Q4 OG QT hT hT2
          refine rgd_call 6 (some 45) (by kernel_rfl) rfl rfl (by kernel_rfl) 35 #[.slice q4 (keysOf got).length c4, .slice q5 (keysOf got).length c5] (by kernel_rfl) (equalI_any q4 q5 c4 c5 (keysOf got) w5 Q45.out Q5.out hkl) ?_
          rintro e w6 ⟨rfl, hb6⟩
          refine ⟨_, rfl, trivial, ?_⟩
          have W6 := Lib.hid (W5.out.below hb6); have B6 := Lib.hid (thenBelow B5.out hb6); have OG6 := Lib.hid (ownI_later OG5.out hb6)
          have hz6 := Nat.le_trans hz5 hb6.size
          clear hb6 W5 B5 Q45 OG5 Q5
          refine rgd_pure 7 (some 46) rfl rfl (.bool false) (by kernel_rfl) (by kernel_rfl) (by kernel_rfl) (fun _ _ _ _ h => h) (by kernel_rfl) (fun w => by kernel_rfl) trivial ?_
          refine rgd_pure 8 (some 47) rfl rfl (.bool false) (by kernel_rfl) (by kernel_rfl) (by kernel_rfl) (fun _ _ _ _ h => h) (by kernel_rfl) (exec_is _ (.inl rfl) _ (by kernel_rfl)) trivial ?_
          refine rgd_pure 9 (some 48) rfl rfl (.pointer (some ⟨w.heap.size + 2, 0, none⟩)) (by kernel_rfl) (by kernel_rfl) (by kernel_rfl) (fun _ _ _ _ h => h) (by kernel_rfl) (exec_is _ (.inl rfl) _ (by kernel_rfl)) trivial ?_
          refine rgd_call 10 (some 49) (by kernel_rfl) rfl rfl (by kernel_rfl) 39 #[.pointer (some ⟨w.heap.size + 2, 0, none⟩)] (by kernel_rfl) (takeB_is _ _ k _ _ bk (fun _ => True) (SB w.heap.size) (bk_tell w.heap.size) (low_SB w.heap.size) [] 0 w6 W6.out.at_ (Nat.le_refl _) (fun _ _ => trivial) W6.out.sb (by simp)) ?_
          rintro e w7 ⟨v7, rfl, ho7, _, hb7, ha7⟩
          refine ⟨_, rfl, trivial, ?_⟩
          obtain ⟨_, q7, c7, rfl, _, _, _⟩ := own_liesI ho7
          have B7 := Lib.hid (B6.out.trans (hb7.mono (by omega)))
          have OG7 := Lib.hid (own_lies2 (own_apartB OG6.out ha7 W6.out.at_))
          clear ho7 hb7 ha7 W6 B6 OG6
          refine rgd_pure 11 (some 50) rfl rfl (.int .i64 0) (by kernel_rfl) (by kernel_rfl) (by kernel_rfl) (fun _ _ _ _ h => h) (by kernel_rfl) (fun w => by kernel_rfl) trivial ?_
          refine rgd_pure 12 (some 51) rfl rfl (.bool false) (by kernel_rfl) (by kernel_rfl) (by kernel_rfl) (fun _ _ _ _ h => h) (by kernel_rfl) (fun w => by kernel_rfl) trivial ?_
          refine rgd_pure 13 (some 52) rfl rfl (.bool false) (by kernel_rfl) (by kernel_rfl) (by kernel_rfl) (fun _ _ _ _ h => h) (by kernel_rfl) (fun w => by kernel_rfl) trivial ?_
          refine wpAnyH_done (by kernel_rfl) (hK10 _ _ ?_) _
          simp only [Act.put, List.setIfInBounds_toArray, List.set_cons_zero, List.set_cons_succ]
          clear hK10 NN hX
          go_wp2_with fail
          go_loopw [55] (fun i wq => ∃ j : Nat, j ≤ got.length ∧ i = .int .i64 j ∧ wq = w7) (fun i _ => got.length - (intOf i).toNat)
          case atStart => exact ⟨0, Nat.zero_le _, rfl, rfl⟩
          case round =>
            obtain ⟨j, hj, rfl, rfl⟩ := hrel
            by_cases hjg : j < got.length
            · obtain ⟨b9, o9, rfl, _, q9⟩ := OG7.out.at (by omega)
              have r9 := q9 j hjg
              have hjg' : (j : Int) < got.length := by omega
              have hmm := HYM.out (got.getD j 0) (by rw [List.getD_eq_getElem?_getD, List.getElem?_eq_getElem hjg]; exact List.getElem_mem _)
              have HMM := Lib.hid hmm
              clear q9 hmm
              generalize got.getD j 0 = y at r9 HMM
              go_wp2_with fail
              refine (contains_in p c l y wr (CL.out.below B7.out) HMM.out (by omega)).mono ?_
              rintro e w8 ⟨rfl, rfl⟩
              go_wp2
              go_roundw
              case rel => exact ⟨j + 1, by omega, by go_num, trivial⟩
              case measure => simp [intOf]; omega
            · obtain rfl : j = got.length := by omega
              have hjg' : ¬ ((got.length : Nat) : Int) < got.length := by omega
              go_wp2_with fail
              refine (awake6 wr).mono ?_
              rintro e w8 ⟨rfl, hb8⟩
              have B8 := Lib.hid (thenBelow B7.out hb8)
              clear hb8 B7
              go_wp2_with fail
              go_ret
              exact ⟨ret_bool rfl, B8.out⟩
        · by_cases hk2 : k ≤ ((sortK l).length : Int)
          · have hX := Lib.hid (show k = (h.length : Int) by have := HHN.out; have := HSL.out; omega)
            have hk' : ¬ k < 0 := hk
            clear HHN hk
            go_wp2_with fail
            rename_i K10 hK10
            refine rg_calm (by kernel_rfl) rfl (S := fun _ => True) ?_
            refine rgd_pure 0 (some 39) rfl rfl (.slice q2 got.length c2) (by kernel_rfl) (by kernel_rfl) (by kernel_rfl) (fun _ _ _ _ h => h) (by kernel_rfl) (exec_is _ (.inl rfl) _ (by kernel_rfl)) trivial ?_
            refine rgd_pure 2 (some 41) rfl rfl (.slice q3 (sortK l).length c3) (by kernel_rfl) (by kernel_rfl) (by kernel_rfl) (fun _ _ _ _ h => h) (by kernel_rfl) (exec_is _ (.inl rfl) _ (by kernel_rfl)) trivial ?_
            refine rgd_pure 3 (some 42) rfl rfl (.int .i64 k) (by kernel_rfl) (by kernel_rfl) (by kernel_rfl) (fun _ _ _ _ h => h) (by kernel_rfl) (exec_is _ (.inl rfl) _ (by kernel_rfl)) trivial ?_
            refine rgd_pure 4 (some 43) rfl rfl (.slice q3 h.length c3) (by kernel_rfl) (by kernel_rfl) (by kernel_rfl) (fun _ _ _ _ h => h) (by kernel_rfl) (exec_cutToI _ _ rfl (.slice q3 (sortK l).length c3) k _ (by kernel_rfl) (by kernel_rfl) (NN.out _ hX.out)) trivial ?_
            refine rgd_call 1 (some 40) (by kernel_rfl) rfl rfl (by kernel_rfl) 33 #[.slice q2 got.length c2] (by kernel_rfl) (refKeys_is q2 c2 got w3.drew (own_lies2 O3.out) (by omega)) ?_
            rintro e w4 ⟨v4, rfl, ho4, hb4⟩
            refine ⟨_, rfl, trivial, ?_⟩
            obtain ⟨_, q4, c4, rfl, _, hq4, _⟩ := own_liesI ho4
            have W4 := Lib.hid (BsW.below (w := w3.drew) (show BsW w3.drew w.heap.size k [] 0 from ⟨W3.out.box, W3.out.box2, W3.out.at_⟩) hb4); have B4 := Lib.hid (thenBelow (show Below w.heap.size w w3.drew from below_drewN B3.out 1) hb4)
            have QT := Lib.hid (LiesI.below (w := w3.drew) (liesI_take2 Q3.out h.length) hb4); have OG := Lib.hid (ownI_later (w := w3.drew) (show w3.drew.ownsRow _ 3 1 _ _ _ from O3.out) hb4); have Q4 := Lib.hid hq4
            have hT : ((sortK l).take h.length).length = h.length := by rw [List.length_take]; omega
            have hT2 : ((sortK l).take h.length).length ≤ 10000 := by omega
            have hz4 := Nat.le_trans hz3 (show w3.heap.size ≤ w4.heap.size from hb4.size)
            clear ho4 hb4 hq4 W3 B3 Q3 O3
            refine rgd_call 5 (some 44) (by kernel_rfl) rfl rfl (by kernel_rfl) 33 #[.slice q3 h.length c3] (by kernel_rfl) (by have := refKeys_is q3 c3 ((sortK l).take h.length) w4 QT.out hT2; rw [hT] at this; exact this) ?_
            rintro e w5 ⟨v5, rfl, ho5, hb5⟩
            refine ⟨_, rfl, trivial, ?_⟩
            rw [← HKE.out] at ho5
            obtain ⟨_, q5, c5, rfl, _, hq5, _⟩ := own_liesI ho5
            have W5 := Lib.hid (W4.out.below hb5); have B5 := Lib.hid (thenBelow B4.out hb5); have Q45 := Lib.hid (Q4.out.below hb5); have OG5 := Lib.hid (ownI_later OG.out hb5); have Q5 := Lib.hid hq5
            have hkl : (keysOf got).length ≤ 1000000 := by simp only [keysOf, List.length_map]; omega
            have hz5 := Nat.le_trans hz4 hb5.size
            clear ho5 hb5 hq5 W4 B4 Q4 OG QT hT hT2
            refine rgd_call 6 (some 45) (by kernel_rfl) rfl rfl (by kernel_rfl) 35 #[.slice q4 (keysOf got).length c4, .slice q5 (keysOf got).length c5] (by kernel_rfl) (equalI_any q4 q5 c4 c5 (keysOf got) w5 Q45.out Q5.out hkl) ?_
            rintro e w6 ⟨rfl, hb6⟩
            refine ⟨_, rfl, trivial, ?_⟩
            have W6 := Lib.hid (W5.out.below hb6); have B6 := Lib.hid (thenBelow B5.out hb6); have OG6 := Lib.hid (ownI_later OG5.out hb6)
            have hz6 := Nat.le_trans hz5 hb6.size
            clear hb6 W5 B5 Q45 OG5 Q5
            refine rgd_pure 7 (some 46) rfl rfl (.bool false) (by kernel_rfl) (by kernel_rfl) (by kernel_rfl) (fun _ _ _ _ h => h) (by kernel_rfl) (fun w => by kernel_rfl) trivial ?_
            refine rgd_pure 8 (some 47) rfl rfl (.bool false) (by kernel_rfl) (by kernel_rfl) (by kernel_rfl) (fun _ _ _ _ h => h) (by kernel_rfl) (exec_is _ (.inl rfl) _ (by kernel_rfl)) trivial ?_
            refine rgd_pure 9 (some 48) rfl rfl (.pointer (some ⟨w.heap.size + 2, 0, none⟩)) (by kernel_rfl) (by kernel_rfl) (by kernel_rfl) (fun _ _ _ _ h => h) (by kernel_rfl) (exec_is _ (.inl rfl) _ (by kernel_rfl)) trivial ?_
            refine rgd_call 10 (some 49) (by kernel_rfl) rfl rfl (by kernel_rfl) 39 #[.pointer (some ⟨w.heap.size + 2, 0, none⟩)] (by kernel_rfl) (takeB_is _ _ k _ _ bk (fun _ => True) (SB w.heap.size) (bk_tell w.heap.size) (low_SB w.heap.size) [] 0 w6 W6.out.at_ (Nat.le_refl _) (fun _ _ => trivial) W6.out.sb (by simp)) ?_
            rintro e w7 ⟨v7, rfl, ho7, _, hb7, ha7⟩
            refine ⟨_, rfl, trivial, ?_⟩
            obtain ⟨_, q7, c7, rfl, _, _, _⟩ := own_liesI ho7
            have B7 := Lib.hid (B6.out.trans (hb7.mono (by omega)))
            have OG7 := Lib.hid (own_lies2 (own_apartB OG6.out ha7 W6.out.at_))
            clear ho7 hb7 ha7 W6 B6 OG6
            refine rgd_pure 11 (some 50) rfl rfl (.int .i64 0) (by kernel_rfl) (by kernel_rfl) (by kernel_rfl) (fun _ _ _ _ h => h) (by kernel_rfl) (fun w => by kernel_rfl) trivial ?_
            refine rgd_pure 12 (some 51) rfl rfl (.bool false) (by kernel_rfl) (by kernel_rfl) (by kernel_rfl) (fun _ _ _ _ h => h) (by kernel_rfl) (fun w => by kernel_rfl) trivial ?_
            refine rgd_pure 13 (some 52) rfl rfl (.bool false) (by kernel_rfl) (by kernel_rfl) (by kernel_rfl) (fun _ _ _ _ h => h) (by kernel_rfl) (fun w => by kernel_rfl) trivial ?_
            refine wpAnyH_done (by kernel_rfl) (hK10 _ _ ?_) _
            simp only [Act.put, List.setIfInBounds_toArray, List.set_cons_zero, List.set_cons_succ]
            clear hK10 NN hX
            go_wp2_with fail
            go_loopw [55] (fun i wq => ∃ j : Nat, j ≤ got.length ∧ i = .int .i64 j ∧ wq = w7) (fun i _ => got.length - (intOf i).toNat)
            case atStart => exact ⟨0, Nat.zero_le _, rfl, rfl⟩
            case round =>
              obtain ⟨j, hj, rfl, rfl⟩ := hrel
              by_cases hjg : j < got.length
              · obtain ⟨b9, o9, rfl, _, q9⟩ := OG7.out.at (by omega)
                have r9 := q9 j hjg
                have hjg' : (j : Int) < got.length := by omega
                have hmm := HYM.out (got.getD j 0) (by rw [List.getD_eq_getElem?_getD, List.getElem?_eq_getElem hjg]; exact List.getElem_mem _)
                have HMM := Lib.hid hmm
                clear q9 hmm
                generalize got.getD j 0 = y at r9 HMM
                go_wp2_with fail
                refine (contains_in p c l y wr (CL.out.below B7.out) HMM.out (by omega)).mono ?_
                rintro e w8 ⟨rfl, rfl⟩
                go_wp2
                go_roundw
                case rel => exact ⟨j + 1, by omega, by go_num, trivial⟩
                case measure => simp [intOf]; omega
              · obtain rfl : j = got.length := by omega
                have hjg' : ¬ ((got.length : Nat) : Int) < got.length := by omega
                go_wp2_with fail
                refine (awake6 wr).mono ?_
                rintro e w8 ⟨rfl, hb8⟩
                have B8 := Lib.hid (thenBelow B7.out hb8)
                clear hb8 B7
                go_wp2_with fail
                go_ret
                exact ⟨ret_bool rfl, B8.out⟩
          · have hX := Lib.hid (show ((sortK l).length : Int) = (h.length : Int) by have := HHN.out; have := HSL.out; omega)
            have hk' : ¬ k < 0 := hk
            clear HHN hk
            go_wp2_with fail
            rename_i K10 hK10
            refine rg_calm (by kernel_rfl) rfl (S := fun _ => True) ?_
            refine rgd_pure 0 (some 39) rfl rfl (.slice q2 got.length c2) (by kernel_rfl) (by kernel_rfl) (by kernel_rfl) (fun _ _ _ _ h => h) (by kernel_rfl) (exec_is _ (.inl rfl) _ (by kernel_rfl)) trivial ?_
            refine rgd_pure 2 (some 41) rfl rfl (.slice q3 (sortK l).length c3) (by kernel_rfl) (by kernel_rfl) (by kernel_rfl) (fun _ _ _ _ h => h) (by kernel_rfl) (exec_is _ (.inl rfl) _ (by kernel_rfl)) trivial ?_
            refine rgd_pure 3 (some 42) rfl rfl (.int .i64 ((sortK l).length : Int)) (by kernel_rfl) (by kernel_rfl) (by kernel_rfl) (fun _ _ _ _ h => h) (by kernel_rfl) (exec_is _ (.inl rfl) _ (by kernel_rfl)) trivial ?_
            refine rgd_pure 4 (some 43) rfl rfl (.slice q3 h.length c3) (by kernel_rfl) (by kernel_rfl) (by kernel_rfl) (fun _ _ _ _ h => h) (by kernel_rfl) (exec_cutToI _ _ rfl (.slice q3 (sortK l).length c3) ((sortK l).length : Int) _ (by kernel_rfl) (by kernel_rfl) (NN.out _ hX.out)) trivial ?_
            refine rgd_call 1 (some 40) (by kernel_rfl) rfl rfl (by kernel_rfl) 33 #[.slice q2 got.length c2] (by kernel_rfl) (refKeys_is q2 c2 got w3.drew (own_lies2 O3.out) (by omega)) ?_
            rintro e w4 ⟨v4, rfl, ho4, hb4⟩
            refine ⟨_, rfl, trivial, ?_⟩
            obtain ⟨_, q4, c4, rfl, _, hq4, _⟩ := own_liesI ho4
            have W4 := Lib.hid (BsW.below (w := w3.drew) (show BsW w3.drew w.heap.size k [] 0 from ⟨W3.out.box, W3.out.box2, W3.out.at_⟩) hb4); have B4 := Lib.hid (thenBelow (show Below w.heap.size w w3.drew from below_drewN B3.out 1) hb4)
            have QT := Lib.hid (LiesI.below (w := w3.drew) (liesI_take2 Q3.out h.length) hb4); have OG := Lib.hid (ownI_later (w := w3.drew) (show w3.drew.ownsRow _ 3 1 _ _ _ from O3.out) hb4); have Q4 := Lib.hid hq4
            have hT : ((sortK l).take h.length).length = h.length := by rw [List.length_take]; omega
            have hT2 : ((sortK l).take h.length).length ≤ 10000 := by omega
            have hz4 := Nat.le_trans hz3 (show w3.heap.size ≤ w4.heap.size from hb4.size)
            clear ho4 hb4 hq4 W3 B3 Q3 O3
            refine rgd_call 5 (some 44) (by kernel_rfl) rfl rfl (by kernel_rfl) 33 #[.slice q3 h.length c3] (by kernel_rfl) (by have := refKeys_is q3 c3 ((sortK l).take h.length) w4 QT.out hT2; rw [hT] at this; exact this) ?_
            rintro e w5 ⟨v5, rfl, ho5, hb5⟩
            refine ⟨_, rfl, trivial, ?_⟩
            rw [← HKE.out] at ho5
            obtain ⟨_, q5, c5, rfl, _, hq5, _⟩ := own_liesI ho5
            have W5 := Lib.hid (W4.out.below hb5); have B5 := Lib.hid (thenBelow B4.out hb5); have Q45 := Lib.hid (Q4.out.below hb5); have OG5 := Lib.hid (ownI_later OG.out hb5); have Q5 := Lib.hid hq5
            have hkl : (keysOf got).length ≤ 1000000 := by simp only [keysOf, List.length_map]; omega
            have hz5 := Nat.le_trans hz4 hb5.size
            clear ho5 hb5 hq5 W4 B4 Q4 OG QT hT hT2
            refine rgd_call 6 (some 45) (by kernel_rfl) rfl rfl (by kernel_rfl) 35 #[.slice q4 (keysOf got).length c4, .slice q5 (keysOf got).length c5] (by kernel_rfl) (equalI_any q4 q5 c4 c5 (keysOf got) w5 Q45.out Q5.out hkl) ?_
            rintro e w6 ⟨rfl, hb6⟩
            refine ⟨_, rfl, trivial, ?_⟩
            have W6 := Lib.hid (W5.out.below hb6); have B6 := Lib.hid (thenBelow B5.out hb6); have OG6 := Lib.hid (ownI_later OG5.out hb6)
            have hz6 := Nat.le_trans hz5 hb6.size
            clear hb6 W5 B5 Q45 OG5 Q5
            refine rgd_pure 7 (some 46) rfl rfl (.bool false) (by kernel_rfl) (by kernel_rfl) (by kernel_rfl) (fun _ _ _ _ h => h) (by kernel_rfl) (fun w => by kernel_rfl) trivial ?_
            refine rgd_pure 8 (some 47) rfl rfl (.bool false) (by kernel_rfl) (by kernel_rfl) (by kernel_rfl) (fun _ _ _ _ h => h) (by kernel_rfl) (exec_is _ (.inl rfl) _ (by kernel_rfl)) trivial ?_
            refine rgd_pure 9 (some 48) rfl rfl (.pointer (some ⟨w.heap.size + 2, 0, none⟩)) (by kernel_rfl) (by kernel_rfl) (by kernel_rfl) (fun _ _ _ _ h => h) (by kernel_rfl) (exec_is _ (.inl rfl) _ (by kernel_rfl)) trivial ?_
            refine rgd_call 10 (some 49) (by kernel_rfl) rfl rfl (by kernel_rfl) 39 #[.pointer (some ⟨w.heap.size + 2, 0, none⟩)] (by kernel_rfl) (takeB_is _ _ k _ _ bk (fun _ => True) (SB w.heap.size) (bk_tell w.heap.size) (low_SB w.heap.size) [] 0 w6 W6.out.at_ (Nat.le_refl _) (fun _ _ => trivial) W6.out.sb (by simp)) ?_
            rintro e w7 ⟨v7, rfl, ho7, _, hb7, ha7⟩
            refine ⟨_, rfl, trivial, ?_⟩
            obtain ⟨_, q7, c7, rfl, _, _, _⟩ := own_liesI ho7
            have B7 := Lib.hid (B6.out.trans (hb7.mono (by omega)))
            have OG7 := Lib.hid (own_lies2 (own_apartB OG6.out ha7 W6.out.at_))
            clear ho7 hb7 ha7 W6 B6 OG6
            refine rgd_pure 11 (some 50) rfl rfl (.int .i64 0) (by kernel_rfl) (by kernel_rfl) (by kernel_rfl) (fun _ _ _ _ h => h) (by kernel_rfl) (fun w => by kernel_rfl) trivial ?_
            refine rgd_pure 12 (some 51) rfl rfl (.bool false) (by kernel_rfl) (by kernel_rfl) (by kernel_rfl) (fun _ _ _ _ h => h) (by kernel_rfl) (fun w => by kernel_rfl) trivial ?_
            refine rgd_pure 13 (some 52) rfl rfl (.bool false) (by kernel_rfl) (by kernel_rfl) (by kernel_rfl) (fun _ _ _ _ h => h) (by kernel_rfl) (fun w => by kernel_rfl) trivial ?_
            refine wpAnyH_done (by kernel_rfl) (hK10 _ _ ?_) _
            simp only [Act.put, List.setIfInBounds_toArray, List.set_cons_zero, List.set_cons_succ]
            clear hK10 NN hX
            go_wp2_with fail
            go_loopw [55] (fun i wq => ∃ j : Nat, j ≤ got.length ∧ i = .int .i64 j ∧ wq = w7) (fun i _ => got.length - (intOf i).toNat)
            case atStart => exact ⟨0, Nat.zero_le _, rfl, rfl⟩
            case round =>
              obtain ⟨j, hj, rfl, rfl⟩ := hrel
              by_cases hjg : j < got.length
              · obtain ⟨b9, o9, rfl, _, q9⟩ := OG7.out.at (by omega)
                have r9 := q9 j hjg
                have hjg' : (j : Int) < got.length := by omega
                have hmm := HYM.out (got.getD j 0) (by rw [List.getD_eq_getElem?_getD, List.getElem?_eq_getElem hjg]; exact List.getElem_mem _)
                have HMM := Lib.hid hmm
                clear q9 hmm
                generalize got.getD j 0 = y at r9 HMM
                go_wp2_with fail
                refine (contains_in p c l y wr (CL.out.below B7.out) HMM.out (by omega)).mono ?_
                rintro e w8 ⟨rfl, rfl⟩
                go_wp2
                go_roundw
                case rel => exact ⟨j + 1, by omega, by go_num, trivial⟩
                case measure => simp [intOf]; omega
              · obtain rfl : j = got.length := by omega
                have hjg' : ¬ ((got.length : Nat) : Int) < got.length := by omega
                go_wp2_with fail
                refine (awake6 wr).mono ?_
                rintro e w8 ⟨rfl, hb8⟩
                have B8 := Lib.hid (thenBelow B7.out hb8)
                clear hb8 B7
                go_wp2_with fail
                go_ret
                exact ⟨ret_bool rfl, B8.out⟩
  · obtain ⟨l1, hl1⟩ : ∃ l1, l1 = l.take 200 := ⟨_, rfl⟩
    have hl1n : l1.length = 200 := by rw [hl1, List.length_take]; omega
    have HL1 := Lib.hid (show (200 : Nat) = l1.length from hl1n.symm)
    have CL := Lib.hid (show LiesI w p l1 by rw [hl1]; exact liesI_take2 hl.lies _)
    have hl1b : l1.length ≤ 200 := by omega
    clear hl1n
    have hmin' : ¬ (l.length : Int) ≤ 200 := by omega
    clear hl hl1
    go_enter Try.func6, Try.ntmps6
    go_wp2_with fail
    refine (newBest_is k 27 #[] w).mono ?_
    rintro e w1 ⟨rfl, hbox, hbox2, hat, hb1, _⟩
    have W1 := Lib.hid (show BsW w1 w.heap.size k [] 0 from ⟨hbox, hbox2, hat⟩)
    have B1 := Lib.hid hb1
    clear hbox hbox2 hat hb1
    go_wp2_with fail
    rw [HL1.out]
    go_loopw [22] (fun i wr => ∃ (j : Nat) (h : List E) (t : Nat), j ≤ l1.length ∧ i = .int .i64 j ∧ BsW wr w.heap.size k h t ∧ (0 < k → Kept k h (l1.take j) ∧ t = j ∧ h.length ≤ j) ∧ (k ≤ 0 → h = []) ∧ Below w.heap.size w wr) (fun i _ => l1.length - (intOf i).toNat)
    case atStart => exact ⟨0, [], 0, Nat.zero_le _, rfl, W1.out, fun hk => ⟨Kept.nil k hk, rfl, Nat.zero_le _⟩, fun _ => rfl, B1.out⟩
    case round =>
      obtain ⟨j, h, t, hj, rfl, hw, hpos, hneg, hb⟩ := hrel
      have HW := Lib.hid hw; have BB := Lib.hid hb; have HP := Lib.hid hpos; have HN := Lib.hid hneg
      clear hw hb W1 B1 hpos hneg
      by_cases hjl : j < l1.length
      · obtain ⟨b1, o1, rfl, _, q1⟩ := (CL.out.below BB.out).at (by omega)
        have r1 := q1 j hjl
        have hjl' : (j : Int) < l1.length := by omega
        have hjl3 : (j : Int) < 200 := by have := HL1.out; omega
        have TK := Lib.hid (show l1.take (j + 1) = l1.take j ++ [l1.getD j 0] by rw [List.take_add_one, List.getElem?_eq_getElem hjl]; simp [List.getD, List.getElem?_eq_getElem hjl])
        clear q1
        generalize l1.getD j 0 = x at r1 TK
        go_wp2_with fail
        by_cases hk : 0 < k
        · obtain ⟨hK, rfl, hhj⟩ := HP.out hk
          have KS := Lib.hid (hK.step hk x (t : Int))
          refine (offer_is _ _ k _ _ bk (fun _ => True) (SB w.heap.size) (bk_tell w.heap.size) (low_SB w.heap.size) h t x wr HW.out.at_ (Nat.le_refl _) (fun _ _ => trivial) trivial HW.out.sb hk (by omega) (by omega)).mono ?_
          rintro e w2 ⟨rfl, ha2, hb2, _⟩
          have W2 := Lib.hid (HW.out.turn ha2 hb2)
          have B2 := Lib.hid (BB.out.trans (hb2.mono (by omega)))
          have hbl : (bOffer bk k h (x, (t : Int))).length ≤ t + 1 := by
            have h1 : ((bOffer bk k h (x, (t : Int))).length : Int) ≤ h.length + 1 := by
              unfold bOffer
              split
              · rw [(rise_perm bk (h ++ [(x, (t : Int))]) (by simp)).length_eq]; simp
              · split
                · rw [sink_len, List.length_set]; omega
                · omega
            omega
          clear ha2 hb2 HW BB HP HN
          rw [← TK.out] at KS
          generalize bOffer bk k h (x, (t : Int)) = h2 at W2 KS hbl
          go_wp2
          go_roundw
          case rel => exact ⟨t + 1, h2, t + 1, by omega, by go_num, W2.out, fun _ => ⟨KS.out, rfl, hbl⟩, fun h => by omega, B2.out⟩
          case measure => simp [intOf]; omega
        · have hk' : k ≤ 0 := by omega
          refine (offer_no _ _ k _ _ h t x wr HW.out.at_ hk').mono ?_
          rintro e w2 ⟨rfl, rfl⟩
          go_wp2
          go_roundw
          case rel => exact ⟨j + 1, h, t, by omega, by go_num, HW.out, fun h => by omega, HN.out, BB.out⟩
          case measure => simp [intOf]; omega
      · obtain rfl : j = l1.length := by omega
        rw [List.take_length] at HP
        have hjl' : ¬ ((l1.length : Nat) : Int) < l1.length := by omega
        have hjl3 : ¬ ((l1.length : Nat) : Int) < 200 := by have := HL1.out; omega
        have hhl : h.length ≤ 200 ∧ (h.length : Int) = min (max k 0) (l1.length : Int) ∧ keysOf (takeF bk h.length h) = keysOf ((sortK l1).take h.length) ∧ ∀ y ∈ takeF bk h.length h, y ∈ l1 := by
          by_cases hk : 0 < k
          · obtain ⟨hK, _, hh⟩ := HP.out hk
            obtain ⟨e1, e2, e3⟩ := hK.told
            exact ⟨by omega, by omega, e1, e3⟩
          · obtain rfl := HN.out (by omega)
            refine ⟨by simp, ?_, by simp [takeF], fun y hy => by simp [takeF] at hy⟩
            simp only [List.length_nil]; omega
        obtain ⟨hh2, hhn, hke, hym⟩ := hhl
        have HHN := Lib.hid hhn; have HKE := Lib.hid hke; have HYM := Lib.hid hym
        clear HP HN hhn hke hym
        go_wp2_with fail
        refine (takeB_is _ _ k _ _ bk (fun _ => True) (SB w.heap.size) (bk_tell w.heap.size) (low_SB w.heap.size) h t wr HW.out.at_ (Nat.le_refl _) (fun _ _ => trivial) HW.out.sb (by omega)).mono ?_
        rintro e w2 ⟨v2, rfl, ho2, ha2, hb2, _⟩
        have W2 := Lib.hid (HW.out.turn ha2 hb2)
        have B2 := Lib.hid (BB.out.trans (hb2.mono (by omega)))
        have hzz := Nat.le_trans BB.out.size hb2.size
        have hgl := takeF_len bk h.length h
        generalize takeF bk h.length h = got at HKE HYM ho2 hgl
        obtain ⟨q2, c2, rfl⟩ := ownV_slice ho2
        have O2 := Lib.hid ho2
        have HGL := Lib.hid hgl
        have hgl2 : got.length ≤ 200 := by omega
        clear hgl
        clear ha2 hb2 HW BB ho2
        go_wp2_with fail
        refine (refSort_is p c l1 w2 (CL.out.below B2.out) (by omega)).mono ?_
        rintro e w3 ⟨v3, rfl, ho3, hb3⟩
        obtain ⟨_, q3, c3, rfl, hc3, hq3, _⟩ := own_liesI ho3
        have Q3 := Lib.hid hq3; have O3 := Lib.hid (ownI_later O2.out hb3); have W3 := Lib.hid (W2.out.below hb3); have B3 := Lib.hid (thenBelow B2.out hb3)
        have HSL := Lib.hid (sortK_len l1)
        have hz3 := Nat.le_trans hzz hb3.size
        have hs2 : (sortK l1).length ≤ 200 := by rw [sortK_len]; omega
        have hhs : h.length ≤ (sortK l1).length := by have := HHN.out; rw [HSL.out]; omega
        clear ho3 hb3 hq3 O2 W2 B2
        have NN := Lib.hid (show ∀ X : Int, X = (h.length : Int) → ∀ V : World, (Instr.sliceAt 24 (.slice q3 (sortK l1).length c3) none (some (.int .i64 X)) none).run Try.prog V = .ok (.slice q3 h.length c3) V from fun X e V => by rw [e]; exact cutI q3 _ c3 h.length V (by omega))
        by_cases hk : k < 0
        · have hX := Lib.hid (show (0 : Int) = (h.length : Int) by have := HHN.out; omega)
          have hx2 : (0 : Int) ≤ ((sortK l1).length : Int) := by omega
          clear HHN
          go_wp2_with fail
          rename_i K10 hK10
          refine rg_calm (by kernel_rfl) rfl (S := fun _ => True) ?_
          refine rgd_pure 0 (some 39) rfl rfl (.slice q2 got.length c2) (by kernel_rfl) (by kernel_rfl) (by kernel_rfl) (fun _ _ _ _ h => h) (by kernel_rfl) (exec_is _ (.inl rfl) _ (by kernel_rfl)) trivial ?_
          refine rgd_pure 2 (some 41) rfl rfl (.slice q3 (sortK l1).length c3) (by kernel_rfl) (by kernel_rfl) (by kernel_rfl) (fun _ _ _ _ h => h) (by kernel_rfl) (exec_is _ (.inl rfl) _ (by kernel_rfl)) trivial ?_
          refine rgd_pure 3 (some 42) rfl rfl (.int .i64 0) (by kernel_rfl) (by kernel_rfl) (by kernel_rfl) (fun _ _ _ _ h => h) (by kernel_rfl) (exec_is _ (.inl rfl) _ (by kernel_rfl)) trivial ?_
          refine rgd_pure 4 (some 43) rfl rfl (.slice q3 h.length c3) (by kernel_rfl) (by kernel_rfl) (by kernel_rfl) (fun _ _ _ _ h => h) (by kernel_rfl) (exec_cutToI _ _ rfl (.slice q3 (sortK l1).length c3) 0 _ (by kernel_rfl) (by kernel_rfl) (NN.out _ hX.out)) trivial ?_
          refine rgd_call 1 (some 40) (by kernel_rfl) rfl rfl (by kernel_rfl) 33 #[.slice q2 got.length c2] (by kernel_rfl) (refKeys_is q2 c2 got w3.drew (own_lies2 O3.out) (by omega)) ?_
          rintro e w4 ⟨v4, rfl, ho4, hb4⟩
          refine ⟨_, rfl, trivial, ?_⟩
          obtain ⟨_, q4, c4, rfl, _, hq4, _⟩ := own_liesI ho4
          have W4 := Lib.hid (BsW.below (w := w3.drew) (show BsW w3.drew w.heap.size k [] 0 from ⟨W3.out.box, W3.out.box2, W3.out.at_⟩) hb4); have B4 := Lib.hid (thenBelow (show Below w.heap.size w w3.drew from below_drewN B3.out 1) hb4)
          have QT := Lib.hid (LiesI.below (w := w3.drew) (liesI_take2 Q3.out h.length) hb4); have OG := Lib.hid (ownI_later (w := w3.drew) (show w3.drew.ownsRow _ 3 1 _ _ _ from O3.out) hb4); have Q4 := Lib.hid hq4
          have hT : ((sortK l1).take h.length).length = h.length := by rw [List.length_take]; omega
          have hT2 : ((sortK l1).take h.length).length ≤ 10000 := by omega
          have hz4 := Nat.le_trans hz3 (show w3.heap.size ≤ w4.heap.size from hb4.size)
          clear ho4 hb4 hq4 W3 B3 Q3 O3
          refine rgd_call 5 (some 44) (by kernel_rfl) rfl rfl (by kernel_rfl) 33 #[.slice q3 h.length c3] (by kernel_rfl) (by have := refKeys_is q3 c3 ((sortK l1).take h.length) w4 QT.out hT2; rw [hT] at this; exact this) ?_
          rintro e w5 ⟨v5, rfl, ho5, hb5⟩
          refine ⟨_, rfl, trivial, ?_⟩
          rw [← HKE.out] at ho5
          obtain ⟨_, q5, c5, rfl, _, hq5, _⟩ := own_liesI ho5
          have W5 := Lib.hid (W4.out.below hb5); have B5 := Lib.hid (thenBelow B4.out hb5); have Q45 := Lib.hid (Q4.out.below hb5); have OG5 := Lib.hid (ownI_later OG.out hb5); have Q5 := Lib.hid hq5
          have hkl : (keysOf got).length ≤ 1000000 := by simp only [keysOf, List.length_map]; omega
          have hz5 := Nat.le_trans hz4 hb5.size
          clear ho5 hb5 hq5 W4 B4 Q4 OG QT hT hT2
          refine rgd_call 6 (some 45) (by kernel_rfl) rfl rfl (by kernel_rfl) 35 #[.slice q4 (keysOf got).length c4, .slice q5 (keysOf got).length c5] (by kernel_rfl) (equalI_any q4 q5 c4 c5 (keysOf got) w5 Q45.out Q5.out hkl) ?_
          rintro e w6 ⟨rfl, hb6⟩
          refine ⟨_, rfl, trivial, ?_⟩
          have W6 := Lib.hid (W5.out.below hb6); have B6 := Lib.hid (thenBelow B5.out hb6); have OG6 := Lib.hid (ownI_later OG5.out hb6)
          have hz6 := Nat.le_trans hz5 hb6.size
          clear hb6 W5 B5 Q45 OG5 Q5
          refine rgd_pure 7 (some 46) rfl rfl (.bool false) (by kernel_rfl) (by kernel_rfl) (by kernel_rfl) (fun _ _ _ _ h => h) (by kernel_rfl) (fun w => by kernel_rfl) trivial ?_
          refine rgd_pure 8 (some 47) rfl rfl (.bool false) (by kernel_rfl) (by kernel_rfl) (by kernel_rfl) (fun _ _ _ _ h => h) (by kernel_rfl) (exec_is _ (.inl rfl) _ (by kernel_rfl)) trivial ?_
          refine rgd_pure 9 (some 48) rfl rfl (.pointer (some ⟨w.heap.size + 2, 0, none⟩)) (by kernel_rfl) (by kernel_rfl) (by kernel_rfl) (fun _ _ _ _ h => h) (by kernel_rfl) (exec_is _ (.inl rfl) _ (by kernel_rfl)) trivial ?_
          refine rgd_call 10 (some 49) (by kernel_rfl) rfl rfl (by kernel_rfl) 39 #[.pointer (some ⟨w.heap.size + 2, 0, none⟩)] (by kernel_rfl) (takeB_is _ _ k _ _ bk (fun _ => True) (SB w.heap.size) (bk_tell w.heap.size) (low_SB w.heap.size) [] 0 w6 W6.out.at_ (Nat.le_refl _) (fun _ _ => trivial) W6.out.sb (by simp)) ?_
          rintro e w7 ⟨v7, rfl, ho7, _, hb7, ha7⟩
          refine ⟨_, rfl, trivial, ?_⟩
          obtain ⟨_, q7, c7, rfl, _, _, _⟩ := own_liesI ho7
          have B7 := Lib.hid (B6.out.trans (hb7.mono (by omega)))
          have OG7 := Lib.hid (own_lies2 (own_apartB OG6.out ha7 W6.out.at_))
          clear ho7 hb7 ha7 W6 B6 OG6
          refine rgd_pure 11 (some 50) rfl rfl (.int .i64 0) (by kernel_rfl) (by kernel_rfl) (by kernel_rfl) (fun _ _ _ _ h => h) (by kernel_rfl) (fun w => by kernel_rfl) trivial ?_
          refine rgd_pure 12 (some 51) rfl rfl (.bool false) (by kernel_rfl) (by kernel_rfl) (by kernel_rfl) (fun _ _ _ _ h => h) (by kernel_rfl) (fun w => by kernel_rfl) trivial ?_
          refine rgd_pure 13 (some 52) rfl rfl (.bool false) (by kernel_rfl) (by kernel_rfl) (by kernel_rfl) (fun _ _ _ _ h => h) (by kernel_rfl) (fun w => by kernel_rfl) trivial ?_
          refine wpAnyH_done (by kernel_rfl) (hK10 _ _ ?_) _
          simp only [Act.put, List.setIfInBounds_toArray, List.set_cons_zero, List.set_cons_succ]
          clear hK10 NN hX
          go_wp2_with fail
          go_loopw [55] (fun i wq => ∃ j : Nat, j ≤ got.length ∧ i = .int .i64 j ∧ wq = w7) (fun i _ => got.length - (intOf i).toNat)
          case atStart => exact ⟨0, Nat.zero_le _, rfl, rfl⟩
          case round =>
            obtain ⟨j, hj, rfl, rfl⟩ := hrel
            by_cases hjg : j < got.length
            · obtain ⟨b9, o9, rfl, _, q9⟩ := OG7.out.at (by omega)
              have r9 := q9 j hjg
              have hjg' : (j : Int) < got.length := by omega
              have hmm := HYM.out (got.getD j 0) (by rw [List.getD_eq_getElem?_getD, List.getElem?_eq_getElem hjg]; exact List.getElem_mem _)
              have HMM := Lib.hid hmm
              clear q9 hmm
              generalize got.getD j 0 = y at r9 HMM
              go_wp2_with fail
              refine (contains_in p c l1 y wr (CL.out.below B7.out) HMM.out (by omega)).mono ?_
              rintro e w8 ⟨rfl, rfl⟩
              go_wp2
              go_roundw
              case rel => exact ⟨j + 1, by omega, by go_num, trivial⟩
              case measure => simp [intOf]; omega
            · obtain rfl : j = got.length := by omega
              have hjg' : ¬ ((got.length : Nat) : Int) < got.length := by omega
              go_wp2_with fail
              refine (awake6 wr).mono ?_
              rintro e w8 ⟨rfl, hb8⟩
              have B8 := Lib.hid (thenBelow B7.out hb8)
              clear hb8 B7
              go_wp2_with fail
              go_ret
              exact ⟨ret_bool rfl, B8.out⟩
        · by_cases hk2 : k ≤ ((sortK l1).length : Int)
          · have hX := Lib.hid (show k = (h.length : Int) by have := HHN.out; have := HSL.out; omega)
            have hk' : ¬ k < 0 := hk
            clear HHN hk
            go_wp2_with fail
            rename_i K10 hK10
            refine rg_calm (by kernel_rfl) rfl (S := fun _ => True) ?_
            refine rgd_pure 0 (some 39) rfl rfl (.slice q2 got.length c2) (by kernel_rfl) (by kernel_rfl) (by kernel_rfl) (fun _ _ _ _ h => h) (by kernel_rfl) (exec_is _ (.inl rfl) _ (by kernel_rfl)) trivial ?_
            refine rgd_pure 2 (some 41) rfl rfl (.slice q3 (sortK l1).length c3) (by kernel_rfl) (by kernel_rfl) (by kernel_rfl) (fun _ _ _ _ h => h) (by kernel_rfl) (exec_is _ (.inl rfl) _ (by kernel_rfl)) trivial ?_
            refine rgd_pure 3 (some 42) rfl rfl (.int .i64 k) (by kernel_rfl) (by kernel_rfl) (by kernel_rfl) (fun _ _ _ _ h => h) (by kernel_rfl) (exec_is _ (.inl rfl) _ (by kernel_rfl)) trivial ?_
            refine rgd_pure 4 (some 43) rfl rfl (.slice q3 h.length c3) (by kernel_rfl) (by kernel_rfl) (by kernel_rfl) (fun _ _ _ _ h => h) (by kernel_rfl) (exec_cutToI _ _ rfl (.slice q3 (sortK l1).length c3) k _ (by kernel_rfl) (by kernel_rfl) (NN.out _ hX.out)) trivial ?_
            refine rgd_call 1 (some 40) (by kernel_rfl) rfl rfl (by kernel_rfl) 33 #[.slice q2 got.length c2] (by kernel_rfl) (refKeys_is q2 c2 got w3.drew (own_lies2 O3.out) (by omega)) ?_
            rintro e w4 ⟨v4, rfl, ho4, hb4⟩
            refine ⟨_, rfl, trivial, ?_⟩
            obtain ⟨_, q4, c4, rfl, _, hq4, _⟩ := own_liesI ho4
            have W4 := Lib.hid (BsW.below (w := w3.drew) (show BsW w3.drew w.heap.size k [] 0 from ⟨W3.out.box, W3.out.box2, W3.out.at_⟩) hb4); have B4 := Lib.hid (thenBelow (show Below w.heap.size w w3.drew from below_drewN B3.out 1) hb4)
            have QT := Lib.hid (LiesI.below (w := w3.drew) (liesI_take2 Q3.out h.length) hb4); have OG := Lib.hid (ownI_later (w := w3.drew) (show w3.drew.ownsRow _ 3 1 _ _ _ from O3.out) hb4); have Q4 := Lib.hid hq4
            have hT : ((sortK l1).take h.length).length = h.length := by rw [List.length_take]; omega
            have hT2 : ((sortK l1).take h.length).length ≤ 10000 := by omega
            have hz4 := Nat.le_trans hz3 (show w3.heap.size ≤ w4.heap.size from hb4.size)
            clear ho4 hb4 hq4 W3 B3 Q3 O3
            refine rgd_call 5 (some 44) (by kernel_rfl) rfl rfl (by kernel_rfl) 33 #[.slice q3 h.length c3] (by kernel_rfl) (by have := refKeys_is q3 c3 ((sortK l1).take h.length) w4 QT.out hT2; rw [hT] at this; exact this) ?_
            rintro e w5 ⟨v5, rfl, ho5, hb5⟩
            refine ⟨_, rfl, trivial, ?_⟩
            rw [← HKE.out] at ho5
            obtain ⟨_, q5, c5, rfl, _, hq5, _⟩ := own_liesI ho5
            have W5 := Lib.hid (W4.out.below hb5); have B5 := Lib.hid (thenBelow B4.out hb5); have Q45 := Lib.hid (Q4.out.below hb5); have OG5 := Lib.hid (ownI_later OG.out hb5); have Q5 := Lib.hid hq5
            have hkl : (keysOf got).length ≤ 1000000 := by simp only [keysOf, List.length_map]; omega
            have hz5 := Nat.le_trans hz4 hb5.size
            clear ho5 hb5 hq5 W4 B4 Q4 OG QT hT hT2
            refine rgd_call 6 (some 45) (by kernel_rfl) rfl rfl (by kernel_rfl) 35 #[.slice q4 (keysOf got).length c4, .slice q5 (keysOf got).length c5] (by kernel_rfl) (equalI_any q4 q5 c4 c5 (keysOf got) w5 Q45.out Q5.out hkl) ?_
            rintro e w6 ⟨rfl, hb6⟩
            refine ⟨_, rfl, trivial, ?_⟩
            have W6 := Lib.hid (W5.out.below hb6); have B6 := Lib.hid (thenBelow B5.out hb6); have OG6 := Lib.hid (ownI_later OG5.out hb6)
            have hz6 := Nat.le_trans hz5 hb6.size
            clear hb6 W5 B5 Q45 OG5 Q5
            refine rgd_pure 7 (some 46) rfl rfl (.bool false) (by kernel_rfl) (by kernel_rfl) (by kernel_rfl) (fun _ _ _ _ h => h) (by kernel_rfl) (fun w => by kernel_rfl) trivial ?_
            refine rgd_pure 8 (some 47) rfl rfl (.bool false) (by kernel_rfl) (by kernel_rfl) (by kernel_rfl) (fun _ _ _ _ h => h) (by kernel_rfl) (exec_is _ (.inl rfl) _ (by kernel_rfl)) trivial ?_
            refine rgd_pure 9 (some 48) rfl rfl (.pointer (some ⟨w.heap.size + 2, 0, none⟩)) (by kernel_rfl) (by kernel_rfl) (by kernel_rfl) (fun _ _ _ _ h => h) (by kernel_rfl) (exec_is _ (.inl rfl) _ (by kernel_rfl)) trivial ?_
            refine rgd_call 10 (some 49) (by kernel_rfl) rfl rfl (by kernel_rfl) 39 #[.pointer (some ⟨w.heap.size + 2, 0, none⟩)] (by kernel_rfl) (takeB_is _ _ k _ _ bk (fun _ => True) (SB w.heap.size) (bk_tell w.heap.size) (low_SB w.heap.size) [] 0 w6 W6.out.at_ (Nat.le_refl _) (fun _ _ => trivial) W6.out.sb (by simp)) ?_
            rintro e w7 ⟨v7, rfl, ho7, _, hb7, ha7⟩
            refine ⟨_, rfl, trivial, ?_⟩
            obtain ⟨_, q7, c7, rfl, _, _, _⟩ := own_liesI ho7
            have B7 := Lib.hid (B6.out.trans (hb7.mono (by omega)))
            have OG7 := Lib.hid (own_lies2 (own_apartB OG6.out ha7 W6.out.at_))
            clear ho7 hb7 ha7 W6 B6 OG6
            refine rgd_pure 11 (some 50) rfl rfl (.int .i64 0) (by kernel_rfl) (by kernel_rfl) (by kernel_rfl) (fun _ _ _ _ h => h) (by kernel_rfl) (fun w => by kernel_rfl) trivial ?_
            refine rgd_pure 12 (some 51) rfl rfl (.bool false) (by kernel_rfl) (by kernel_rfl) (by kernel_rfl) (fun _ _ _ _ h => h) (by kernel_rfl) (fun w => by kernel_rfl) trivial ?_
            refine rgd_pure 13 (some 52) rfl rfl (.bool false) (by kernel_rfl) (by kernel_rfl) (by kernel_rfl) (fun _ _ _ _ h => h) (by kernel_rfl) (fun w => by kernel_rfl) trivial ?_
            refine wpAnyH_done (by kernel_rfl) (hK10 _ _ ?_) _
            simp only [Act.put, List.setIfInBounds_toArray, List.set_cons_zero, List.set_cons_succ]
            clear hK10 NN hX
            go_wp2_with fail
            go_loopw [55] (fun i wq => ∃ j : Nat, j ≤ got.length ∧ i = .int .i64 j ∧ wq = w7) (fun i _ => got.length - (intOf i).toNat)
            case atStart => exact ⟨0, Nat.zero_le _, rfl, rfl⟩
            case round =>
              obtain ⟨j, hj, rfl, rfl⟩ := hrel
              by_cases hjg : j < got.length
              · obtain ⟨b9, o9, rfl, _, q9⟩ := OG7.out.at (by omega)
                have r9 := q9 j hjg
                have hjg' : (j : Int) < got.length := by omega
                have hmm := HYM.out (got.getD j 0) (by rw [List.getD_eq_getElem?_getD, List.getElem?_eq_getElem hjg]; exact List.getElem_mem _)
                have HMM := Lib.hid hmm
                clear q9 hmm
                generalize got.getD j 0 = y at r9 HMM
                go_wp2_with fail
                refine (contains_in p c l1 y wr (CL.out.below B7.out) HMM.out (by omega)).mono ?_
                rintro e w8 ⟨rfl, rfl⟩
                go_wp2
                go_roundw
                case rel => exact ⟨j + 1, by omega, by go_num, trivial⟩
                case measure => simp [intOf]; omega
              · obtain rfl : j = got.length := by omega
                have hjg' : ¬ ((got.length : Nat) : Int) < got.length := by omega
                go_wp2_with fail
                refine (awake6 wr).mono ?_
                rintro e w8 ⟨rfl, hb8⟩
                have B8 := Lib.hid (thenBelow B7.out hb8)
                clear hb8 B7
                go_wp2_with fail
                go_ret
                exact ⟨ret_bool rfl, B8.out⟩
          · have hX := Lib.hid (show ((sortK l1).length : Int) = (h.length : Int) by have := HHN.out; have := HSL.out; omega)
            have hk' : ¬ k < 0 := hk
            clear HHN hk
            go_wp2_with fail
            rename_i K10 hK10
            refine rg_calm (by kernel_rfl) rfl (S := fun _ => True) ?_
            refine rgd_pure 0 (some 39) rfl rfl (.slice q2 got.length c2) (by kernel_rfl) (by kernel_rfl) (by kernel_rfl) (fun _ _ _ _ h => h) (by kernel_rfl) (exec_is _ (.inl rfl) _ (by kernel_rfl)) trivial ?_
            refine rgd_pure 2 (some 41) rfl rfl (.slice q3 (sortK l1).length c3) (by kernel_rfl) (by kernel_rfl) (by kernel_rfl) (fun _ _ _ _ h => h) (by kernel_rfl) (exec_is _ (.inl rfl) _ (by kernel_rfl)) trivial ?_
            refine rgd_pure 3 (some 42) rfl rfl (.int .i64 ((sortK l1).length : Int)) (by kernel_rfl) (by kernel_rfl) (by kernel_rfl) (fun _ _ _ _ h => h) (by kernel_rfl) (exec_is _ (.inl rfl) _ (by kernel_rfl)) trivial ?_
            refine rgd_pure 4 (some 43) rfl rfl (.slice q3 h.length c3) (by kernel_rfl) (by kernel_rfl) (by kernel_rfl) (fun _ _ _ _ h => h) (by kernel_rfl) (exec_cutToI _ _ rfl (.slice q3 (sortK l1).length c3) ((sortK l1).length : Int) _ (by kernel_rfl) (by kernel_rfl) (NN.out _ hX.out)) trivial ?_
            refine rgd_call 1 (some 40) (by kernel_rfl) rfl rfl (by kernel_rfl) 33 #[.slice q2 got.length c2] (by kernel_rfl) (refKeys_is q2 c2 got w3.drew (own_lies2 O3.out) (by omega)) ?_
            rintro e w4 ⟨v4, rfl, ho4, hb4⟩
            refine ⟨_, rfl, trivial, ?_⟩
            obtain ⟨_, q4, c4, rfl, _, hq4, _⟩ := own_liesI ho4
            have W4 := Lib.hid (BsW.below (w := w3.drew) (show BsW w3.drew w.heap.size k [] 0 from ⟨W3.out.box, W3.out.box2, W3.out.at_⟩) hb4); have B4 := Lib.hid (thenBelow (show Below w.heap.size w w3.drew from below_drewN B3.out 1) hb4)
            have QT := Lib.hid (LiesI.below (w := w3.drew) (liesI_take2 Q3.out h.length) hb4); have OG := Lib.hid (ownI_later (w := w3.drew) (show w3.drew.ownsRow _ 3 1 _ _ _ from O3.out) hb4); have Q4 := Lib.hid hq4
            have hT : ((sortK l1).take h.length).length = h.length := by rw [List.length_take]; omega
            have hT2 : ((sortK l1).take h.length).length ≤ 10000 := by omega
            have hz4 := Nat.le_trans hz3 (show w3.heap.size ≤ w4.heap.size from hb4.size)
            clear ho4 hb4 hq4 W3 B3 Q3 O3
            refine rgd_call 5 (some 44) (by kernel_rfl) rfl rfl (by kernel_rfl) 33 #[.slice q3 h.length c3] (by kernel_rfl) (by have := refKeys_is q3 c3 ((sortK l1).take h.length) w4 QT.out hT2; rw [hT] at this; exact this) ?_
            rintro e w5 ⟨v5, rfl, ho5, hb5⟩
            refine ⟨_, rfl, trivial, ?_⟩
            rw [← HKE.out] at ho5
            obtain ⟨_, q5, c5, rfl, _, hq5, _⟩ := own_liesI ho5
            have W5 := Lib.hid (W4.out.below hb5); have B5 := Lib.hid (thenBelow B4.out hb5); have Q45 := Lib.hid (Q4.out.below hb5); have OG5 := Lib.hid (ownI_later OG.out hb5); have Q5 := Lib.hid hq5
            have hkl : (keysOf got).length ≤ 1000000 := by simp only [keysOf, List.length_map]; omega
            have hz5 := Nat.le_trans hz4 hb5.size
            clear ho5 hb5 hq5 W4 B4 Q4 OG QT hT hT2
            refine rgd_call 6 (some 45) (by kernel_rfl) rfl rfl (by kernel_rfl) 35 #[.slice q4 (keysOf got).length c4, .slice q5 (keysOf got).length c5] (by kernel_rfl) (equalI_any q4 q5 c4 c5 (keysOf got) w5 Q45.out Q5.out hkl) ?_
            rintro e w6 ⟨rfl, hb6⟩
            refine ⟨_, rfl, trivial, ?_⟩
            have W6 := Lib.hid (W5.out.below hb6); have B6 := Lib.hid (thenBelow B5.out hb6); have OG6 := Lib.hid (ownI_later OG5.out hb6)
            have hz6 := Nat.le_trans hz5 hb6.size
            clear hb6 W5 B5 Q45 OG5 Q5
            refine rgd_pure 7 (some 46) rfl rfl (.bool false) (by kernel_rfl) (by kernel_rfl) (by kernel_rfl) (fun _ _ _ _ h => h) (by kernel_rfl) (fun w => by kernel_rfl) trivial ?_
            refine rgd_pure 8 (some 47) rfl rfl (.bool false) (by kernel_rfl) (by kernel_rfl) (by kernel_rfl) (fun _ _ _ _ h => h) (by kernel_rfl) (exec_is _ (.inl rfl) _ (by kernel_rfl)) trivial ?_
            refine rgd_pure 9 (some 48) rfl rfl (.pointer (some ⟨w.heap.size + 2, 0, none⟩)) (by kernel_rfl) (by kernel_rfl) (by kernel_rfl) (fun _ _ _ _ h => h) (by kernel_rfl) (exec_is _ (.inl rfl) _ (by kernel_rfl)) trivial ?_
            refine rgd_call 10 (some 49) (by kernel_rfl) rfl rfl (by kernel_rfl) 39 #[.pointer (some ⟨w.heap.size + 2, 0, none⟩)] (by kernel_rfl) (takeB_is _ _ k _ _ bk (fun _ => True) (SB w.heap.size) (bk_tell w.heap.size) (low_SB w.heap.size) [] 0 w6 W6.out.at_ (Nat.le_refl _) (fun _ _ => trivial) W6.out.sb (by simp)) ?_
            rintro e w7 ⟨v7, rfl, ho7, _, hb7, ha7⟩
            refine ⟨_, rfl, trivial, ?_⟩
            obtain ⟨_, q7, c7, rfl, _, _, _⟩ := own_liesI ho7
            have B7 := Lib.hid (B6.out.trans (hb7.mono (by omega)))
            have OG7 := Lib.hid (own_lies2 (own_apartB OG6.out ha7 W6.out.at_))
            clear ho7 hb7 ha7 W6 B6 OG6
            refine rgd_pure 11 (some 50) rfl rfl (.int .i64 0) (by kernel_rfl) (by kernel_rfl) (by kernel_rfl) (fun _ _ _ _ h => h) (by kernel_rfl) (fun w => by kernel_rfl) trivial ?_
            refine rgd_pure 12 (some 51) rfl rfl (.bool false) (by kernel_rfl) (by kernel_rfl) (by kernel_rfl) (fun _ _ _ _ h => h) (by kernel_rfl) (fun w => by kernel_rfl) trivial ?_
            refine rgd_pure 13 (some 52) rfl rfl (.bool false) (by kernel_rfl) (by kernel_rfl) (by kernel_rfl) (fun _ _ _ _ h => h) (by kernel_rfl) (fun w => by kernel_rfl) trivial ?_
            refine wpAnyH_done (by kernel_rfl) (hK10 _ _ ?_) _
            simp only [Act.put, List.setIfInBounds_toArray, List.set_cons_zero, List.set_cons_succ]
            clear hK10 NN hX
            go_wp2_with fail
            go_loopw [55] (fun i wq => ∃ j : Nat, j ≤ got.length ∧ i = .int .i64 j ∧ wq = w7) (fun i _ => got.length - (intOf i).toNat)
            case atStart => exact ⟨0, Nat.zero_le _, rfl, rfl⟩
            case round =>
              obtain ⟨j, hj, rfl, rfl⟩ := hrel
              by_cases hjg : j < got.length
              · obtain ⟨b9, o9, rfl, _, q9⟩ := OG7.out.at (by omega)
                have r9 := q9 j hjg
                have hjg' : (j : Int) < got.length := by omega
                have hmm := HYM.out (got.getD j 0) (by rw [List.getD_eq_getElem?_getD, List.getElem?_eq_getElem hjg]; exact List.getElem_mem _)
                have HMM := Lib.hid hmm
                clear q9 hmm
                generalize got.getD j 0 = y at r9 HMM
                go_wp2_with fail
                refine (contains_in p c l1 y wr (CL.out.below B7.out) HMM.out (by omega)).mono ?_
                rintro e w8 ⟨rfl, rfl⟩
                go_wp2
                go_roundw
                case rel => exact ⟨j + 1, by omega, by go_num, trivial⟩
                case measure => simp [intOf]; omega
              · obtain rfl : j = got.length := by omega
                have hjg' : ¬ ((got.length : Nat) : Int) < got.length := by omega
                go_wp2_with fail
                refine (awake6 wr).mono ?_
                rintro e w8 ⟨rfl, hb8⟩
                have B8 := Lib.hid (thenBelow B7.out hb8)
                clear hb8 B7
                go_wp2_with fail
                go_ret
                exact ⟨ret_bool rfl, B8.out⟩
end Go.Proofs.Ytlajceamjodcjaa
