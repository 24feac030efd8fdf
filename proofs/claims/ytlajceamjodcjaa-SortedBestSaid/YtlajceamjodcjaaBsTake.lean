/- sorted's best ones: Take. -/
import Derived.Test.YtlajceamjodcjaaBsOffer
import Derived.Test.YtlajceamjodcjaaSrtAt
namespace Go.Proofs.Ytlajceamjodcjaa
open Go Go.RowKit Hp
set_option linter.unusedVariables false

/-- what Take tells of a heap of so many -/
def takeF (bt : E → E → Bool) : Nat → List E → List Int
  | 0, _ => []
  | n + 1, l => takeF bt n (Hp.left bt l) ++ [(l.getD 0 d).1]
theorem takeF_len (bt : E → E → Bool) : ∀ n l, (takeF bt n l).length = n
  | 0, _ => rfl
  | n + 1, l => by rw [takeF, List.length_append, takeF_len bt n]; rfl
set_option maxHeartbeats 1000000 in
set_option maxRecDepth 100000 in
theorem takeB_is (B H : Nat) (k : Int) (F : FuncId) (caps : Array Value) (bt : E → E → Bool) (dom : E → Prop) (S : World → Prop) (T : Tell F caps bt dom S) (hL : Low B S) (l : List E) (turn : Nat) (w : World) (hh : BestAt B H k F caps l turn w) (hB : B ≤ H) (hd : ∀ e ∈ l, dom e) (hs : S w) (hlen : l.length < 1000000) :
    Calls Try.prog 39 #[.pointer (some ⟨H, 0, none⟩)] w fun e w' => ∃ v, e = .returned v ∧ w'.ownsRow w.heap.size 3 1 v (takeF bt l.length l).length (ints (takeF bt l.length l)) ∧ BestAt B H k F caps [] 0 w' ∧ Below B w w' ∧ Apart H w w' := by
  obtain ⟨v, hv, hown⟩ := hh
  obtain ⟨q, c, rfl⟩ := ownE_slice hown
  have hneH : some H ≠ (Value.slice q l.length c).ownBlock := own_ne hown hv (by decide)
  have HV := Lib.hid hv; have OW := Lib.hid hown; have TT := Lib.hid T; have LL := Lib.hid hL; have SW := Lib.hid hs; have DM := Lib.hid hd
  have c1 := (cell_of_row w H 1 _ _ _ hv).trans (show _ = some (Value.func (.func F) #[] caps) from rfl)
  have c2 := (cell_of_row w H 2 _ _ _ hv).trans (show _ = some (Value.slice q l.length c) from rfl)
  have c3 := (cell_of_row w H 3 _ _ _ hv).trans (show _ = some (Value.int .i64 (turn : Int)) from rfl)
  have f2 := frozen_of_row w H 2 _ _ hv
  have f3 := frozen_of_row w H 3 _ _ hv
  have hHw := (Array.getElem?_eq_some_iff.1 hv).1
  obtain ⟨M, hM⟩ : ∃ M, M = madeCells #[.int .i64 0] l.length := ⟨_, rfl⟩
  have hmk : ∀ W : World, (Instr.makeSlice 24 (.int .i64 (l.length : Int)) (.int .i64 (l.length : Int))).run Try.prog W = .ok (.slice (some ⟨W.heap.size, 0, none⟩) l.length l.length) (W.alloc (.cells M 3)) := fun W => by
    have hi : ∃ i, Try.prog.info? 3 = some i ∧ i.zero = some (.int .i64 0) ∧ i.bytes = 8 ∧ i.size = 1 := ⟨_, rfl, rfl, rfl, rfl⟩
    obtain ⟨i, h1, h2, h3, h4⟩ := hi
    have hr := run_make (P := Try.prog) W 24 3 i (.int .i64 0) Try.underlying24 h1 h2 .i64 .i64 l.length l.length (by omega) (Int.le_refl _) (by rw [h3]; omega) (by omega)
    simp only [Int.toNat_natCast, h4, Nat.mul_one] at hr
    rw [hM]
    exact hr
  have hMn := Lib.hid hM
  obtain ⟨R, hR⟩ : ∃ R, R = takeF bt l.length l := ⟨_, rfl⟩
  have hRl : R.length = l.length := by rw [hR, takeF_len]
  rw [← hR]
  have HR := Lib.hid hR; have HRL := Lib.hid hRl
  clear hv hown T hL hs hd hM hR hRl
  go_enter Try.func39, Try.ntmps39
  go_wp2
  have V2 := set_cellsH HV.out 2 (.slice none 0 0)
  have V3 := set_cellsH V2 3 (.int .i64 0)
  simp only [List.setIfInBounds_toArray, List.set_cons_succ, List.set_cons_zero] at V3
  have z3 : ((w.setCell ⟨H, 2, none⟩ (.slice none 0 0)).setCell ⟨H, 3, none⟩ (.int .i64 0)).heap.size = w.heap.size := by simp
  have O2 := World.ownsRow.kept OW.out (set_grown w H 2 (.slice none 0 0)) (.inr (fun e => hneH e.symm))
  have O3 := World.ownsRow.kept O2 (set_grown _ H 3 (.int .i64 0)) (.inr (fun e => hneH e.symm))
  have B3 := ((Below.refl B w).setCell (p := ⟨H, 2, none⟩) hB (.slice none 0 0)).setCell (p := ⟨H, 3, none⟩) hB (.int .i64 0)
  have A3 := (Apart.set w H 2 (.slice none 0 0)).trans (Apart.set (w.setCell ⟨H, 2, none⟩ (.slice none 0 0)) H 3 (.int .i64 0))
  generalize (w.setCell ⟨H, 2, none⟩ (.slice none 0 0)).setCell ⟨H, 3, none⟩ (.int .i64 0) = w3 at V3 z3 O3 B3 A3 ⊢
  have V4 := (Below.heap_alloc w3 (.cells M 3) H (by omega)).trans V3
  have N4 := heap_alloc_new w3 (.cells M 3)
  have O4 := O3.alloc (.cells M 3)
  have B4 := B3.alloc (by omega) (.cells M 3)
  have A4 : Apart H w (w3.alloc (.cells M 3)) := A3.trans (fun k cs t m hk _ _ => (Below.heap_alloc w3 _ k (Array.getElem?_eq_some_iff.1 hk).1).trans hk)
  rw [z3] at N4
  have zz : (w3.alloc (.cells M 3)).heap.size = w.heap.size + 1 := by rw [World.size_alloc, z3]
  generalize w3.alloc (.cells M 3) = w4 at V4 N4 O4 B4 A4 zz ⊢
  obtain ⟨n0, hn0⟩ : ∃ n0, n0 = w.heap.size := ⟨_, rfl⟩
  rw [← hn0] at N4 ⊢
  obtain ⟨n, hn⟩ : ∃ n, n = l.length := ⟨_, rfl⟩
  have hMs : M.size = l.length := by rw [hMn.out]; simp [madeCells]
  have HV4 := Lib.hid V4; have HN4 := Lib.hid N4; have HO4 := Lib.hid O4; have HB4 := Lib.hid B4; have HA4 := Lib.hid A4; have HMS := Lib.hid hMs; have HN0 := Lib.hid hn0
  clear V2 V3 z3 O2 O3 B3 A3 V4 N4 O4 B4 A4 c1 c2 c3 f2 f3 hmk hMs hn0 hn
  go_loopw [3, 5] (fun sv i wr => ∃ (m : Nat) (lm : List E) (Mx : Array Value), m ≤ l.length ∧ lm.length = m ∧ i = .int .i64 ((m : Int) - 1) ∧ sv = .slice q m c ∧ wr.ownsRow B 89 2 (.slice q lm.length c) lm.length (pc (ecs lm)) ∧ (∀ e ∈ lm, dom e) ∧ R = takeF bt m lm ++ R.drop m ∧ wr.heap[H]? = some (Obj.cells #[.int .i64 k, .func (.func F) #[] caps, .slice none 0 0, .int .i64 0] 77 (0, 0)) ∧ wr.heap[n0]? = some (Obj.cells Mx 3 (0, 0)) ∧ Mx.size = l.length ∧ (∀ j, m ≤ j → j < l.length → Mx[j]? = some (.int .i64 (R.getD j 0))) ∧ Below B w wr ∧ Apart H w wr) (fun _ i _ => (intOf i + 1).toNat)
  case atStart => exact ⟨l.length, l, M, Nat.le_refl _, rfl, rfl, rfl, HO4.out, DM.out, by rw [HR.out]; simp [takeF_len], HV4.out, HN4.out, HMS.out, fun j h1 h2 => by omega, HB4.out, HA4.out⟩
  case round =>
    obtain ⟨m, lm, Mx, hm, rfl, rfl, rfl, hown, hdm, hR, hVH, hVN, hMx, hMj, hb, hap⟩ := hrel
    have OWN := Lib.hid hown; have HDM := Lib.hid hdm; have HRR := Lib.hid hR; have VH := Lib.hid hVH; have VN := Lib.hid hVN; have HMX := Lib.hid hMx; have HMJ := Lib.hid hMj; have BB := Lib.hid hb; have AA := Lib.hid hap
    have c1 := (cell_of_row wr H 1 _ _ _ hVH).trans (show _ = some (Value.func (.func F) #[] caps) from rfl)
    clear hown hdm hR hVH hVN hMx hMj hb hap
    cases lm with
    | nil =>
      clear c1
      have hnn : ¬ (((0 : Nat) : Int) - 1 ≥ 0) := by omega
      rw [List.length_nil] at hm ⊢
      go_wp2_with fail
      go_ret
      have hRe : Mx.toList.take (l.length * 1) = ints R := by
        apply List.ext_getElem?
        intro j
        by_cases hj : j < l.length
        · have := HMJ.out j (Nat.zero_le _) hj
          rw [List.getElem?_take, if_pos (by omega), Array.getElem?_toList, this, ints_get R j (by rw [HRL.out]; exact hj)]
        · rw [List.getElem?_eq_none (by rw [List.length_take]; omega), List.getElem?_eq_none (by rw [ints_length, HRL.out]; omega)]
      have hzn := HN0.out
      refine ⟨_, rfl, ⟨by rw [ints_length, HRL.out]; simp, .inr ⟨n0, l.length, Mx, by rw [HRL.out]; rfl, by omega, VN.out, by rw [HRL.out]; exact Nat.le_refl _, by unfold maxLen; omega, by rw [HMX.out]; simp, by rw [HRL.out]; exact hRe⟩⟩, ⟨.slice none 0 0, VH.out, World.ownsRow_nil _ _ _ _⟩, BB.out, AA.out⟩
    | cons e0 lt =>
      obtain ⟨x0, t0⟩ := e0
      obtain ⟨g, rfl, hBg⟩ := ownE_some OWN.out (by simp)
      rw [List.length_cons] at hm ⊢
      have hge : ((lt.length + 1 : Nat) : Int) - 1 ≥ 0 := by omega
      have c1a := cell_alloc (.cells #[.int .i64 0, .int .i64 0] 89) c1
      clear c1
      have h5 := heap_alloc_new wr (.cells #[.int .i64 0, .int .i64 0] 89)
      have hb5 : Below wr.heap.size wr (wr.alloc (.cells #[.int .i64 0, .int .i64 0] 89)) := (Below.refl _ wr).alloc (Nat.le_refl _) _
      have H5 := Lib.hid h5; have HB5 := Lib.hid hb5
      clear h5 hb5
      go_wp2_with fail
      have hBw := BB.out.size
      have hHr := (Array.getElem?_eq_some_iff.1 VH.out).1
      have hBr : B ≤ wr.heap.size := by omega
      have hB5 := thenBelowB BB.out HB5.out hBr
      have hgr : g < wr.heap.size := (OWN.out.lt g rfl).2
      have hgH : g ≠ H := fun e => hneH (by rw [e]; rfl)
      have hgN : some n0 ≠ some g := own_ne OWN.out VN.out (by decide)
      have R5 : ERow (wr.alloc (.cells #[.int .i64 0, .int .i64 0] 89)) B g c ((x0, t0) :: lt) := OWN.out.alloc _
      have TS : Tell F caps bt dom (fun V => S V ∧ B ≤ V.heap.size) := ⟨fun a b V h1 h2 h3 => TT.out.tell a b V h1 h2 h3.1, TT.out.enter⟩
      have FS : Free g (fun V => S V ∧ B ≤ V.heap.size) := fun V V' h hg => ⟨LL.out _ _ h.1 ⟨hg.os, hg.tape, hg.output, hg.size, fun k hk => hg.block k (by have := h.2; omega) (fun e => by injection e with e; omega)⟩, Nat.le_trans h.2 hg.size⟩
      have DR := draw_is B g c lt.length ((x0, t0) :: lt) F caps bt dom _ TS FS _ R5 HDM.out ⟨LL.out _ _ SW.out hB5, by have := hB5.size; omega⟩ rfl (by omega)
      rw [show ev (((x0, t0) :: lt).getD 0 d) = .agg #[.int .i64 x0, .int .i64 t0] from rfl] at DR
      refine DR.mono ?_
      clear DR
      rintro e w6 ⟨rfl, r6, g6⟩
      have z5 : (wr.alloc (.cells #[.int .i64 0, .int .i64 0] 89)).heap.size = wr.heap.size + 1 := by simp
      have VH6 := (g6.block H (by omega) (fun e => hgH (by injection e with e; exact e.symm))).trans ((HB5.out.block H hHr).trans VH.out)
      have hNr := (Array.getElem?_eq_some_iff.1 VN.out).1
      have VN6 := (g6.block n0 (by omega) hgN).trans ((HB5.out.block n0 hNr).trans VN.out)
      have H6 := (g6.block wr.heap.size (by omega) (fun e => by injection e with e; omega)).trans H5.out
      have b6 : Below B w w6 := hB5.grown g6 (by omega) (fun k hk => by injection hk with hk; omega)
      have AP6 : ∀ (j : Nat) (cs : Array Value) (t : TypeId) (m : Nat × Nat), w.heap[j]? = some (Obj.cells cs t m) → t ≠ 89 → j ≠ H → w6.heap[j]? = some (Obj.cells cs t m) := fun j cs t m hj ht hH => by
        have h1 := AA.out j cs t m hj ht hH
        have h2 := (HB5.out.block j (Array.getElem?_eq_some_iff.1 h1).1).trans h1
        exact (g6.block j (Array.getElem?_eq_some_iff.1 h2).1 (own_ne OWN.out h1 ht)).trans h2
      have hwn : w.heap.size ≤ wr.heap.size := BB.out.size
      generalize hn1 : wr.heap.size = n1 at H6 hgr hNr hwn ⊢
      have c50 := (cell_of_row w6 n1 0 _ _ _ H6).trans (show _ = some (Value.int .i64 0) from rfl)
      have c51 := (cell_of_row w6 n1 1 _ _ _ H6).trans (show _ = some (Value.int .i64 0) from rfl)
      have f50 := frozen_of_row w6 n1 0 _ _ H6
      have f51 := frozen_of_row w6 n1 1 _ _ H6
      have S0 := set_cellsH H6 0 (.int .i64 x0)
      have S1 := set_cellsH S0 1 (.int .i64 t0)
      have oth : ∀ j, j ≠ n1 → ((w6.setCell ⟨n1, 0, none⟩ (.int .i64 x0)).setCell ⟨n1, 1, none⟩ (.int .i64 t0)).heap[j]? = w6.heap[j]? := fun j hj => (Below.heap_setCell _ ⟨n1, 1, none⟩ _ j hj).trans (Below.heap_setCell _ ⟨n1, 0, none⟩ _ j hj)
      have VN7 := (oth n0 (by omega)).trans VN6
      have hltm : lt.length < Mx.size := by rw [HMX.out]; omega
      have cO := (cell_of_row _ n0 lt.length _ _ _ VN7).trans (Array.getElem?_eq_getElem hltm)
      have fO := frozen_of_row _ n0 lt.length _ _ VN7
      have hHN : H ≠ n0 := fun e => by
        have h1 := VH6
        rw [e, VN6] at h1
        injection h1 with h1
        injection h1 with _ h2 _
        exact absurd h2 (by decide)
      have VN8 := set_cellsH VN7 lt.length (.int .i64 x0)
      have VH8 := (Below.heap_setCell ((w6.setCell ⟨n1, 0, none⟩ (.int .i64 x0)).setCell ⟨n1, 1, none⟩ (.int .i64 t0)) ⟨n0, lt.length, none⟩ (.int .i64 x0) H hHN).trans ((oth H (by omega)).trans VH6)
      have N8h := Lib.hid VN8; have V8h := Lib.hid VH8
      have hbn : B ≤ n1 := by omega
      have hbn0 : B ≤ n0 := by rw [HN0.out]; omega
      have B8h := Lib.hid (((b6.setCell (p := ⟨n1, 0, none⟩) hbn (.int .i64 x0)).setCell (p := ⟨n1, 1, none⟩) hbn (.int .i64 t0)).setCell (p := ⟨n0, lt.length, none⟩) hbn0 (.int .i64 x0))
      have AP8 : Apart H w (((w6.setCell ⟨n1, 0, none⟩ (.int .i64 x0)).setCell ⟨n1, 1, none⟩ (.int .i64 t0)).setCell ⟨n0, lt.length, none⟩ (.int .i64 x0)) := fun j cs t m hj ht hH => by
        have hjw := (Array.getElem?_eq_some_iff.1 hj).1
        have hn0w := HN0.out
        exact (Below.heap_setCell _ ⟨n0, lt.length, none⟩ _ j (show j ≠ n0 by omega)).trans ((oth j (by omega)).trans (AP6 j cs t m hj ht hH))
      have A8h := Lib.hid AP8
      clear S0 S1 VN7 oth VN8 VH8 AP6 AP8
      have V6h := Lib.hid VH6; have N6h := Lib.hid VN6; have H6h := Lib.hid H6; have B6h := Lib.hid b6; have R6 := Lib.hid r6
      clear VH6 VN6 H6 b6 r6 g6 z5 TS FS R5 hB5
      have hgn1 : g ≠ n1 := by omega
      have hgn0 : g ≠ n0 := fun e => hgN (by rw [e])
      have O8 := World.ownsRow.kept (World.ownsRow.kept (World.ownsRow.kept (show w6.ownsRow B 89 2 _ _ _ from R6.out) (set_grown w6 n1 0 (.int .i64 x0)) (.inr (fun e => hgn1 (by injection e)))) (set_grown _ n1 1 (.int .i64 t0)) (.inr (fun e => hgn1 (by injection e)))) (set_grown _ n0 lt.length (.int .i64 x0)) (.inr (fun e => hgn0 (by injection e)))
      have hll : (Hp.left bt ((x0, t0) :: lt)).length = lt.length := by rw [left_len]; rfl
      have hdl : ∀ e ∈ Hp.left bt ((x0, t0) :: lt), dom e := fun e he => HDM.out e ((left_perm bt ((x0, t0) :: lt) (by simp)).mem_iff.1 (List.mem_cons_of_mem _ he))
      have hRR := HRR.out
      rw [List.length_cons, takeF, List.getD_cons_zero] at hRR
      have hA := takeF_len bt lt.length (Hp.left bt ((x0, t0) :: lt))
      have hR8 : R.drop lt.length = x0 :: R.drop (lt.length + 1) ∧ R.getD lt.length 0 = x0 := by
        generalize takeF bt lt.length (Hp.left bt ((x0, t0) :: lt)) = A at hRR hA
        generalize R.drop (lt.length + 1) = D at hRR ⊢
        subst hRR
        rw [List.append_assoc, List.singleton_append, ← hA]
        exact ⟨List.drop_left, by simp [List.getD]⟩
      have HO8 := Lib.hid O8; have HLL := Lib.hid hll; have HDL := Lib.hid hdl
      have HR9 := Lib.hid (show R = takeF bt lt.length (Hp.left bt ((x0, t0) :: lt)) ++ R.drop lt.length by rw [hR8.1]; simpa using hRR)
      have HRG := Lib.hid hR8.2
      clear O8 hll hdl hRR hA hR8
      go_wp2
      go_roundw
      case rel =>
        refine ⟨lt.length, Hp.left bt ((x0, t0) :: lt), Mx.setIfInBounds lt.length (.int .i64 x0), by omega, HLL.out, rfl, rfl, HO8.out, HDL.out, HR9.out, V8h.out, N8h.out, by rw [Array.size_setIfInBounds]; exact HMX.out, fun j h1 h2 => ?_, B8h.out, A8h.out⟩
        by_cases hj : j = lt.length
        · subst hj
          rw [HRG.out, Array.getElem?_setIfInBounds_self_of_lt hltm]
        · rw [Array.getElem?_setIfInBounds_ne (by omega)]
          exact HMJ.out j (by rw [List.length_cons]; omega) h2
      case measure => simp [intOf]
theorem own_apartB {w w' : World} {B n : Nat} {v : Value} {xs : List Value} (h : w.ownsRow B 3 1 v n xs) {B2 H : Nat} {k : Int} {F : FuncId} {caps : Array Value} {l : List E} {turn : Nat} (ha : Apart H w w') (hH : BestAt B2 H k F caps l turn w) : w'.ownsRow B 3 1 v n xs := by
  obtain ⟨u, hu, _⟩ := hH
  refine ⟨h.1, ?_⟩
  rcases h.2 with q | ⟨g, cap, cur, q1, q2, q3, q4⟩
  · exact .inl q
  · exact .inr ⟨g, cap, cur, q1, q2, ha g _ _ _ q3 (by decide) (fun e => by subst e; rw [hu] at q3; cases q3), q4⟩
end Go.Proofs.Ytlajceamjodcjaa
