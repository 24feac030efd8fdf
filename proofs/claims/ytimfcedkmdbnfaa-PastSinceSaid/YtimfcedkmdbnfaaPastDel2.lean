/- slices.DeleteFunc of events of one's own: the loop. -/
import Derived.Test.YtimfcedkmdbnfaaPastDel
import Derived.Test.YtimfcedkmdbnfaaPastRef
namespace Go.Proofs.Ytimfcedkmdbnfaa
open Go Go.RowKit
set_option linter.unusedVariables false

def DelR (B : Nat) (v : Nat → Int) (K : List EvP) (w : World) (e : Ending) (w' : World) : Prop :=
  ∃ q' c' K', e = .returned (.slice q' K'.length c') ∧ K'.length ≤ c' ∧ EvsAt w' q' K' ∧ (∀ a, q' = some a → ∃ b o, a = ⟨b, o, none⟩) ∧ evs K' = (evs K).filter (fun e => !e.has v) ∧ Below B w w'
theorem two_own {w w1 : World} {B G : Nat} {e : TypeId} {k n : Nat} {v : Value} {xs : List Value} (h : w.ownsRow B e k v n xs) {cs : Array Value} {T : TypeId} {m : Nat × Nat} (hG : w.heap[G]? = some (.cells cs T m)) (hne : T ≠ e) (ht : Two G G w w1) : w1.ownsRow B e k v n xs :=
  own_blk h fun b hb => by
    obtain ⟨h1, h2⟩ := h.lt b hb
    have hbG : b ≠ G := fun e1 => by
      subst e1
      rcases h.2 with ⟨rfl, _⟩ | ⟨g, cap, cur, rfl, _, hgg, _⟩
      · simp [Value.ownBlock] at hb
      · have : g = b := by simpa [Value.ownBlock] using hb
        subst this
        rw [hG] at hgg
        injection hgg with hgg
        injection hgg with _ e3 _
        exact hne e3
    exact ht.block b h2 hbG hbG
section
variable {ops : Array Oper} {rest : List Oper} {o : Oper} {a : Act} {Q : Exit → Act → World → Prop}
/-- an event written over another of a row -/
theorem wpList_evset {w : World} (hg : o.guard = none) (x y : Operand) (ho : o.op = .store 35 x y) (g j : Nat) (hx : a.eval x = .pointer (some ⟨g, j * 8, none⟩)) (X : EvP) (hy : a.eval y = .agg X.cells.toArray)
    (B n c : Nat) (M : List EvP) (hO : w.ownsRow B 35 8 (.slice (some ⟨g, 0, none⟩) n c) n (ecl M)) (hM : M.length = n) (hj : j < n)
    (h : ∀ w', w'.ownsRow B 35 8 (.slice (some ⟨g, 0, none⟩) n c) n (ecl (M.set j X)) → w.grownBy w' (some g) → wpList Try.prog ops Q rest (a.put o.dst undef) w') : wpList Try.prog ops Q (o :: rest) a w := by
  have ht : w.there g (j * 8) 8 := fun i hi => by
    have hj2 : j * 8 + i < n * 8 := by omega
    refine ⟨?_, hO.frozenAt (j * 8 + i)⟩
    rw [hO.cellAt (j * 8 + i) hj2, List.getElem?_eq_getElem (by rw [ecl_length, hM]; exact hj2)]
    rfl
  have h1 := own_setCells X.cells w _ (j * 8) hO
  rw [ecl_setLL M j (by omega)] at h1
  exact wpList_store_mid hg 35 x y ho g (j * 8) X.cells.toArray hx hy ht (by rw [List.size_toArray]; exact sizeEv X) (Array.all_eq_true_iff_forall_mem.2 (fun u hu => X.cells_one u (by simpa using hu))) (h _ h1 (grown_setCells g _ _ _))
end
set_option maxHeartbeats 20000000 in
set_option maxRecDepth 1000000 in
theorem delE_is (A B : Nat) (v : Nat → Int) (q : Option Addr) (cq : Nat) (K : List EvP) (w : World) (hA : InVec A v () w) (hAB : A < B) (hO : OwnE w B (.slice q K.length cq) K) (hn : K.length ≤ 1000) (hB : B ≤ w.heap.size) :
    Calls Try.prog 17 #[.slice q K.length cq, .func (.func 19) #[] #[.pointer (some ⟨A, 0, none⟩)]] w (DelR B v K w) := by
  obtain ⟨q0, c0', e1, hcap, hat, hoff⟩ := hO.at
  injection e1 with e1 _ e2
  subst e1; subst e2
  have IX := Lib.hid (idxE_is A v q cq K w hA hat hn)
  have HA := Lib.hid hA; have OO := Lib.hid hO; have AT := Lib.hid hat; have OF := Lib.hid hoff
  clear hA hO hat hoff
  go_enter Try.func17, Try.ntmps17
  go_wp2_with fail
  refine IX.out.mono ?_
  rintro e w1 ⟨i, rfl, hcase, hb1⟩
  have B1 := Lib.hid hb1
  clear IX hb1
  rcases hcase with ⟨rfl, hall⟩ | ⟨k, rfl, hk, hgo, hno⟩
  · go_wp2
    go_ret
    exact ⟨q, cq, K, rfl, hcap, AT.out.below B1.out, OF.out, by
      rw [List.filter_eq_self.2]
      intro e he
      obtain ⟨x, hx, rfl⟩ := List.mem_map.1 he
      rw [hall x hx]; rfl, B1.out.mono hB⟩
  · have hrow := OO.out.row
    obtain ⟨g, rfl⟩ : ∃ g, q = some ⟨g, 0, none⟩ := by
      rcases hrow.2 with ⟨h1, h0⟩ | ⟨g, cap, cur, e1, _⟩
      · omega
      · injection e1 with e1 _ _
        exact ⟨g, e1⟩
    obtain ⟨cs0, ms0, hgg⟩ : ∃ cs m, w1.heap[g]? = some (.cells cs 35 m) := by
      rcases hrow.2 with ⟨h1, h0⟩ | ⟨g', cap, cur, e1, _, h2, _⟩
      · cases h1
      · injection e1 with e1 _ _
        injection e1 with e1
        injection e1 with e1 _ _
        subst e1
        exact ⟨_, _, (B1.out.block _ (Array.getElem?_eq_some_iff.1 h2).1).trans h2⟩
    have hgB : B ≤ g := (hrow.lt g rfl).1
    have hAg : A ≠ g := by omega
    have hAl : A < w.heap.size := Row.lt HA.out
    have O1 := Lib.hid (own_later hrow B1.out)
    have G1 : Hid (∀ x ∈ K, w1.ownsRow B 32 2 (.slice x.p x.e.gone.length x.c) x.e.gone.length (dcl x.e.gone)) := Lib.hid fun x hx => own_later (OO.out.gone x hx) B1.out
    have R1 : Hid (InVec A v () w1) := Lib.hid (Row.later HA.out B1.out)
    have HGO := Lib.hid hgo; have HNO := Lib.hid hno
    have HGG := Lib.hid hgg
    have hAl1 : A < w1.heap.size := Row.lt R1.out
    have hF0 : Hid (evs (K.take k) = (evs (K.take (k + 1))).filter (fun e => !e.has v)) := Lib.hid (by
      rw [evs_take_succ K k hk, List.filter_append]
      have h1 : (evs (K.take k)).filter (fun e => !e.has v) = evs (K.take k) := List.filter_eq_self.2 fun e he => by
        obtain ⟨x, hx, rfl⟩ := List.mem_map.1 he
        rw [hno x hx]; rfl
      have h2 : K[k].e.has v = true := hgo _ (List.getElem?_eq_getElem hk)
      rw [h1, List.filter_cons_of_neg (by simp [h2]), List.filter_nil, List.append_nil])
    clear hrow hgo hno hgg OF AT HA
    have hkm : ((k : Int) == -1) = false := by rw [beq_eq_false_iff_ne]; omega
    go_wp2_with fail
    clear hkm
    go_loopw [5, 6] (fun i5 i6 wr => ∃ (a b : Nat) (M : List EvP), a < b ∧ b ≤ K.length ∧ i5 = .int .i64 a ∧ i6 = .int .i64 b ∧ M.length = K.length ∧ wr.ownsRow B 35 8 (.slice (some ⟨g, 0, none⟩) K.length cq) K.length (ecl M) ∧
        evs (M.take a) = (evs (K.take b)).filter (fun e => !e.has v) ∧ (∀ m, b ≤ m → M[m]? = K[m]?) ∧ (∀ x ∈ M, x ∈ K) ∧ Two g g w1 wr) (fun _ i6 _ => K.length - (intOf i6).toNat)
    case atStart => exact ⟨k, k + 1, K, by omega, by omega, rfl, by go_num, rfl, O1.out, hF0.out, fun m _ => rfl, fun x hx => hx, Two.refl _ _ _⟩
    case round =>
      obtain ⟨a, b, M, hab, hbl, rfl, rfl, hML, hown, hfil, hsame, hmem, htwo⟩ := hrel
      have OW := Lib.hid hown; have FI := Lib.hid hfil; have SM := Lib.hid hsame; have MM := Lib.hid hmem; have TW := Lib.hid htwo; have HML := Lib.hid hML
      have hokr : ∀ x ∈ M, x.Ok wr := fun x hx => own_okE (two_own (G1.out x (hmem x hx)) HGG.out (by decide) htwo)
      rw [show K.length = M.length from hML.symm] at hown
      obtain ⟨q2, c2, e1, _, hE, _⟩ := own_at (B := B) hown hokr
      injection e1 with e1 _ e2
      subst e1; subst e2
      have HE := Lib.hid hE
      clear hown hfil hsame hmem htwo hokr hE hML
      have hgw : g < wr.heap.size := Nat.lt_of_lt_of_le (Array.getElem?_eq_some_iff.1 HGG.out).1 TW.out.size
      by_cases hb : b < K.length
      · have hb' : (b : Int) < K.length := by omega
        have hbM : b < M.length := by rw [HML.out]; exact hb
        obtain ⟨g', o', e1, hlt, hr⟩ := HE.out.at hbM
        injection e1 with e1
        injection e1 with e1 e2 _
        subst e1; subst e2
        rw [Nat.zero_add] at hr
        obtain ⟨c0, c1, c2, c3, c4, c5, c6, c7⟩ := ev_cells hr
        have hMK : M[b] = K[b] := by
          have := SM.out b (Nat.le_refl _)
          rw [List.getElem?_eq_getElem hbM, List.getElem?_eq_getElem hb] at this
          exact Option.some.inj this
        have TS := Lib.hid (evs_take_succ K b hb)
        have hxm := Lib.hid (List.getElem_mem hb)
        rw [hMK] at c0 c1 c2 c3 c4 c5 c6 c7
        have D6 := Lib.hid (heap_alloc_new wr (.cells K[b].cells.toArray 35))
        have b6 : Below wr.heap.size wr (wr.alloc (.cells K[b].cells.toArray 35)) := below_alloc _ _
        have R6 : InVec A v () (wr.alloc (.cells K[b].cells.toArray 35)) := ((b6.block A (Nat.lt_of_lt_of_le hAl1 TW.out.size)).trans (TW.out.block A hAl1 hAg hAg)).trans R1.out
        have TL := Lib.hid (since_tell A v K[b] _ R6)
        have B6 := Lib.hid b6
        clear hr hlt hMK b6 R6
        obtain ⟨y, hy⟩ : ∃ y, K[b] = y := ⟨_, rfl⟩
        rw [hy] at c0 c1 c2 c3 c4 c5 c6 c7 TS hxm D6 TL B6
        clear hy
        obtain ⟨⟨r, n, t, kd, d, fl, tx, gn⟩, gp, gc⟩ := y
        simp only [EvP.cells] at c0 c1 c2 c3 c4 c5 c6 c7 D6 TL B6
        have he := since_enter
        go_wp2_with fail
        generalize wr.alloc (.cells #[.int .i64 r, .int .i64 n, .int .i64 t, .int .i64 kd, .string d, .int .i64 fl, .string tx, .slice gp gn.length gc] 35) = w6 at D6 TL B6 ⊢
        refine TL.out.mono ?_
        rintro e w7 ⟨rfl, hb7⟩
        have B7 := Lib.hid (thenBelow B6.out hb7)
        have D7 := Lib.hid ((hb7.block _ (Array.getElem?_eq_some_iff.1 D6.out).1).trans D6.out)
        have O7 := Lib.hid (own_later OW.out B7.out)
        have T7 := Lib.hid (TW.out.below B7.out)
        clear hb7 TL D6 B6 c0 c1 c2 c3 c4 c5 c6 c7 he
        cases hgo : Ev.has v ⟨r, n, t, kd, d, fl, tx, gn⟩ with
        | true =>
          have FN : Hid (evs (M.take a) = (evs (K.take (b + 1))).filter (fun e => !e.has v)) := Lib.hid (by
            rw [TS.out, List.filter_append, ← FI.out, List.filter_cons_of_neg (by simp [hgo]), List.filter_nil, List.append_nil])
          clear hgo
          go_wp2
          go_roundw
          case rel => exact ⟨a, b + 1, M, by omega, by omega, rfl, by go_num, HML.out, by simpa using O7.out, FN.out, fun m hm => SM.out m (by omega), MM.out, by simpa using T7.out⟩
          case measure => simp [intOf]; omega
        | false =>
          have hgof : (!Ev.has v ⟨r, n, t, kd, d, fl, tx, gn⟩) = true := by rw [hgo]; rfl
          have haM : a < M.length := by rw [HML.out]; omega
          have FN : Hid (evs ((M.set a ⟨⟨r, n, t, kd, d, fl, tx, gn⟩, gp, gc⟩).take (a + 1)) = (evs (K.take (b + 1))).filter (fun e => !e.has v)) := Lib.hid (by
            rw [TS.out, List.filter_append, ← FI.out, List.filter_cons_of_pos (p := fun e : Ev => !e.has v) hgof, List.filter_nil, evs_take_succ _ a (by simpa using haM)]
            simp only [List.getElem_set_self]
            rw [List.take_set_of_le (Nat.le_refl _)])
          have k0 := (cell_of_row w7 wr.heap.size 0 _ _ _ D7.out).trans (show _ = some (Value.int .i64 r) from rfl)
          have k1 := (cell_of_row w7 wr.heap.size 1 _ _ _ D7.out).trans (show _ = some (Value.int .i64 n) from rfl)
          have k2 := (cell_of_row w7 wr.heap.size 2 _ _ _ D7.out).trans (show _ = some (Value.int .i64 t) from rfl)
          have k3 := (cell_of_row w7 wr.heap.size 3 _ _ _ D7.out).trans (show _ = some (Value.int .i64 kd) from rfl)
          have k4 := (cell_of_row w7 wr.heap.size 4 _ _ _ D7.out).trans (show _ = some (Value.string d) from rfl)
          have k5 := (cell_of_row w7 wr.heap.size 5 _ _ _ D7.out).trans (show _ = some (Value.int .i64 fl) from rfl)
          have k6 := (cell_of_row w7 wr.heap.size 6 _ _ _ D7.out).trans (show _ = some (Value.string tx) from rfl)
          have k7 := (cell_of_row w7 wr.heap.size 7 _ _ _ D7.out).trans (show _ = some (Value.slice gp gn.length gc) from rfl)
          have hal' : (a : Int) < K.length := by omega
          clear hgo hgof D7
          go_wp2_with (refine wpList_evset rfl _ _ rfl g a rfl ⟨⟨r, n, t, kd, d, fl, tx, gn⟩, gp, gc⟩ rfl B K.length cq M O7.out HML.out (by omega) ?_)
          intro w8 o8 g8
          have OS := Lib.hid o8
          have TS2 := Lib.hid (T7.out.step g8 (fun k hk => .inl (Option.some.inj hk).symm))
          clear o8 g8 O7 T7 k0 k1 k2 k3 k4 k5 k6 k7
          go_wp2
          go_roundw
          case rel =>
            refine ⟨a + 1, b + 1, M.set a ⟨⟨r, n, t, kd, d, fl, tx, gn⟩, gp, gc⟩, by omega, by omega, by go_num, by go_num, by simpa using HML.out, by simpa using OS.out, FN.out, fun m hm => ?_, fun x hx => ?_, by simpa using TS2.out⟩
            · rw [List.getElem?_set_ne (by omega)]; exact SM.out m (by omega)
            · rcases List.mem_or_eq_of_mem_set hx with h | h
              · exact MM.out x h
              · rw [h]; exact hxm.out
          case measure => simp [intOf]; omega
      · obtain rfl : b = K.length := by omega
        have hb' : ¬ ((K.length : Nat) : Int) < K.length := by omega
        have ham : a < K.length := hab
        obtain ⟨vs, hvl, hcl⟩ := clearE wr 0 g (a * 8) (K.length - a) (cq - a) (by omega) (fun j hj => by
          have hj2 : a * 8 + j < K.length * 8 := by omega
          rw [OW.out.cellAt (a * 8 + j) hj2, List.getElem?_eq_getElem (by rw [ecl_length, HML.out]; exact hj2)]; rfl) (fun j hj => OW.out.frozenAt (a * 8 + j))
        have hw9 : Two g g w1 (wr.setCells g (a * 8) vs) := TW.out.step (grown_setCells g vs wr (a * 8)) (fun k hk => .inl (Option.some.inj hk).symm)
        have ho9 := own_setCells vs wr _ (a * 8) OW.out
        have TW9 := Lib.hid hw9; have O9 := Lib.hid ho9
        clear hw9 ho9
        generalize wr.setCells g (a * 8) vs = w9 at hcl TW9 O9
        have hal : (a : Int) ≤ K.length := by omega
        have hacq : (a : Int) ≤ cq := by omega
        go_wp2
        go_ret
        have hML := HML.out
        have hlen : (M.take a).length = a := by rw [List.length_take]; omega
        have hl := ecl_length M
        have hlt := ecl_length (M.take a)
        rw [hlen] at hlt
        have hspl : ecl M = ecl (M.take a) ++ ecl (M.drop a) := by rw [← ecl_append, List.take_append_drop]
        refine ⟨some ⟨g, 0, none⟩, cq, M.take a, by rw [hlen]; rfl, by rw [hlen]; omega, ⟨fun _ => ⟨g, 0, rfl, fun j u hu => ?_⟩, fun x hx => ?_, fun e => by cases e⟩, fun e he => by obtain rfl := Option.some.inj he; exact ⟨_, _, rfl⟩, ?_, ?_⟩
        · have hj : j < a * 8 := by rw [← hlt]; exact (List.getElem?_eq_some_iff.1 hu).1
          rw [Nat.zero_add, O9.out.cellAt j (by omega), setLL_get _ _ _ (by rw [hl, hvl]; omega), if_neg (by omega), hspl, List.getElem?_append_left (by omega)]
          exact hu
        · exact own_okE (two_own (G1.out x (MM.out x (List.mem_of_mem_take hx))) HGG.out (by decide) TW9.out)
        · rw [FI.out, List.take_length]
        · have hz : w.heap.size ≤ w1.heap.size := B1.out.size
          exact ⟨TW9.out.os.trans B1.out.os, TW9.out.tape.trans B1.out.tape, TW9.out.output.trans B1.out.output, Nat.le_trans B1.out.size TW9.out.size, fun i hi => (TW9.out.block i (by omega) (by omega) (by omega)).trans (B1.out.block i (by omega))⟩
end Go.Proofs.Ytimfcedkmdbnfaa
