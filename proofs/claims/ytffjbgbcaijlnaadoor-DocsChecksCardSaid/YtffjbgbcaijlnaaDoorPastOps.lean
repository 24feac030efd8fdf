/- past: Drops, and the copy of events. -/
import Derived.Test.YtffjbgbcaijlnaaDoorPastPx
import Derived.Test.YtffjbgbcaijlnaaDoorPastFew
import Derived.Test.YtffjbgbcaijlnaaDoorPastPlain
import Derived.Lib.Builder
namespace Go.Proofs.YtffjbgbcaijlnaaDoor
open Go Go.RowKit
set_option linter.unusedVariables false

def evs (L : List EvP) : List Ev := L.map (·.e)
theorem drops_take (L : List EvP) (j : Nat) (h : j < L.length) : dropsOf (evs (L.take (j + 1))) = dropsOf (evs (L.take j)) + (if L[j].e.kind = 2 then 1 else 0) := by
  rw [List.take_add_one, List.getElem?_eq_getElem h, evs, List.map_append]
  rw [drops_append]
  simp [dropsOf, evs, Ev.isDrop, List.countP_cons]
set_option maxHeartbeats 4000000 in
set_option maxRecDepth 100000 in
theorem drops_is (p : Option Addr) (c : Nat) (L : List EvP) (f : Nat → Int) (w : World) (h : EvsAt w p L) (hn : L.length ≤ 1000) :
    Calls Tryd.prog 49 #[.agg (pcs (.slice p L.length c) f)] w fun e w' => e = .returned (.int .i64 (dropsOf (evs L) : Nat)) ∧ Below w.heap.size w w' := by
  have EV := Lib.hid h
  clear h
  go_enter Tryd.func49, Tryd.ntmps49
  go_wp2_with (refine wpList_gbox rfl _ rfl (pcs (.slice p L.length c) f) rfl ?_)
  intro g w1 lg hg hb1
  have B1 := Lib.hid hb1
  have PX : Hid (Px w1 g (.slice p L.length c) f) := Lib.hid hg
  have E1 := Lib.hid (EV.out.below hb1)
  have s0 := PX.out.slot
  clear hg hb1 EV
  go_wp2
  clear s0
  go_loopw [3, 9] (fun n i wr => ∃ j : Nat, j ≤ L.length ∧ n = .int .i64 (dropsOf (evs (L.take j)) : Nat) ∧ i = .int .i64 j ∧ Below w1.heap.size w1 wr) (fun _ i _ => L.length - (intOf i).toNat)
  case atStart => exact ⟨0, Nat.zero_le _, rfl, rfl, Below.refl _ _⟩
  case round =>
    obtain ⟨j, hj, rfl, rfl, hb⟩ := hrel
    have BB := Lib.hid hb
    by_cases hjl : j < L.length
    · have hjl' : (j : Int) < L.length := by omega
      obtain ⟨b, o, rfl, hlt, hr⟩ := E1.out.at hjl
      have hr2 := range_below (w := w1) hr hb
      obtain ⟨c0, c1, c2, c3, c4, c5, c6, c7⟩ := ev_cells hr2
      have DT := Lib.hid (drops_take L j hjl)
      have hdl : dropsOf (evs (L.take j)) ≤ j := by
        have h1 := drops_rest (evs (L.take j))
        have h2 : (evs (L.take j)).length = j := by rw [evs, List.length_map, List.length_take]; omega
        omega
      clear hb hr hr2 hlt
      obtain ⟨y, hy⟩ : ∃ y, L[j] = y := ⟨_, rfl⟩
      rw [hy] at c0 c1 c2 c3 c4 c5 c6 c7 DT
      clear hy
      generalize dropsOf (evs (L.take j)) = m at hdl DT
      obtain ⟨⟨r, n, t, kd, d, fl, tx, gn⟩, gp, gc⟩ := y
      simp only at c0 c1 c2 c3 c4 c5 c6 c7 DT
      have B3 := Lib.hid (BB.out.alloc BB.out.size (.cells #[.int .i64 r, .int .i64 n, .int .i64 t, .int .i64 kd, .string d, .int .i64 fl, .string tx, .slice gp gn.length gc] 26))
      by_cases hk : kd = 2
      · have D2 : Hid (dropsOf (evs (L.take (j + 1))) = m + 1) := by rw [DT.out, if_pos hk]; exact Lib.hid rfl
        clear DT
        subst hk
        go_wp2
        go_roundw
        case rel => exact ⟨j + 1, by omega, by rw [D2.out]; go_num, by go_num, by simpa using B3.out⟩
        case measure => simp [intOf]; omega
      · have D2 : Hid (dropsOf (evs (L.take (j + 1))) = m) := by rw [DT.out, if_neg hk]; exact Lib.hid rfl
        clear DT
        go_wp2
        go_roundw
        case rel => exact ⟨j + 1, by omega, by rw [D2.out], by go_num, by simpa using B3.out⟩
        case measure => simp [intOf]; omega
    · obtain rfl : j = L.length := by omega
      have hjl' : ¬ ((L.length : Nat) : Int) < L.length := by omega
      rw [List.take_length]
      go_wp2
      go_ret
      exact ⟨rfl, thenBelow B1.out BB.out⟩

/-- two rows of things of other types lie apart -/
theorem own_apart {w : World} {B B' : Nat} {e e' : TypeId} {k k' n n' : Nat} {v v' : Value} {xs xs' : List Value} (h : w.ownsRow B e k v n xs) (h' : w.ownsRow B' e' k' v' n' xs') (hne : e ≠ e') : v.ownBlock = none ∨ v.ownBlock ≠ v'.ownBlock := by
  rcases h.2 with ⟨rfl, _⟩ | ⟨g, cap, cur, rfl, _, hg, _⟩
  · exact .inl rfl
  · right
    rcases h'.2 with ⟨rfl, _⟩ | ⟨g', cap', cur', rfl, _, hg', _⟩
    · simp [Value.ownBlock]
    · intro e1
      have e2 : g = g' := by simpa [Value.ownBlock] using e1
      subst e2
      rw [hg] at hg'
      injection hg' with hg'
      injection hg' with _ e3 _
      exact hne e3
/-- events of one's own: their row, and the rows of the dots of each -/
structure OwnE (w : World) (B : Nat) (v : Value) (L : List EvP) : Prop where
  row : w.ownsRow B 26 8 v L.length (ecl L)
  gone : ∀ x ∈ L, w.ownsRow B 23 2 (.slice x.p x.e.gone.length x.c) x.e.gone.length (dcl x.e.gone)
theorem own_slice {w : World} {B : Nat} {e : TypeId} {k n : Nat} {v : Value} {xs : List Value} (h : w.ownsRow B e k v n xs) : ∃ p c, v = .slice p n c := by
  rcases h.2 with ⟨rfl, rfl⟩ | ⟨g, cap, cur, rfl, _⟩
  · exact ⟨none, 0, rfl⟩
  · exact ⟨_, _, rfl⟩
theorem own_later {w w' : World} {B : Nat} {e : TypeId} {k n : Nat} {v : Value} {xs : List Value} (h : w.ownsRow B e k v n xs) (hb : Below w.heap.size w w') : w'.ownsRow B e k v n xs := by
  refine ⟨h.1, ?_⟩
  rcases h.2 with q | ⟨g, cap, cur, q1, q2, q3, q4⟩
  · exact .inl q
  · exact .inr ⟨g, cap, cur, q1, q2, (hb.block g (Array.getElem?_eq_some_iff.1 q3).1).trans q3, q4⟩
theorem own_base {w : World} {B B' : Nat} {e : TypeId} {k n : Nat} {v : Value} {xs : List Value} (h : w.ownsRow B e k v n xs) (hB : B' ≤ B) : w.ownsRow B' e k v n xs := by
  refine ⟨h.1, ?_⟩
  rcases h.2 with q | ⟨g, cap, cur, q1, q2, q3⟩
  · exact .inl q
  · exact .inr ⟨g, cap, cur, q1, Nat.le_trans hB q2, q3⟩
theorem OwnE.later {w w' : World} {B : Nat} {v : Value} {L : List EvP} (h : OwnE w B v L) (hb : Below w.heap.size w w') : OwnE w' B v L := ⟨own_later h.row hb, fun x hx => own_later (h.gone x hx) hb⟩
theorem own_okE {w : World} {B : Nat} {x : EvP} (h : w.ownsRow B 23 2 (.slice x.p x.e.gone.length x.c) x.e.gone.length (dcl x.e.gone)) : x.Ok w := by
  obtain ⟨_, p, cap, e1, _, h1, h2, _⟩ := own_drow h
  injection e1 with e1 _ _
  subst e1
  exact ⟨h1, fun hp => (h2 hp).1⟩
theorem OwnE.at {w : World} {B : Nat} {v : Value} {L : List EvP} (h : OwnE w B v L) : ∃ p c, v = .slice p L.length c ∧ L.length ≤ c ∧ EvsAt w p L ∧ (∀ a, p = some a → ∃ b o, a = ⟨b, o, Option.none⟩) := by
  have hr := h.row
  rcases hr.2 with ⟨rfl, h0⟩ | ⟨g, cap, cur, rfl, hB, hg, hc, hm, hs, ht⟩
  · have : L = [] := List.eq_nil_of_length_eq_zero h0
    subst this
    exact ⟨none, 0, rfl, Nat.le_refl _, ⟨fun hn => absurd rfl hn, fun x hx => by simp at hx, fun _ => rfl⟩, fun a ha => by cases ha⟩
  · refine ⟨some ⟨g, 0, none⟩, cap, rfl, hc, ⟨fun _ => ⟨g, 0, rfl, fun j u hu => ?_⟩, fun x hx => own_okE (h.gone x hx), fun e => by cases e⟩, fun a ha => by obtain rfl := Option.some.inj ha; exact ⟨g, 0, rfl⟩⟩
    have hj : j < L.length * 8 := by rw [← ecl_length]; exact (List.getElem?_eq_some_iff.1 hu).1
    have := hr.cellAt j hj
    rw [Nat.zero_add, this]; exact hu

def CopiedR (w : World) (L : List EvP) (e : Ending) (w' : World) : Prop := ∃ v L', e = .returned v ∧ OwnE w' w.heap.size v L' ∧ evs L' = evs L ∧ Below w.heap.size w w'
set_option maxHeartbeats 8000000 in
set_option maxRecDepth 100000 in
theorem copied_is (p : Option Addr) (c : Nat) (L : List EvP) (w : World) (h : EvsAt w p L) (ho : ∀ a, p = some a → ∃ b o, a = ⟨b, o, none⟩) (hn : L.length ≤ 1000) (hg : ∀ x ∈ L, x.e.gone.length ≤ 1000) :
    Calls Tryd.prog 89 #[.slice p L.length c] w (CopiedR w L) := by
  have EV := Lib.hid h; have HG := Lib.hid hg
  have CL := Lib.hid (cloneE_is p c L w h ho (by omega))
  clear h ho hg
  go_enter Tryd.func89, Tryd.ntmps89
  go_wp2_with fail
  refine CL.out.mono ?_
  rintro e w1 ⟨v, rfl, hown, hb1⟩
  obtain ⟨q, cq, rfl⟩ := own_slice hown
  have O1 := Lib.hid hown; have B1 := Lib.hid hb1
  clear CL hown hb1
  go_wp2_with fail
  go_loopw [8] (fun i wr => ∃ (j : Nat) (M : List EvP), j ≤ L.length ∧ M.length = L.length ∧ i = .int .i64 j ∧ wr.ownsRow w.heap.size 26 8 (.slice q L.length cq) L.length (ecl M) ∧ evs M = evs L ∧
      (∀ i (hi : i < M.length), i < j → wr.ownsRow w.heap.size 23 2 (.slice M[i].p M[i].e.gone.length M[i].c) M[i].e.gone.length (dcl M[i].e.gone)) ∧ (∀ i (hi : i < M.length), j ≤ i → M[i]? = L[i]?) ∧ Below w.heap.size w wr) (fun i _ => L.length - (intOf i).toNat)
  case atStart => exact ⟨0, L, Nat.zero_le _, rfl, rfl, O1.out, rfl, fun i _ hi => by omega, fun i _ _ => rfl, B1.out⟩
  case round =>
    obtain ⟨j, M, hj, hM, rfl, hown, hev, hold, hnew, hb⟩ := hrel
    have O := Lib.hid hown; have BB := Lib.hid hb; have HE := Lib.hid hev; have HO := Lib.hid hold; have HN := Lib.hid hnew; have HM := Lib.hid hM
    clear O1 B1 hev hold hnew hM
    by_cases hjl : j < L.length
    · have hjl' : (j : Int) < L.length := by omega
      have hjM : j < M.length := by rw [HM.out]; exact hjl
      have hMj : M[j] = L[j] := by
        have := HN.out j hjM (Nat.le_refl _)
        rw [List.getElem?_eq_getElem hjM, List.getElem?_eq_getElem hjl] at this
        exact Option.some.inj this
      obtain ⟨g0, cap0, hq⟩ : ∃ g0 cap0, (Value.slice q L.length cq) = .slice (some ⟨g0, 0, none⟩) L.length cap0 := by
        rcases hown.2 with ⟨h0, h1⟩ | ⟨g, cap, cur, h0, _⟩
        · omega
        · exact ⟨g, cap, h0⟩
      injection hq with hq1 _ hq2
      subst hq1; subst hq2
      have hok := EV.out.ok L[j] (List.getElem_mem hjl)
      have hlen := HG.out L[j] (List.getElem_mem hjl)
      have CG := Lib.hid (cloneG_is L[j] wr (hok.below hb) (by omega))
      have hx7 := hown.cellAt (j * 8 + 7) (by omega)
      rw [show ecl M = M.flatMap EvP.cells from rfl, flat_get EvP.cells_len M j hjM 7 (by omega), hMj, show L[j].cells[7]? = some (.slice L[j].p L[j].e.gone.length L[j].c) from rfl] at hx7
      have hlt : g0 < wr.heap.size := World.block_lt_of_cell? wr _ hx7
      have HX7 := Lib.hid hx7
      have HMj := Lib.hid hMj
      clear hown hb hok hlen hMj
      obtain ⟨y, hy⟩ : ∃ y, L[j] = y := ⟨_, rfl⟩
      rw [hy] at hx7 CG HX7 HMj
      have HY := Lib.hid hy
      clear hy
      obtain ⟨ye, yp, yc⟩ := y
      simp only at hx7 CG HX7
      go_wp2_with fail
      refine CG.out.mono ?_
      rintro e w2 ⟨v2, rfl, o2, b2⟩
      obtain ⟨q2, c2, rfl⟩ := own_slice o2
      have O2 := Lib.hid (own_later O.out b2)
      have k7 := (b2.cell (p := ⟨g0, j * 8 + 7, none⟩) hlt).trans HX7.out
      have f7 := O2.out.frozenAt (j * 8 + 7)
      have ST := O2.out.stored (j * 8 + 7) (.slice q2 ye.gone.length c2)
      have hM2 : M.length = L.length := HM.out
      have hset : (ecl M).set (j * 8 + 7) (.slice q2 ye.gone.length c2) = ecl (M.set j ⟨ye, q2, c2⟩) := by
        refine flat_set EvP.cells_len 7 (by omega) _ _ M j hjM ?_
        rw [HMj.out]; rfl
      rw [hset] at ST
      obtain ⟨st1, st2⟩ := ST
      have BS := Lib.hid ((thenBelow BB.out b2).grown st2 (Nat.le_trans BB.out.size b2.size) (fun k hk => by
        have := (O.out.lt k (by simpa [Value.ownBlock] using hk)).1
        exact this))
      have ap : ∀ (v : Value) (n : Nat) (xs : List Value), w2.ownsRow w.heap.size 23 2 v n xs → (w2.setCell ⟨g0, j * 8 + 7, none⟩ (.slice q2 ye.gone.length c2)).ownsRow w.heap.size 23 2 v n xs := fun v n xs hv => by
        have h1 := own_apart hv O2.out (by decide)
        exact hv.kept st2 (by simpa [Value.ownBlock] using h1)
      have NG := Lib.hid (ap _ _ _ (own_base o2 BB.out.size))
      have OG := Lib.hid (fun i (hi : i < M.length) (hij : i < j) => ap _ _ _ (own_later (HO.out i hi hij) b2))
      have S1 := Lib.hid st1
      clear CG o2 b2 st1 st2 ap hset O
      go_wp2
      go_roundw
      case rel =>
        refine ⟨j + 1, M.set j ⟨ye, q2, c2⟩, by omega, by simp [hM2], by go_num, by simpa using S1.out, ?_, ?_, ?_, by simpa using BS.out⟩
        · have e2 : evs (M.set j ⟨ye, q2, c2⟩) = (evs M).set j ye := by simp [evs, List.map_set]
          rw [e2, HE.out]
          apply List.ext_getElem?
          intro i
          by_cases hij : j = i
          · subst hij
            rw [List.getElem?_set_self (by simpa [evs] using hjl)]
            simp [evs, hjl, HY.out]
          · rw [List.getElem?_set_ne hij]
        · intro i hi hij
          have hi' : i < M.length := by simpa using hi
          by_cases e : j = i
          · subst e
            simp only [List.getElem_set_self]
            simpa using NG.out
          · simp only [List.getElem_set_ne e]
            simpa using OG.out i hi' (by omega)
        · intro i hi hij
          rw [List.getElem?_set_ne (by omega)]
          exact HN.out i (by simpa using hi) (by omega)
      case measure => simp [intOf]; omega
    · obtain rfl : j = L.length := by omega
      have hjl' : ¬ ((L.length : Nat) : Int) < L.length := by omega
      go_wp2
      go_ret
      refine ⟨_, M, rfl, ⟨by rw [HM.out]; exact O.out, fun x hx => ?_⟩, HE.out, BB.out⟩
      obtain ⟨i, hi, rfl⟩ := List.getElem_of_mem hx
      exact HO.out i hi (by rw [← HM.out]; exact hi)
end Go.Proofs.YtffjbgbcaijlnaaDoor
