/- past.without: the events that do not go, and the floor. -/
import Derived.Test.YtffjbgbcaijlnaaDoorPastOps
import Derived.Test.YtffjbgbcaijlnaaDoorRgMore
namespace Go.Proofs.YtffjbgbcaijlnaaDoor
open Go Go.RowKit
set_option linter.unusedVariables false

section
variable {P : Program} {t : TypeId} {ops : Array Oper} {rest : List Oper} {o : Oper} {a : Act} {w : World} {Q : Exit → Act → World → Prop}
theorem wpList_pbuild (hw : Region.wanted o (yielded ops a.tmps) = true) (parts : Array (Nat × Operand)) (ho : o.op = .build t parts) (cs : Array Value) (hb : (Instr.build t (parts.map fun (i, x) => (i, a.eval x))).run P w = .ok (.agg cs) w)
    (h : wpList P ops Q rest (a.put o.dst (.agg cs)) w) : wpList P ops Q (o :: rest) a w := by
  refine BigFrame.wpList_want hw fun K hK => ?_
  unfold Oper.wp execOp
  simp only [ho, Sem.run_bind, hb, Result.andThen_ok]
  rw [show (pure (Next.value (Value.agg cs)) : Sem Next).run P w = .ok (.value (.agg cs)) w from rfl]
  exact hK _ _ h
end
section
variable {ops : Array Oper} {rest : List Oper} {o : Oper} {a : Act} {Q : Exit → Act → World → Prop}
/-- the floor of a past written whole -/
theorem wpList_floor {w : World} (hg : o.guard = none) (x y : Operand) (ho : o.op = .store 36 x y) (g : Nat) (hx : a.eval x = .pointer (some ⟨g, 1, none⟩)) (f' : Nat → Int) (hy : a.eval y = .agg (vf f')) (v : Value) (f : Nat → Int) (hp : Px w g v f)
    (h : ∀ w', Px w' g v f' → w.grownBy w' (some g) → wpList Tryd.prog ops Q rest (a.put o.dst undef) w') : wpList Tryd.prog ops Q (o :: rest) a w :=
  wpList_store_mid hg 36 x y ho g 1 (vf f') hx hy (hp.there _) (sizeVc _) (vf_one _) (h _ (hp.setFloor f') (grown_setCells g _ _ _))
/-- an event put behind events of one's own -/
theorem wpList_ev (w : World) (hg : o.guard = none) (s x : Operand) (ho : o.op = .call { callee := .builtin .append, args := #[s, x], argTypes := #[28, 28] })
    (B n : Nat) (xs : List Value) (v : Value) (hs : a.eval s = v) (hown : w.ownsRow B 26 8 v n xs) (X : EvP) (hx : a.eval x = .slice (some ⟨w.heap.size, 0, none⟩) 1 1)
    (hlen : n + 1 ≤ 1000000) (hB : B ≤ w.heap.size)
    (h : ∀ v' w', w'.ownsRow B 26 8 v' (n + 1) (xs ++ X.cells) → w.grownBy w' v.ownBlock → wpList Tryd.prog ops Q rest (a.put o.dst v') w') : wpList Tryd.prog ops Q (o :: rest) a (w.alloc (.cells X.cells.toArray 26)) := by
  obtain ⟨i0, hi, hz0, hz1, hz2⟩ := info_parts infoEv
  refine wpList_append_own _ hg s x 28 ho B 26 i0 _ 8 96 Tryd.underlying28 hi hz0 hz1 hz2 rfl (by decide) v n xs hs (hown.alloc _) ⟨w.heap.size, 0, none⟩ 1 1 X.cells hx rfl ?_ X.cells_one (by unfold maxLen; omega) (by omega) (by simp; omega) ?_
  · intro j u hu
    rw [Addr.add_lit, Nat.zero_add, cell_of_row _ w.heap.size j _ _ _ (heap_alloc_new w (.cells X.cells.toArray 26))]
    simpa using hu
  · intro v' w' g1 g2 _
    refine h v' w' g1 ?_
    have g0 := World.grownBy_alloc w (.cells X.cells.toArray 26) v.ownBlock
    exact ⟨g2.os.trans g0.os, g2.tape.trans g0.tape, g2.output.trans g0.output, Nat.le_trans g0.size g2.size, fun i hi hne => (g2.block i (Nat.lt_of_lt_of_le hi g0.size) hne).trans (g0.block i hi hne)⟩
end

/-- nothing that was there has turned but two blocks -/
structure Two (A G : Nat) (W w : World) : Prop where
  os : w.os = W.os
  tape : w.tape = W.tape
  output : w.output = W.output
  size : W.heap.size ≤ w.heap.size
  block : ∀ k, k < W.heap.size → k ≠ A → k ≠ G → w.heap[k]? = W.heap[k]?
theorem Two.refl (A G : Nat) (W : World) : Two A G W W := ⟨rfl, rfl, rfl, Nat.le_refl _, fun _ _ _ _ => rfl⟩
theorem Two.step {A G : Nat} {W w w' : World} (h : Two A G W w) {row : Option Nat} (hg : w.grownBy w' row) (hr : ∀ k, row = some k → k = A ∨ k = G ∨ W.heap.size ≤ k) : Two A G W w' :=
  ⟨hg.os.trans h.os, hg.tape.trans h.tape, hg.output.trans h.output, Nat.le_trans h.size hg.size, fun k hk h1 h2 => (hg.block k (Nat.lt_of_lt_of_le hk h.size) (fun e => by
    rcases hr k e.symm with e | e | e
    · exact h1 e
    · exact h2 e
    · omega)).trans (h.block k hk h1 h2)⟩
theorem Two.below {A G : Nat} {W w w' : World} (h : Two A G W w) (hb : Below w.heap.size w w') : Two A G W w' :=
  ⟨hb.os.trans h.os, hb.tape.trans h.tape, hb.output.trans h.output, Nat.le_trans h.size hb.size, fun k hk h1 h2 => (hb.block k (Nat.lt_of_lt_of_le hk h.size)).trans (h.block k hk h1 h2)⟩
theorem own_blk {w w' : World} {B : Nat} {e : TypeId} {k n : Nat} {v : Value} {xs : List Value} (h : w.ownsRow B e k v n xs) (hb : ∀ b, v.ownBlock = some b → w'.heap[b]? = w.heap[b]?) : w'.ownsRow B e k v n xs := by
  refine ⟨h.1, ?_⟩
  rcases h.2 with q | ⟨g, cap, cur, q1, q2, q3, q4⟩
  · exact .inl q
  · refine .inr ⟨g, cap, cur, q1, q2, ?_, q4⟩
    rw [hb g (by rw [q1]; rfl)]; exact q3
theorem own_grown {w w' : World} {A B : Nat} {e : TypeId} {k n : Nat} {v : Value} {xs : List Value} (h : w.ownsRow B e k v n xs) (hg : w.grownBy w' (some A)) (hA : A < B) : w'.ownsRow B e k v n xs :=
  own_blk h fun b hb => by
    obtain ⟨h1, h2⟩ := h.lt b hb
    exact hg.block b h2 (by simp; omega)
/-- a row of things of another type than block G, of one's own above A, stays -/
theorem Two.own {A G B : Nat} {W w : World} (h : Two A G W w) {e : TypeId} {k n : Nat} {v : Value} {xs : List Value} (hv : W.ownsRow B e k v n xs) (hA : A < B) {cs : Array Value} {T : TypeId} {m : Nat × Nat} (hG : W.heap[G]? = some (.cells cs T m)) (hne : T ≠ e) : w.ownsRow B e k v n xs := by
  refine own_blk hv fun b hb => ?_
  obtain ⟨h1, h2⟩ := hv.lt b hb
  refine h.block b h2 (by omega) (fun e1 => ?_)
  subst e1
  rcases hv.2 with ⟨rfl, _⟩ | ⟨g, cap, cur, rfl, _, hg, _⟩
  · simp [Value.ownBlock] at hb
  · have : g = b := by simpa [Value.ownBlock] using hb
    subst this
    rw [hG] at hg
    injection hg with hg
    injection hg with _ e3 _
    exact hne e3

/-- a closure that tells of events, one by one, which go; what it knows lies in block A -/
structure Goes (F : FuncId) (caps : Array Value) {σ : Type} (goes : σ → Ev → Bool) (next : σ → Ev → σ) (A : Nat) (I : σ → World → Prop) : Prop where
  enter : ∀ args w, (callFunc F args).run Tryd.prog w = .ok (.enter F args) w
  tell : ∀ s (x : EvP) w, I s w → Calls Tryd.prog F (#[.agg x.cells.toArray] ++ caps) w fun e w' => e = .returned (.bool (goes s x.e)) ∧ I (next s x.e) w' ∧ w.grownBy w' (some A)
  keep : ∀ s w w' row, I s w → w.grownBy w' row → row ≠ some A → I s w'
  lt : ∀ s w, I s w → A < w.heap.size
def WithR {σ : Type} (goes : σ → Ev → Bool) (next : σ → Ev → σ) (A : Nat) (I : σ → World → Prop) (w : World) (s : σ) (f : Nat → Int) (l : List Ev) (e : Ending) (w' : World) : Prop :=
  ∃ v K, e = .returned (.agg (pcs v (wRun goes next s f l).2.2)) ∧ OwnE w' w.heap.size v K ∧ evs K = (wRun goes next s f l).2.1 ∧ I (wRun goes next s f l).1 w' ∧ w.grownBy w' (some A)
theorem evs_take_succ (L : List EvP) (j : Nat) (h : j < L.length) : evs (L.take (j + 1)) = evs (L.take j) ++ [L[j].e] := by
  rw [List.take_add_one, List.getElem?_eq_getElem h, evs, List.map_append]; rfl

set_option maxHeartbeats 20000000 in
set_option maxRecDepth 1000000 in
theorem without_is {σ : Type} (goes : σ → Ev → Bool) (next : σ → Ev → σ) (A : Nat) (I : σ → World → Prop) (F : FuncId) (caps : Array Value) (T : Goes F caps goes next A I)
    (p : Option Addr) (c : Nat) (L : List EvP) (f : Nat → Int) (s : σ) (w : World) (h : EvsAt w p L) (ho : ∀ a, p = some a → ∃ b o, a = ⟨b, o, none⟩) (hn : L.length ≤ 1000) (hg : ∀ x ∈ L, x.e.gone.length ≤ 1000) (hI : I s w) :
    Calls Tryd.prog 67 #[.agg (pcs (.slice p L.length c) f), .func (.func F) #[] caps] w (WithR goes next A I w s f (evs L)) := by
  have TT := Lib.hid T
  have hA := T.lt s w hI
  have EV := Lib.hid h; have HG := Lib.hid hg; have HO := Lib.hid ho; have HI := Lib.hid hI
  clear T h hg ho hI
  go_enter Tryd.func67, Tryd.ntmps67
  go_wp2_with (refine wpList_gbox rfl _ rfl (pcs (.slice p L.length c) f) rfl ?_)
  intro g2 w1 lg2 hg2 hb1
  have B1 := Lib.hid hb1
  have P2 : Hid (Px w1 g2 (.slice p L.length c) f) := Lib.hid hg2
  clear hg2 hb1
  go_wp2_with (refine wpList_galloc _ zeroP rfl rfl ?_)
  intro g4 w2 lg4 hg4 hb2
  have B2 := Lib.hid (thenBelow B1.out hb2)
  have P22 := Lib.hid (P2.out.later hb2)
  have P4 : Hid (Px w2 g4 (.slice none 0 0) fun _ => 0) := Lib.hid hg4
  clear hg4 hb2 P2
  go_wp2_with (first | refine wpList_gload rfl _ rfl g2 1 rfl (vf f).toList P22.out.floor _ Tryd.underlying36 rfl (sizeVcl f) ?_ | refine wpList_pbuild (by rfl) _ rfl (pcs (.slice none 0 0) f) (by simp only [List.map_toArray, List.map_cons, List.map_nil]; exact builtP f _) ?_ | refine wpList_galloc _ zeroP rfl rfl ?_)
  intro g5 w3 lg5 hg5 hb3
  have B3 := Lib.hid (thenBelow B2.out hb3)
  have P23 := Lib.hid (P22.out.later hb3); have P43 := Lib.hid (P4.out.later hb3)
  have h25 : g2 < g5 := Nat.lt_of_lt_of_le P22.out.lt lg5
  have h45 : g4 < g5 := Nat.lt_of_lt_of_le P4.out.lt lg5
  have hw5 : w.heap.size ≤ g5 := Nat.le_trans B2.out.size lg5
  clear hb3 P22 P4
  go_wp2_with (refine wpList_gstore rfl _ _ rfl g5 rfl (pcs (.slice none 0 0) f) rfl _ _ hg5 (sizeP _ _) (by rw [pcs_size]; rfl) (pcs_oneV f ⟨_, _, _, rfl⟩) ?_)
  intro w4 hp5 hgr5
  have B4 := Lib.hid (B3.out.trans (grown_below hgr5 B3.out.size hw5))
  have P24 := Lib.hid (P23.out.kept hgr5 (by simp; omega)); have P44 := Lib.hid (P43.out.kept hgr5 (by simp; omega))
  have P54 : Hid (Px w4 g5 (.slice none 0 0) f) := Lib.hid hp5
  have s0 := P24.out.slot
  have CP := Lib.hid (copied_is p c L w4 (EV.out.below B4.out) HO.out hn HG.out)
  clear hg5 hp5 hgr5 P23 P43
  go_wp2_with fail
  refine CP.out.mono ?_
  rintro e w5 ⟨vL, M, rfl, hM, hev, hb5⟩
  have B5 := Lib.hid (thenBelow B4.out hb5)
  have P45 := Lib.hid (P44.out.later hb5); have P55 := Lib.hid (P54.out.later hb5)
  obtain ⟨q, cq, rfl, hcq, hEM, hoM⟩ := hM.at
  have OM := Lib.hid hM; have HEV := Lib.hid hev
  have hMl : M.length = L.length := by have := congrArg List.length hev; simpa [evs] using this
  have HML := Lib.hid hMl
  have hM1000 : M.length ≤ 1000 := by rw [hMl]; exact hn
  have I5 := Lib.hid (TT.out.keep s w w5 none HI.out ⟨B5.out.os, B5.out.tape, B5.out.output, B5.out.size, fun i hi _ => B5.out.block i hi⟩ (by simp))
  have hz4 : w.heap.size ≤ w4.heap.size := B4.out.size
  have hz5 : w4.heap.size ≤ w5.heap.size := hb5.size
  have hg5lt := P55.out.lt
  have hg5lt4 := P54.out.lt
  clear CP s0 hM hev hb5 EV hEM hoM hMl
  go_wp2_with fail
  go_loopw [15] (fun i wr => ∃ (j : Nat) (v : Value) (K : List EvP), j ≤ M.length ∧ i = .int .i64 j ∧ Px wr g5 v (wRun goes next s f (evs (M.take j))).2.2 ∧ evs K = (wRun goes next s f (evs (M.take j))).2.1 ∧ I (wRun goes next s f (evs (M.take j))).1 wr ∧
      wr.ownsRow w5.heap.size 26 8 v K.length (ecl K) ∧ (∀ x ∈ K, x ∈ M) ∧ Two A g5 w5 wr) (fun i _ => M.length - (intOf i).toNat)
  case atStart => exact ⟨0, .slice none 0 0, [], Nat.zero_le _, rfl, P55.out, rfl, I5.out, ⟨rfl, .inl ⟨rfl, rfl⟩⟩, fun x hx => by simp at hx, Two.refl _ _ _⟩
  case round =>
    obtain ⟨j, v, K, hj, rfl, hpx, hevK, hI, hown, hmem, htwo⟩ := hrel
    have hKl : K.length ≤ j := by
      have h1 : (evs K).length = K.length := by simp [evs]
      rw [hevK] at h1
      have h2 := wRun_len goes next (evs (M.take j)) (s, [], f)
      have h3 : (evs (M.take j)).length = j := by rw [evs, List.length_map, List.length_take]; omega
      change (wRun goes next s f (evs (M.take j))).2.1.length ≤ 0 + _ at h2
      omega
    have OMr : OwnE wr w4.heap.size (.slice q M.length cq) M := by
      refine ⟨htwo.own OM.out.row (by omega) P55.out (by decide), fun x hx => htwo.own (OM.out.gone x hx) (by omega) P55.out (by decide)⟩
    have PX := Lib.hid hpx; have HEK := Lib.hid hevK; have II := Lib.hid hI; have OO := Lib.hid hown; have HMM := Lib.hid hmem; have TW := Lib.hid htwo
    clear hpx hevK hI hown hmem htwo
    by_cases hjl : j < M.length
    · have hjl' : (j : Int) < M.length := by omega
      obtain ⟨q', cq', e1, _, hEM, _⟩ := OMr.at
      injection e1 with e1 _ e2
      subst e1; subst e2
      obtain ⟨b, o, rfl, hlt, hr⟩ := hEM.at hjl
      obtain ⟨c0, c1, c2, c3, c4, c5, c6, c7⟩ := ev_cells hr
      have TK := Lib.hid (evs_take_succ M j hjl)
      have hxm := Lib.hid (List.getElem_mem hjl)
      have GO := Lib.hid (OMr.gone M[j] (List.getElem_mem hjl))
      clear hr OMr hEM
      obtain ⟨y, hy⟩ : ∃ y, M[j] = y := ⟨_, rfl⟩
      rw [hy] at c0 c1 c2 c3 c4 c5 c6 c7 TK hxm GO
      clear hy
      have SN := Lib.hid (wRun_snoc goes next s f (evs (M.take j)) y.e)
      rw [← TK.out] at SN
      clear TK
      obtain ⟨⟨s1, l1, f1⟩, hst⟩ : ∃ st, wRun goes next s f (evs (M.take j)) = st := ⟨_, rfl⟩
      rw [hst] at PX HEK II SN
      clear hst
      simp only at PX HEK II
      obtain ⟨S2, hS2⟩ : ∃ st, wRun goes next s f (evs (M.take (j + 1))) = st := ⟨_, rfl⟩
      have HS2 := Lib.hid hS2
      rw [hS2] at SN
      clear hS2
      have hvs := own_slice OO.out
      have D6 := Lib.hid (heap_alloc_new wr (.cells y.cells.toArray 26))
      have b6 : Below wr.heap.size wr (wr.alloc (.cells y.cells.toArray 26)) := below_alloc _ _
      have PX6 := Lib.hid (PX.out.later b6); have OO6 := Lib.hid (own_later OO.out b6); have TW6 := Lib.hid (TW.out.below b6)
      have II6 := Lib.hid (TT.out.keep _ wr (wr.alloc (.cells y.cells.toArray 26)) none II.out ⟨b6.os, b6.tape, b6.output, b6.size, fun i hi _ => b6.block i hi⟩ (by simp))
      have GO6 := Lib.hid (own_later GO.out b6)
      have TL := Lib.hid (TT.out.tell s1 y _ II6.out)
      have h7 : w5.heap.size ≤ wr.heap.size := TW.out.size
      clear b6 PX OO TW II GO
      obtain ⟨⟨r, n, t, kd, d, fl, tx, gn⟩, gp, gc⟩ := y
      have he := TT.out.enter
      simp only at c0 c1 c2 c3 c4 c5 c6 c7
      simp only [EvP.cells] at D6 PX6 OO6 TW6 II6 TL GO6
      go_wp2_with fail
      generalize wr.alloc (.cells _ 26) = w6 at D6 PX6 OO6 TW6 II6 TL GO6 ⊢
      have hz6 := TW6.out.size
      have hAN : A < wr.heap.size := by omega
      have hN6 : wr.heap.size < w6.heap.size := (Array.getElem?_eq_some_iff.1 D6.out).1
      refine TL.out.mono ?_
      rintro e w7 ⟨rfl, i7, g7⟩
      have II7 := Lib.hid i7
      have P7 := Lib.hid (PX6.out.kept g7 (by simp; omega))
      have O7 := Lib.hid (own_grown OO6.out g7 (by omega))
      have D7 := Lib.hid ((g7.block _ hN6 (by simp; omega)).trans D6.out)
      have T7 := Lib.hid (TW6.out.step g7 (fun k hk => .inl (Option.some.inj hk).symm))
      clear i7 g7 TL PX6 OO6 D6 TW6 II6 he c0 c1 c2 c3 c4 c5 c6 c7
      have d0 := (cell_of_row w7 wr.heap.size 0 _ _ _ D7.out).trans (show _ = some (Value.int .i64 r) from rfl)
      have d1 := (cell_of_row w7 wr.heap.size 1 _ _ _ D7.out).trans (show _ = some (Value.int .i64 n) from rfl)
      cases hgo : goes s1 ⟨r, n, t, kd, d, fl, tx, gn⟩ with
      | true =>
        have SE : Hid (S2 = (next s1 ⟨r, n, t, kd, d, fl, tx, gn⟩, l1, withF f1 r n)) := Lib.hid (by rw [SN.out]; simp [wStep, hgo])
        have WI := Lib.hid (with_is f1 r n w7)
        clear SN hgo
        go_wp2_with (refine wpList_gload rfl _ rfl g5 1 rfl (vf f1).toList P7.out.floor _ Tryd.underlying36 rfl (sizeVcl f1) ?_)
        refine WI.out.mono ?_
        rintro e w8 ⟨rfl, hb8⟩
        have P8 := Lib.hid (P7.out.later hb8); have O8 := Lib.hid (own_later O7.out hb8); have T8 := Lib.hid (T7.out.below hb8)
        have II8 := Lib.hid (TT.out.keep _ w7 w8 none II7.out ⟨hb8.os, hb8.tape, hb8.output, hb8.size, fun i hi _ => hb8.block i hi⟩ (by simp))
        clear hb8 WI P7 O7 T7 II7 d0 d1 D7
        go_wp2_with (refine wpList_floor rfl _ _ rfl g5 rfl (withF f1 r n) rfl v f1 P8.out ?_)
        intro w9 p9 g9
        have P9 := Lib.hid p9
        have O9 := Lib.hid (own_grown O8.out g9 (by omega))
        have T9 := Lib.hid (T8.out.step g9 (fun k hk => .inr (.inl (Option.some.inj hk).symm)))
        have II9 := Lib.hid (TT.out.keep _ _ _ _ II8.out g9 (by simp; omega))
        clear g9 p9 P8 O8 T8 II8
        go_wp2
        go_roundw
        case rel => exact ⟨j + 1, v, K, by omega, by go_num, by rw [HS2.out, SE.out]; simpa using P9.out, by rw [HS2.out, SE.out]; exact HEK.out, by rw [HS2.out, SE.out]; simpa using II9.out, by simpa using O9.out, HMM.out, by simpa using T9.out⟩
        case measure => simp [intOf]; omega
      | false =>
        have SE : Hid (S2 = (next s1 ⟨r, n, t, kd, d, fl, tx, gn⟩, l1 ++ [⟨r, n, t, kd, d, fl, tx, gn⟩], f1)) := Lib.hid (by rw [SN.out]; simp [wStep, hgo])
        obtain ⟨qk, ck, rfl⟩ := hvs
        have d2 := (cell_of_row w7 wr.heap.size 2 _ _ _ D7.out).trans (show _ = some (Value.int .i64 t) from rfl)
        have d3 := (cell_of_row w7 wr.heap.size 3 _ _ _ D7.out).trans (show _ = some (Value.int .i64 kd) from rfl)
        have d4 := (cell_of_row w7 wr.heap.size 4 _ _ _ D7.out).trans (show _ = some (Value.string d) from rfl)
        have d5 := (cell_of_row w7 wr.heap.size 5 _ _ _ D7.out).trans (show _ = some (Value.int .i64 fl) from rfl)
        have d6 := (cell_of_row w7 wr.heap.size 6 _ _ _ D7.out).trans (show _ = some (Value.string tx) from rfl)
        have d7 := (cell_of_row w7 wr.heap.size 7 _ _ _ D7.out).trans (show _ = some (Value.slice gp gn.length gc) from rfl)
        have s7 := P7.out.slot
        have hz7 := T7.out.size
        clear SN hgo
        go_wp2_with (at_builtin; refine wpList_ev w7 rfl _ _ rfl w5.heap.size K.length (ecl K) (.slice qk K.length ck) rfl O7.out ⟨⟨r, n, t, kd, d, fl, tx, gn⟩, gp, gc⟩ rfl (by omega) hz7 ?_)
        intro v8 w8 o8 g8
        obtain ⟨q8, c8, rfl⟩ := own_slice o8
        have hvb : ∀ k, (Value.slice qk K.length ck).ownBlock = some k → w5.heap.size ≤ k := fun k hk => (O7.out.lt k hk).1
        have P8 := Lib.hid (P7.out.kept g8 (fun e => by have := hvb g5 e.symm; omega))
        have O8 := Lib.hid o8
        have T8 := Lib.hid (T7.out.step g8 (fun k hk => .inr (.inr (hvb k hk))))
        have II8 := Lib.hid (TT.out.keep _ _ _ _ II7.out g8 (fun e => by have := hvb A e; omega))
        have s8 := P8.out.slot
        have f8 := P8.out.free 0
        have P9 := Lib.hid (P8.out.setSlot (.slice q8 (K.length + 1) c8))
        have g9 := grown_cell w8 g5 0 (.slice q8 (K.length + 1) c8)
        have O9 := Lib.hid (own_grown O8.out g9 (by omega))
        have T9 := Lib.hid (T8.out.step g9 (fun k hk => .inr (.inl (Option.some.inj hk).symm)))
        have II9 := Lib.hid (TT.out.keep _ _ _ _ II8.out g9 (by simp; omega))
        clear g8 g9 o8 d0 d1 d2 d3 d4 d5 d6 d7 s7 P7 O7 T7 II7 D7 hvb
        go_wp2_with fail
        generalize w8.setCell ⟨g5, 0, none⟩ (.slice q8 (K.length + 1) c8) = w9 at P9 O9 T9 II9 ⊢
        clear s8 f8 P8 O8 T8 II8
        go_roundw
        case rel =>
          refine ⟨j + 1, _, K ++ [⟨⟨r, n, t, kd, d, fl, tx, gn⟩, gp, gc⟩], by omega, by go_num, by rw [HS2.out, SE.out]; exact P9.out, by rw [HS2.out, SE.out]; simp only [evs, List.map_append, List.map_cons, List.map_nil]; rw [← HEK.out]; rfl, by rw [HS2.out, SE.out]; exact II9.out, ?_, ?_, by simpa using T9.out⟩
          · rw [List.length_append, ecl_append]
            simpa [ecl] using O9.out
          · intro x hx
            rcases List.mem_append.1 hx with h | h
            · exact HMM.out x h
            · obtain rfl := List.mem_singleton.1 h
              exact hxm.out
        case measure => simp [intOf]; omega
    · obtain rfl : j = M.length := by omega
      have hjl' : ¬ ((M.length : Nat) : Int) < M.length := by omega
      rw [List.take_length, HEV.out] at PX HEK II
      have hz1 := B1.out.size
      have P4r : Hid (Px wr g4 (.slice none 0 0) fun _ => 0) := Lib.hid ((TW.out.block g4 P45.out.lt (by omega) (by omega)).trans P45.out)
      clear OMr
      obtain ⟨fz, hfz⟩ : ∃ fz, (wRun goes next s f (evs L)).2.2 = fz := ⟨_, rfl⟩
      rw [hfz] at PX
      have HFZ := Lib.hid hfz
      clear hfz
      have hvs : ∃ p n c, v = .slice p n c := by
        obtain ⟨p, c, h⟩ := own_slice OO.out
        exact ⟨p, _, c, h⟩
      go_wp2_with (first | refine wpList_gload rfl _ rfl g5 0 rfl (pcs v fz).toList PX.out.whole _ Tryd.underlying76 rfl (sizePl v fz) ?_ | refine wpList_gstore rfl _ _ rfl g4 rfl (pcs v fz) rfl _ _ P4r.out (sizeP _ _) (by rw [pcs_size, pcs_size]) (pcs_oneV fz hvs) ?_)
      intro w9 p9 g9
      have O9 := own_grown OO.out g9 (by have := P45.out.lt; omega)
      have II9 := TT.out.keep _ _ _ _ II.out g9 (by simp; omega)
      go_wp2
      refine past_ret rfl rfl rfl p9 ⟨v, K, by rw [HFZ.out], ⟨own_base O9 (by omega), fun x hx => ?_⟩, HEK.out, II9, ?_⟩
      · exact own_base (own_grown (TW.out.own (OM.out.gone x (HMM.out x hx)) (by omega) P55.out (by decide)) g9 (by have := P44.out.lt; omega)) hz4
      · exact ⟨g9.os.trans (TW.out.os.trans B5.out.os), g9.tape.trans (TW.out.tape.trans B5.out.tape), g9.output.trans (TW.out.output.trans B5.out.output), Nat.le_trans (Nat.le_trans B5.out.size TW.out.size) g9.size, fun k hk hne => by
          have h1 : k ≠ A := fun e => hne (by rw [e])
          rw [g9.block k (Nat.lt_of_lt_of_le hk (Nat.le_trans B5.out.size TW.out.size)) (by simp; omega), TW.out.block k (Nat.lt_of_lt_of_le hk B5.out.size) h1 (by omega)]
          exact B5.out.block k hk⟩
end Go.Proofs.YtffjbgbcaijlnaaDoor
