/- The statement DocsJoins, proved for every input that its row reads: part 46 of 54. -/
import Derived.Test.YtdnkhcbglmfjbaaDoorPackDocsJoins34
import Derived.Test.YtdnkhcbglmfjbaaDoorPackDocsJoins45
import Derived.Test.YtdnkhcbglmfjbaaDoorPackDocsJoins36
import Derived.Test.YtdnkhcbglmfjbaaDoorPackDocsJoins4
/- docs.Join of any two states. -/
namespace Go.Proofs.YtdnkhcbglmfjbaaDoor
open Go Go.RowKit
set_option linter.unusedVariables false
set_option maxRecDepth 1000000

section
variable {P : Program} {ops : Array Oper} {o : Oper} {a : Act} {w : World} {Q : Exit → Act → World → Prop} {S : World → Prop} {md : Region.Mode} {fuel : Nat} {listed : Array Bool}
theorem rg_callsJ {o2 : Oper} (i j : Nat) (d d2 : Option Tmp) (hr : Region.ready md ops listed = [i, j]) (hi : ops[i]? = some o) (hd : o.dst = d) (hw : Region.wanted o (yielded ops a.tmps) = true) (f : FuncId) (args : Array Value) {Post : Ending → World → Prop} (hrun : (execOp a.eval o).run P w = .ok (.enter f args) w) (hc : Calls P f args w Post)
    (hj : ops[j]? = some o2) (hd2 : o2.dst = d2) (hw2 : Region.wanted o2 (yielded ops a.tmps) = true) (f2 : FuncId) (args2 : Array Value) {Post2 : Ending → World → Prop} (hrun2 : (execOp a.eval o2).run P w = .ok (.enter f2 args2) w) (hc2 : Calls P f2 args2 w Post2)
    (h : ∀ e w', Post e w' → ∃ v, e = .returned v ∧ S w' ∧ wpAnyH P md ops Q S fuel (listed.setIfInBounds i true) (a.put d v) w')
    (h2 : ∀ e w', Post2 e w' → ∃ v, e = .returned v ∧ S w' ∧ wpAnyH P md ops Q S fuel (listed.setIfInBounds j true) (a.put d2 v) w') : wpAnyH P md ops Q S (fuel + 1) listed a w := by
  subst hd; subst hd2
  exact wpAnyH_all hr (by simp) fun k hk => by
    rcases List.mem_cons.1 hk with rfl | hk
    · exact wpOp_callG hi hw f args hrun hc fun e w' he => by obtain ⟨v, h1, h3, h4⟩ := h e w' he; exact ⟨v, h1, h3, h4⟩
    · obtain rfl := List.mem_singleton.1 hk
      exact wpOp_callG hj hw2 f2 args2 hrun2 hc2 fun e w' he => by obtain ⟨v, h1, h3, h4⟩ := h2 e w' he; exact ⟨v, h1, h3, h4⟩
end
theorem pair_cellsW (w : World) (u v : Value) (t : TypeId) : (w.alloc (.cells #[u, v] t)).cell? ⟨w.heap.size, 0, none⟩ = some u ∧ (w.alloc (.cells #[u, v] t)).cell? ⟨w.heap.size, 1, none⟩ = some v :=
  ⟨(cell_of_row _ w.heap.size 0 _ _ _ (heap_alloc_new w _)).trans rfl, (cell_of_row _ w.heap.size 1 _ _ _ (heap_alloc_new w _)).trans rfl⟩
theorem compare_tells : TellsW 20 #[] ltW where
  enter := fun args w => by kernel_rfl
  tell := fun x y w => by
    have h := docCompare_is x y w
    rw [show (#[.agg x.cells.toArray, .agg y.cells.toArray] ++ #[] : Array Value) = #[.agg x.cells.toArray, .agg y.cells.toArray] from rfl]
    refine h.mono ?_
    rintro e w' ⟨rfl, hb⟩
    exact ⟨_, rfl, rfl, hb⟩
/-- nothing is in order -/
theorem insNil (F : FuncId) (w : World) : Calls Tryd.prog 58 #[.slice none 0 0, .int .i64 0, .int .i64 0, .func (.func F) #[] #[]] w (fun e w' => e = .returned (.tuple #[]) ∧ w' = w) := by
  go_enter Tryd.func58, Tryd.ntmps58
  go_wp2
  go_loopw [8] (fun v wr => v = .int .i64 1 ∧ wr = w) (fun v _ => 0)
  case atStart => exact ⟨rfl, rfl⟩
  case round =>
    obtain ⟨rfl, hw⟩ := hrel
    subst wr
    go_wp2
    exact bodyPost_end (results_none rfl _ _ _) rfl ⟨rfl, rfl⟩
theorem stbNil (F : FuncId) (w : World) : Calls Tryd.prog 41 #[.slice none 0 0, .int .i64 0, .func (.func F) #[] #[]] w (fun e w' => e = .returned (.tuple #[]) ∧ w' = w) := by
  have HC := Lib.hid (insNil F w)
  go_enter Tryd.func41, Tryd.ntmps41
  go_wp2
  go_loopw [7, 8] (fun x y wr => x = .int .i64 0 ∧ y = .int .i64 20 ∧ wr = w) (fun _ y _ => 0)
  case atStart => exact ⟨rfl, rfl, rfl⟩
  case round =>
    obtain ⟨rfl, rfl, hw⟩ := hrel
    subst wr
    go_wp2_with fail
    refine HC.out.mono ?_
    rintro e w2 ⟨rfl, hw2⟩
    subst w2
    clear HC
    dsimp only
    go_wp2
    go_loopw [6] (fun x wr => x = .int .i64 20 ∧ wr = w) (fun x _ => 0)
    case atStart => exact ⟨rfl, rfl⟩
    case round =>
      obtain ⟨rfl, hw⟩ := hrel
      subst wr
      go_wp2
      exact bodyPost_end (results_none rfl _ _ _) rfl ⟨rfl, rfl⟩
theorem stsNil (F : FuncId) (w : World) : Calls Tryd.prog 19 #[.slice none 0 0, .func (.func F) #[] #[]] w (fun e w' => e = .returned (.tuple #[]) ∧ w' = w) := by
  have HC := Lib.hid (stbNil F w)
  go_enter Tryd.func19, Tryd.ntmps19
  go_wp2_with fail
  refine HC.out.mono ?_
  rintro e w2 ⟨rfl, hw2⟩
  subst w2
  clear HC
  dsimp only
  go_wp2
  exact bodyPost_end (results_none rfl _ _ _) rfl ⟨rfl, rfl⟩
/-- a row of one's own, or nothing, put in order -/
theorem stsAny (B : Nat) (p : Option Addr) (c : Nat) (L : List Wr) (w : World) (h : w.ownsRow B 34 6 (.slice p L.length c) L.length (wcl L)) (hn : L.length ≤ 1000000) (hB : B ≤ w.heap.size) :
    Calls Tryd.prog 19 #[.slice p L.length c, .func (.func 20) #[] #[]] w (fun e w' => e = .returned (.tuple #[]) ∧ w'.ownsRow B 34 6 (.slice p L.length c) L.length (wcl (isrt ltW L)) ∧ Below B w w') := by
  rcases h.2 with ⟨h0, h1⟩ | ⟨g, cap, cur, h0, hg, _⟩
  · injection h0 with h0 h2 h3
    subst h0
    obtain rfl := List.eq_nil_of_length_eq_zero h2
    subst h3
    refine (stsNil _ w).mono ?_
    rintro e w' ⟨rfl, rfl⟩
    exact ⟨rfl, h, Below.refl _ _⟩
  · injection h0 with h0 h2 h3
    subst h0
    subst h3
    refine (stsW_is ltW sw_W 20 #[] compare_tells B g c L w h hn).mono ?_
    rintro e w' ⟨rfl, hr, hgr⟩
    have e1 := isrt_len (lt := ltW) L
    unfold RowW at hr
    rw [e1] at hr
    exact ⟨rfl, hr, grown_below hgr hB hg⟩
def JoinR (w : World) (H : Nat → Int) (K : List Wr) (e : Ending) (w' : World) : Prop := ∃ v, e = .returned (.agg (scs H v)) ∧ w'.ownsRow w.heap.size 34 6 v K.length (wcl K) ∧ Below w.heap.size w w'
set_option maxHeartbeats 8000000 in
theorem docJoin_is (F G : Nat → Int) (p q : Option Addr) (c d : Nat) (L M : List Wr) (w : World) (h : WrsAt w p L) (ho : ∀ a, p = some a → ∃ b o, a = ⟨b, o, none⟩) (hn : L.length ≤ 1000) (h2 : WrsAt w q M) (ho2 : ∀ a, q = some a → ∃ b o, a = ⟨b, o, none⟩) (hn2 : M.length ≤ 1000) :
    Calls Tryd.prog 8 #[.agg (scs F (.slice p L.length c)), .agg (scs G (.slice q M.length d))] w (JoinR w (fun i => max (F i) (G i)) (joinL L M F G)) := by
  have HL1 := Lib.hid (fun (V : World) (hV : Below w.heap.size w V) => left_is F p c L G q d M V (h.below hV) ho (by omega) (h2.below hV) (by omega))
  have HL2 := Lib.hid (fun (V : World) (hV : Below w.heap.size w V) => left_is G q d M F p c L V (h2.below hV) ho2 (by omega) (h.below hV) (by omega))
  have hJL : joinL L M F G = isrt ltW (onceW (leftW L M G ++ leftW M L F)) := rfl
  rw [hJL]
  have lA := leftW_len L M G
  have lC := leftW_len M L F
  generalize leftW L M G = A at *
  generalize leftW M L F = C at *
  have lK := onceW_len (A ++ C)
  rw [List.length_append] at lK
  have VJ := Lib.hid (fun V : World => ownJoin_is F G V)
  generalize (fun i => max (F i) (G i)) = H at *
  clear h h2 ho ho2 hJL
  go_enter Tryd.func8, Tryd.ntmps8
  go_wp2_with (refine wpList_gbox rfl _ rfl (scs F (.slice p L.length c)) rfl ?_)
  intro g2 w1 l2 h2 hb1
  have S1 : Hid (Sx w1 g2 F (.slice p L.length c)) := Lib.hid h2
  have B1 := Lib.hid hb1
  clear h2 hb1
  go_wp2_with (refine wpList_gbox rfl _ rfl (scs G (.slice q M.length d)) rfl ?_)
  intro g3 w2 l3 h3 hb2
  have S2 := Lib.hid (S1.out.later hb2); have B2 := Lib.hid (thenBelow B1.out hb2)
  have T2 : Hid (Sx w2 g3 G (.slice q M.length d)) := Lib.hid h3
  clear h3 hb2 S1
  go_wp2_with (refine wpList_galloc _ zeroSt rfl rfl ?_)
  intro g4 w3 l4 h4 hb3
  have S3 := Lib.hid (S2.out.later hb3); have B3 := Lib.hid (thenBelow B2.out hb3)
  have T3 := Lib.hid (T2.out.later hb3)
  have Z3 : Hid (Sx w3 g4 (fun _ => 0) (.slice none 0 0)) := Lib.hid h4
  have lw4 : w.heap.size ≤ g4 := Nat.le_trans B2.out.size l4
  clear h4 hb3 S2 T2
  go_wp2_with fail
  generalize hQ : Exit.then _ _ = QX
  have KE : ∀ (p1 : Option Addr) (c1 : Nat) (p2 : Option Addr) (c2 gp : Nat) (p4 : Option Addr) (c4 : Nat) (p5 : Option Addr) (c5 : Nat) (V : World), V.ownsRow w3.drew.heap.size 34 6 (.slice p5 (onceW (A ++ C)).length c5) (onceW (A ++ C)).length (wcl (onceW (A ++ C))) → Below w3.drew.heap.size w3.drew V → QX .normal { tmps := #[.agg (scs F (.slice p L.length c)), .agg (scs G (.slice q M.length d)), .pointer (some ⟨g2, 0, none⟩), .pointer (some ⟨g3, 0, none⟩), .pointer (some ⟨g4, 0, none⟩), .slice p5 (onceW (A ++ C)).length c5, .agg (scs F (.slice p L.length c)), .agg (scs G (.slice q M.length d)), .slice p1 A.length c1, .agg (scs G (.slice q M.length d)), .agg (scs F (.slice p L.length c)), .slice p2 C.length c2, .slice (some ⟨gp, 0, none⟩) 2 2, .slice p4 (A ++ C).length c4, .slice p5 (onceW (A ++ C)).length c5, undef, undef, undef, undef, undef, undef, undef, undef, undef], defers := [] } V := by
    intro p1 c1 p2 c2 gp p4 c4 p5 c5 V o5 b5
    rw [← hQ]
    clear hQ
    simp only [Exit.then]
    have S5 : Hid (Sx V g2 F (.slice p L.length c)) := Lib.hid (Sx.later (w := w3.drew) S3.out b5)
    have T5 : Hid (Sx V g3 G (.slice q M.length d)) := Lib.hid (Sx.later (w := w3.drew) T3.out b5)
    have Z5 : Hid (Sx V g4 (fun _ => 0) (.slice none 0 0)) := Lib.hid (Sx.later (w := w3.drew) Z3.out b5)
    have B5 := Lib.hid (thenBelow B3.out (fromD b5))
    have o5' := own_base o5 (show w3.heap.size ≤ w3.drew.heap.size from Nat.le_refl _)
    have SO := Lib.hid (stsAny w3.heap.size p5 c5 _ V o5' (by omega) (fromD b5).size)
    have z3 : w3.heap.size ≤ V.heap.size := (fromD b5).size
    clear o5 o5' b5
    generalize onceW (A ++ C) = K at *
    clear HL1 HL2 lA lC
    go_wp2_with fail
    refine SO.out.mono ?_
    rintro e w6 ⟨rfl, o6, b6⟩
    have S6 : Hid (Sx w6 g2 F (.slice p L.length c)) := Lib.hid ((b6.block g2 S3.out.lt).trans S5.out)
    have T6 : Hid (Sx w6 g3 G (.slice q M.length d)) := Lib.hid ((b6.block g3 T3.out.lt).trans T5.out)
    have Z6 : Hid (Sx w6 g4 (fun _ => 0) (.slice none 0 0)) := Lib.hid ((b6.block g4 Z3.out.lt).trans Z5.out)
    have B6 := Lib.hid (B5.out.trans (b6.mono B3.out.size))
    have O6 : Hid (w6.ownsRow w.heap.size 34 6 (.slice p5 K.length c5) K.length (wcl (isrt ltW K))) := Lib.hid (own_base o6 B3.out.size)
    have SV := Lib.hid (S6.out.vec)
    clear o6 b6 SO S5 T5 Z5
    dsimp only
    have TV := Lib.hid (T6.out.vec)
    go_wp2_with (first | refine wpList_gload rfl _ rfl g2 0 rfl _ SV.out _ Tryd.underlying23 rfl (sizeVcl F) ?_ | refine wpList_gload rfl _ rfl g3 0 rfl _ TV.out _ Tryd.underlying23 rfl (sizeVcl G) ?_)
    refine (VJ.out w6).mono ?_
    rintro e w7 ⟨rfl, b7⟩
    have Z7 := Lib.hid (Z6.out.later b7); have B7 := Lib.hid (thenBelow B6.out b7); have O7 := Lib.hid (own_later O6.out b7)
    clear b7 SV TV VJ
    go_wp2_with (first | refine wpList_pbuild (by rfl) _ rfl (scs H (.slice p5 K.length c5)) (by simp only [List.map_toArray, List.map_cons, List.map_nil]; exact builtSt H _ _ _ _) ?_ | refine wpList_gstore rfl _ _ rfl g4 rfl (scs H (.slice p5 K.length c5)) rfl _ _ Z7.out (sizeSt _ _) (by rw [scs_size, scs_size]) (scs_one H rfl) ?_)
    intro w9 h9 g9
    have H9 := Lib.hid h9
    have O9 := Lib.hid (own_keepT O7.out Z7.out (by decide) g9)
    have B9 := Lib.hid (B7.out.trans (grown_below g9 B7.out.size lw4))
    clear h9 g9
    go_wp2
    exact bodyPost_ret (v := .agg (scs H (.slice p5 K.length c5))) (results_cell_row rfl _ w9 g4 _ _ (0, 0) _ rfl H9.out Tryd.underlying26 rfl (sizeSt _ _)) rfl ⟨_, rfl, by rw [isrt_len]; exact O9.out, B9.out⟩
  have SF : ∀ V : World, Below w3.drew.heap.size w3.drew V → Sx V g2 F (.slice p L.length c) := fun V hV => Sx.later (w := w3.drew) S3.out hV
  have SG : ∀ V : World, Below w3.drew.heap.size w3.drew V → Sx V g3 G (.slice q M.length d) := fun V hV => Sx.later (w := w3.drew) T3.out hV
  have b0 := Below.refl w3.drew.heap.size w3.drew
  refine rg_last (by kernel_rfl) rfl (S := fun U => Below w3.drew.heap.size w3.drew U) ?_
  refine rgd_pureS 0 (some 6) rfl rfl (.agg (scs F (.slice p L.length c))) (by kernel_rfl) (by kernel_rfl) (by kernel_rfl) (fun _ _ _ _ h => h) (by kernel_rfl) (fun U hU => exec_gload 26 _ rfl g2 0 (by kernel_rfl) _ (SF U hU).whole Tryd.underlying26 rfl (sizeStl _ _)) b0 ?_
  refine rgd_pureS 1 (some 7) rfl rfl (.agg (scs G (.slice q M.length d))) (by kernel_rfl) (by kernel_rfl) (by kernel_rfl) (fun _ _ _ _ h => h) (by kernel_rfl) (fun U hU => exec_gload 26 _ rfl g3 0 (by kernel_rfl) _ (SG U hU).whole Tryd.underlying26 rfl (sizeStl _ _)) b0 ?_
  refine rgd_pureS 3 (some 9) rfl rfl (.agg (scs G (.slice q M.length d))) (by kernel_rfl) (by kernel_rfl) (by kernel_rfl) (fun _ _ _ _ h => h) (by kernel_rfl) (fun U hU => exec_gload 26 _ rfl g3 0 (by kernel_rfl) _ (SG U hU).whole Tryd.underlying26 rfl (sizeStl _ _)) b0 ?_
  refine rgd_pureS 4 (some 10) rfl rfl (.agg (scs F (.slice p L.length c))) (by kernel_rfl) (by kernel_rfl) (by kernel_rfl) (fun _ _ _ _ h => h) (by kernel_rfl) (fun U hU => exec_gload 26 _ rfl g2 0 (by kernel_rfl) _ (SF U hU).whole Tryd.underlying26 rfl (sizeStl _ _)) b0 ?_
  refine rgd_call 2 (some 8) (by kernel_rfl) rfl rfl (by kernel_rfl) 18 (#[.agg (scs F (.slice p L.length c)), .agg (scs G (.slice q M.length d))]) (by kernel_rfl) (HL1.out _ (thenBelow B3.out (fromD b0))) ?_
  rintro e U1 ⟨v1, rfl, o1, b1⟩
  obtain ⟨p1, c1, rfl, _, W1, _, N1⟩ := own_wat0 o1
  refine ⟨_, rfl, b1, ?_⟩
  refine rgd_call 5 (some 11) (by kernel_rfl) rfl rfl (by kernel_rfl) 18 (#[.agg (scs G (.slice q M.length d)), .agg (scs F (.slice p L.length c))]) (by kernel_rfl) (HL2.out _ (thenBelow B3.out (fromD b1))) ?_
  rintro e U2 ⟨v2, rfl, o2, b2⟩
  obtain ⟨p2, c2, rfl, _, W2, _, N2⟩ := own_wat0 o2
  have SU2 := thenBelow b1 b2
  have W1 := W1.below b2
  refine ⟨_, rfl, SU2, ?_⟩
  have B3 := thenBelow (show Below w3.drew.heap.size w3.drew U2 from SU2) (below_alloc U2 (.cells #[.slice p1 A.length c1, .slice p2 C.length c2] 24))
  have pr := pair_cellsW U2 (.slice p1 A.length c1) (.slice p2 C.length c2) 24
  have b4 := below_alloc U2 (.cells #[.slice p1 A.length c1, .slice p2 C.length c2] 24)
  refine rgd_run 6 (some 12) (by kernel_rfl) rfl rfl (by kernel_rfl) (.slice (some ⟨U2.heap.size, 0, none⟩) 2 2) (U2.alloc (.cells #[.slice p1 A.length c1, .slice p2 C.length c2] 24)) (by kernel_rfl) B3 ?_
  obtain ⟨gp, hgp⟩ : ∃ gp, gp = U2.heap.size := ⟨_, rfl⟩
  rw [← hgp] at pr ⊢
  generalize U2.alloc (.cells #[.slice p1 A.length c1, .slice p2 C.length c2] 24) = U3 at pr b4 B3 ⊢
  refine rgd_call 7 (some 13) (by kernel_rfl) rfl rfl (by kernel_rfl) 17 #[.slice (some ⟨gp, 0, none⟩) 2 2] (by kernel_rfl) (concatW gp 2 c1 c2 p1 p2 A C U3 (W1.below b4) (W2.below b4) N1 N2 (by omega) pr.1 pr.2) ?_
  rintro e U4 ⟨v4, rfl, o4, b5⟩
  obtain ⟨p4, c4, rfl, _, W4, _, _⟩ := own_wat0 o4
  have B4 := thenBelow B3 b5
  refine ⟨_, rfl, B4, ?_⟩
  refine rgd_call 8 (some 14) (by kernel_rfl) rfl rfl (by kernel_rfl) 16 #[.slice p4 (A ++ C).length c4] (by kernel_rfl) (once_is p4 c4 (A ++ C) U4 W4 (by rw [List.length_append]; omega)) ?_
  rintro e U5 ⟨v5, rfl, o5, b6⟩
  obtain ⟨p5, c5, rfl⟩ := own_slice o5
  have B5 := thenBelow B4 b6
  refine ⟨_, rfl, B5, ?_⟩
  refine rgd_pure 9 (some 5) rfl rfl (.slice p5 (onceW (A ++ C)).length c5) (by kernel_rfl) (by kernel_rfl) (by kernel_rfl) (fun _ _ _ _ h => h) (by kernel_rfl) (fun w => by kernel_rfl) B5 ?_
  exact wpAnyH_done (by kernel_rfl) (Eq.mp (by kernel_rfl) (KE p1 c1 p2 c2 gp p4 c4 p5 c5 U5 (own_base o5 B4.size) B5)) _
end Go.Proofs.YtdnkhcbglmfjbaaDoor
