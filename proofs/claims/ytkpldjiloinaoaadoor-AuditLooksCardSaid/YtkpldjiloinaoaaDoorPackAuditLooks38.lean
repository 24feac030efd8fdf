/- The statement AuditLooks, proved for every input that its row reads: part 38 of 54. -/
import Derived.Test.YtkpldjiloinaoaaDoorPackAuditLooks37
import Derived.Deep.CutBlock
import Derived.Deep.DeepCutAuto
import Derived.Test.YtkpldjiloinaoaaDoorPackAuditLooks33
/- The front of any state, made. -/
namespace Go.Proofs.YtkpldjiloinaoaaDoor
open Go Go.RowKit
set_option linter.unusedVariables false
set_option maxRecDepth 1000000

theorem builtAG (F : Nat → Int) (r1 r2 r3 : Nat) (w : World) : (Instr.build 68 #[(0, .agg (vf F)), (1, .map (some r1)), (2, .map (some r2)), (3, .map (some r3))]).run Tryd.prog w = .ok (.agg (acg F r1 r2 r3)) w := run_build w _ _ _ (by kernel_rfl)
theorem wrb_dot {w : World} {g : Nat} {r n t f : Int} {d x : ByteArray} {T : TypeId} {m : Nat × Nat} (h : w.heap[g]? = some (.cells #[.int .i64 r, .int .i64 n, .int .i64 t, .string d, .int .i64 f, .string x] T m)) : w.rangeAt g 0 (dcs r n).toList := fun j u hu => by
  have h := range_of_block h
  match j, hu with
  | 0, hu => exact h 0 u hu
  | 1, hu => exact h 1 u hu
def BeginG (w : World) (F : Nat → Int) (S : List Dt) (e : Ending) (w' : World) : Prop := ∃ A r1 r2 r3, e = .returned (.pointer (some ⟨A, 0, none⟩)) ∧ Frg w' A r1 r2 r3 F S [] ∧ w.heap.size ≤ A ∧ w.heap.size ≤ r1 ∧ w.heap.size ≤ r2 ∧ w.heap.size ≤ r3 ∧ r1 ≠ r2 ∧ r1 ≠ r3 ∧ r2 ≠ r3 ∧ Below w.heap.size w w'
set_option maxHeartbeats 400000 in
theorem beginG_is (F : Nat → Int) (p : Option Addr) (c : Nat) (L : List Wr) (w : World) (hL : WrsAt w p L) (hn : L.length ≤ 10000) : Calls Tryd.prog 15 #[.agg (scs F (.slice p L.length c))] w (BeginG w F (dotsW L)) := by
  have HW := Lib.hid hL
  clear hL
  go_enter Tryd.func15, Tryd.ntmps15
  go_wp2_with (refine wpList_gbox rfl _ rfl (scs F (.slice p L.length c)) rfl ?_)
  intro g1 w1 l1 h1 hb1
  have S1 : Hid (Sx w1 g1 F (.slice p L.length c)) := Lib.hid h1
  have B1 := Lib.hid hb1
  clear h1 hb1
  have V1 := Lib.hid S1.out.vec
  have m1 := mkDots w1
  have m2 := mkDots (w1.alloc (.map #[] 0))
  have m3 := mkInts ((w1.alloc (.map #[] 0)).alloc (.map #[] 0))
  have BA := Lib.hid (builtAG F)
  have hs1 : (w1.alloc (.map #[] 0)).heap.size = w1.heap.size + 1 := by simp
  have hs2 : ((w1.alloc (.map #[] 0)).alloc (.map #[] 0)).heap.size = w1.heap.size + 2 := by simp
  have q1 := below_alloc w1 (.map #[] 0)
  have q2 := below_alloc (w1.alloc (.map #[] 0)) (.map #[] 0)
  have q3 := below_alloc ((w1.alloc (.map #[] 0)).alloc (.map #[] 0)) (.map #[] 0)
  have M3 : Hid (DSet (((w1.alloc (.map #[] 0)).alloc (.map #[] 0)).alloc (.map #[] 0)) w1.heap.size [] ∧ DSet (((w1.alloc (.map #[] 0)).alloc (.map #[] 0)).alloc (.map #[] 0)) (w1.heap.size + 1) [] ∧ (((w1.alloc (.map #[] 0)).alloc (.map #[] 0)).alloc (.map #[] 0)).heap[w1.heap.size + 2]? = some (.map (ents []).toArray 0) ∧ Below w1.heap.size w1 (((w1.alloc (.map #[] 0)).alloc (.map #[] 0)).alloc (.map #[] 0))) := Lib.hid ⟨((dset_new w1).later q2).later q3, by have := (dset_new (w1.alloc (.map #[] 0))).later q3; rw [hs1] at this; exact this, by have := heap_alloc_new ((w1.alloc (.map #[] 0)).alloc (.map #[] 0)) (.map #[] 0); rw [hs2] at this; exact this, thenBelow (thenBelow q1 q2) q3⟩
  clear q1 q2 q3 hs1 hs2
  go_wp2_with (first | refine wpList_gload (t := 23) rfl _ rfl g1 0 rfl _ V1.out _ Tryd.underlying23 rfl (sizeVcl _) ?_ | refine wpList_pbuild (by rfl) _ rfl (acg F w1.heap.size (w1.heap.size + 1) (w1.heap.size + 2)) (by simp only [List.map_toArray, List.map_cons, List.map_nil]; exact BA.out _ _ _ _) ?_ | refine wpList_gbox rfl _ rfl (acg F w1.heap.size (w1.heap.size + 1) (w1.heap.size + 2)) rfl ?_)
  intro A w5 lA hA hbA
  clear m1 m2 m3 BA V1
  have sz4 : (((w1.alloc (.map #[] 0)).alloc (.map #[] 0)).alloc (.map #[] 0)).heap.size = w1.heap.size + 1 + 1 + 1 := by simp
  have lw := B1.out.size
  generalize ((w1.alloc (.map #[] 0)).alloc (.map #[] 0)).alloc (.map #[] 0) = w4 at M3 lA hbA sz4
  rw [← sz4] at lA hbA
  clear sz4
  have F5 : Hid (Frg w5 A w1.heap.size (w1.heap.size + 1) (w1.heap.size + 2) F [] []) := Lib.hid ⟨hA, M3.out.1.later hbA, M3.out.2.1.later hbA, [], 0, (hbA.block _ (Array.getElem?_eq_some_iff.1 M3.out.2.2.1).1).trans M3.out.2.2.1, LastM.nil⟩
  have lA' : w.heap.size ≤ A := Nat.le_trans lw (Nat.le_trans M3.out.2.2.2.size lA)
  have S5 := Lib.hid ((S1.out.later M3.out.2.2.2).later hbA)
  have B5 := Lib.hid (thenBelow (thenBelow B1.out M3.out.2.2.2) hbA)
  have k64 := S5.out.slot
  generalize w1.heap.size = H1 at F5 lw
  clear hA hbA M3 S1 B1 S5
  go_wp2
  clear k64
  go_loopw [16] (fun i wr => ∃ k : Nat, k ≤ L.length ∧ i = .int .i64 k ∧ Frg wr A H1 (H1 + 1) (H1 + 2) F (dotsW (L.take k)) [] ∧ Below w.heap.size w wr) (fun i _ => L.length - (RowKit.intOf i).toNat)
  case atStart => exact ⟨0, Nat.zero_le _, rfl, F5.out, B5.out⟩
  case round =>
    obtain ⟨k, hk, rfl, fr, hb⟩ := hrel
    clear F5 B5
    have FR := Lib.hid fr; have BR := Lib.hid hb
    clear fr hb
    by_cases hkl : k < L.length
    · have hkl' : (k : Int) < L.length := by omega
      have TK := Lib.hid (dotsW_take L k hkl)
      obtain ⟨b, o, rfl, hlt, hq⟩ := (HW.out.below BR.out).at hkl
      obtain ⟨y, hy⟩ : ∃ y, L[k] = y := ⟨_, rfl⟩
      rw [hy] at hq TK
      obtain ⟨c0, c1, c2, c3, c4, c5⟩ := wr_cells hq
      clear hq hy
      obtain ⟨yr, yn, yt, yd, yf, ytx⟩ := y
      simp only at c0 c1 c2 c3 c4 c5 TK
      have ba := below_alloc wr (.cells #[.int .i64 yr, .int .i64 yn, .int .i64 yt, .string yd, .int .i64 yf, .string ytx] 44)
      have na := heap_alloc_new wr (.cells #[.int .i64 yr, .int .i64 yn, .int .i64 yt, .string yd, .int .i64 yf, .string ytx] 44)
      have FA := Lib.hid (FR.out.later ba); have BA := Lib.hid (thenBelow BR.out ba); have DA := Lib.hid na
      clear ba na FR
      go_upto_region 5 with fail
      clear c0 c1 c2 c3 c4 c5
      generalize wr.alloc (.cells #[.int .i64 yr, .int .i64 yn, .int .i64 yt, .string yd, .int .i64 yf, .string ytx] 44) = U0 at FA BA DA ⊢
      generalize wr.heap.size = G5 at DA ⊢
      go_wp2_with fail
      rename_i K3 hK3
      have bd : Below U0.heap.size U0 U0.drew := to_drew (Below.refl _ _)
      have d0 : DSet U0.drew H1 (dotsW (L.take k)) := FA.out.live.later (w := U0) bd
      obtain ⟨U2, up, ds2, gr⟩ := run_dput d0 (yr, yn)
      have k0 : U0.drew.heap[A]? = some (.cells (acg F H1 (H1 + 1) (H1 + 2)) 68 (0, 0)) ∧ (∃ D, DSet U0.drew H1 D) ∧ U0.drew.heap[G5]? = some (.cells #[.int .i64 yr, .int .i64 yn, .int .i64 yt, .string yd, .int .i64 yf, .string ytx] 44) := ⟨FA.out.blk, ⟨_, d0⟩, DA.out⟩
      have nA : A ≠ H1 := fun e => by have h1 := k0.1; obtain ⟨l, c, h2, _⟩ := d0; rw [e, h2] at h1; cases h1
      have nG : G5 ≠ H1 := fun e => by have h1 := k0.2.2; obtain ⟨l, c, h2, _⟩ := d0; rw [e, h2] at h1; cases h1
      refine rg_last (by kernel_rfl) rfl (S := fun U => U.heap[A]? = some (.cells (acg F H1 (H1 + 1) (H1 + 2)) 68 (0, 0)) ∧ (∃ D, DSet U H1 D) ∧ U.heap[G5]? = some (.cells #[.int .i64 yr, .int .i64 yn, .int .i64 yt, .string yd, .int .i64 yf, .string ytx] 44)) ?_
      refine rgd_pure 0 (some 20) rfl rfl (.pointer (some ⟨A, 0, none⟩)) (by kernel_rfl) (by kernel_rfl) (by kernel_rfl) (fun _ _ _ _ h => h) (by kernel_rfl) (fun w => by kernel_rfl) k0 ?_
      refine rgd_pure 1 (some 21) rfl rfl (.pointer (some ⟨A, 0, none⟩)) (by kernel_rfl) (by kernel_rfl) (by kernel_rfl) (fun _ _ _ _ h => h) (by kernel_rfl) (fun w => by kernel_rfl) k0 ?_
      refine rgd_pure 2 (some 22) rfl rfl (.pointer (some ⟨A, 64, none⟩)) (by kernel_rfl) (by kernel_rfl) (by kernel_rfl) (fun _ _ _ _ h => h) (by kernel_rfl) (fun w => by kernel_rfl) k0 ?_
      refine rgd_pure 4 (some 24) rfl rfl (.pointer (some ⟨G5, 0, none⟩)) (by kernel_rfl) (by kernel_rfl) (by kernel_rfl) (fun _ _ _ _ h => h) (by kernel_rfl) (fun w => by kernel_rfl) k0 ?_
      refine rgd_pure 6 (some 26) rfl rfl (.agg #[]) (by kernel_rfl) (by kernel_rfl) (by kernel_rfl) (fun _ _ _ _ h => h) (by kernel_rfl) (fun w => by kernel_rfl) k0 ?_
      refine rgd_pureS 3 (some 23) rfl rfl (.map (some H1)) (by kernel_rfl) (by kernel_rfl) (by kernel_rfl) (fun _ _ _ _ h => h) (by kernel_rfl) (fun U hU => exec_load1 _ _ rfl Tryd.underlying65 rfl ⟨A, 64, none⟩ _ (by kernel_rfl) (acg_at hU.1 0)) k0 ?_
      refine rgd_pureS 5 (some 25) rfl rfl (.agg (dcs yr yn)) (by kernel_rfl) (by kernel_rfl) (by kernel_rfl) (fun _ _ _ _ h => h) (by kernel_rfl) (fun U hU => exec_gload 37 _ rfl G5 0 (by kernel_rfl) (dcs yr yn).toList (wrb_dot hU.2.2) Tryd.underlying37 rfl (sizeDtA _ _)) k0 ?_
      have a2 := (gr.block A (Array.getElem?_eq_some_iff.1 k0.1).1 (by simpa using nA)).trans k0.1
      have g2 := (gr.block G5 (Array.getElem?_eq_some_iff.1 k0.2.2).1 (by simpa using nG)).trans k0.2.2
      refine rgd_do 7 none (by kernel_rfl) rfl rfl (by kernel_rfl) U2 (exec_putR 65 _ _ _ rfl (.map (some H1)) (.agg (dcs yr yn)) (.agg #[]) (by kernel_rfl) (by kernel_rfl) (by kernel_rfl) up) ⟨a2, ⟨_, ds2⟩, g2⟩ ?_
      have FF : Hid (Frg U2 A H1 (H1 + 1) (H1 + 2) F (dotsW (L.take (k + 1))) []) := Lib.hid (by
        obtain ⟨ml', c', hl', hm'⟩ := FA.out.last
        rw [TK.out]
        exact ⟨a2, ds2, (FA.out.met.later (w := U0) bd).kept gr (by simp), ml', c', (gr.block (H1 + 2) (Array.getElem?_eq_some_iff.1 (show U0.drew.heap[H1 + 2]? = _ from hl')).1 (by simp)).trans hl', hm'⟩)
      have BF : Hid (Below w.heap.size w U2) := Lib.hid ((BA.out.trans (bd.mono BA.out.size)).trans (grown_below gr (Nat.le_trans BA.out.size bd.size) lw))
      clear k0 nA nG d0 up ds2 gr a2 g2 bd FA BA DA
      have KE : K3 { tmps := #[.agg (scs F (.slice (some ⟨b, o, none⟩) L.length c)), .pointer (some ⟨g1, 0, none⟩), .pointer none, .pointer (some ⟨A, 0, none⟩), undef, .pointer (some ⟨G5, 0, none⟩), .pointer (some ⟨g1, 0, none⟩), .agg (vf F), .map (some H1), .map (some (H1 + 1)), .map (some (H1 + 1 + 1)), .agg (acg F H1 (H1 + 1) (H1 + 2)), .pointer (some ⟨A, 0, none⟩), .pointer (some ⟨g1, 64, none⟩), .slice (some ⟨b, o, none⟩) L.length c, .int .i64 L.length, .int .i64 k, .bool true, .pointer (some ⟨b, o + k * 6, none⟩), .agg #[.int .i64 yr, .int .i64 yn, .int .i64 yt, .string yd, .int .i64 yf, .string ytx], .pointer (some ⟨A, 0, none⟩), .pointer (some ⟨A, 0, none⟩), .pointer (some ⟨A, 64, none⟩), .map (some H1), .pointer (some ⟨G5, 0, none⟩), .agg (dcs yr yn), .agg #[], u27, undef], defers := [] } U2 := by
        refine hK3 _ _ ?_
        clear hK3
        go_wp2
        go_roundw
        case rel => exact ⟨k + 1, by omega, by simp, FF.out, BF.out⟩
        case measure => simp [intOf]; omega
      exact wpAnyH_done (by kernel_rfl) (Eq.mp (by kernel_rfl) KE) _
    · obtain rfl : k = L.length := by omega
      have hkl' : ¬ ((L.length : Nat) : Int) < L.length := by omega
      rw [List.take_length] at FR
      go_wp2
      go_ret
      exact ⟨A, _, _, _, rfl, FR.out, lA', lw, by omega, by omega, by omega, by omega, by omega, BR.out⟩
end Go.Proofs.YtkpldjiloinaoaaDoor
/- What Look tells of any state and past, plain; the row of troubles. -/
namespace Go.Proofs.YtkpldjiloinaoaaDoor
open Go Go.RowKit
set_option linter.unusedVariables false
set_option maxRecDepth 1000000

abbrev Tr := Int × Int × Int
def trV (t : Tr) : List Value := [.int .i64 t.1, .int .i64 t.2.1, .int .i64 t.2.2]
def trs (l : List Tr) : List Value := l.flatMap trV
theorem trs_snoc (l : List Tr) (t : Tr) : trs (l ++ [t]) = trs l ++ trV t := by simp [trs]
theorem trs_nil : trs [] = [] := rfl
noncomputable def evT (F : Nat → Int) (S M : List Dt) (e : Ev) : List Tr := (kindL (kindsOf F S M e)).map fun k => (k, e.rep, e.n)
noncomputable def evsT (F : Nat → Int) (S : List Dt) : List Dt → List EvP → List Tr
  | _, [] => []
  | M, x :: E => evT F S M x.e ++ evsT F S (M ++ [(x.e.rep, x.e.n)]) E
theorem evsT_snoc (F : Nat → Int) (S : List Dt) (x : EvP) : ∀ (E : List EvP) (M : List Dt), evsT F S M (E ++ [x]) = evsT F S M E ++ evT F S (M ++ dotsE E) x.e
  | [], M => by simp [evsT, dotsE]
  | y :: E, M => by
    rw [List.cons_append, evsT, evsT, evsT_snoc F S x E, List.append_assoc]
    simp [dotsE]
theorem evsT_take (F : Nat → Int) (S : List Dt) (E : List EvP) (k : Nat) (h : k < E.length) : evsT F S [] (E.take (k + 1)) = evsT F S [] (E.take k) ++ evT F S (dotsE (E.take k)) E[k].e := by
  rw [List.take_succ_eq_append_getElem h, evsT_snoc, List.nil_append]
theorem kindL_le (F : Nat → Int) (S M : List Dt) (e : Ev) : (kindL (kindsOf F S M e)).length ≤ 6 := by
  rw [kindL, List.length_map]
  exact Nat.le_trans (List.length_filter_le _ _) (by simp [kindsOf])
theorem evT_len (F : Nat → Int) (S M : List Dt) (e : Ev) : (evT F S M e).length = (kindL (kindsOf F S M e)).length := List.length_map ..
theorem evsT_len (F : Nat → Int) (S : List Dt) : ∀ (E : List EvP) (M : List Dt), (evsT F S M E).length ≤ 6 * E.length
  | [], M => Nat.zero_le _
  | x :: E, M => by
    have h1 := evsT_len F S E (M ++ [(x.e.rep, x.e.n)])
    have h2 := kindL_le F S M x.e
    rw [evsT, List.length_append, evT_len, List.length_cons]
    omega
theorem evT_take (F : Nat → Int) (S M : List Dt) (e : Ev) (j : Nat) (h : j < (kindL (kindsOf F S M e)).length) : (evT F S M e).take (j + 1) = (evT F S M e).take j ++ [((kindL (kindsOf F S M e)).getD j 0, e.rep, e.n)] := by
  have h' : j < (evT F S M e).length := by rw [evT_len]; exact h
  rw [List.take_succ_eq_append_getElem h']
  congr 1
  simp [evT, List.getElem?_eq_getElem h]
noncomputable def headT (F : Nat → Int) (L : List Wr) (fl : Nat → Int) : List Tr := (if canB F L then [] else [((1 : Int), (0 : Int), (0 : Int))]) ++ (if vle fl F then [] else [((7 : Int), (0 : Int), (0 : Int))])
noncomputable def lookT (F : Nat → Int) (L : List Wr) (fl : Nat → Int) (E : List EvP) : List Tr := headT F L fl ++ evsT F (dotsW L) [] E
theorem headT_len (F : Nat → Int) (L : List Wr) (fl : Nat → Int) : (headT F L fl).length ≤ 2 := by
  unfold headT; cases canB F L <;> cases vle fl F <;> simp
/-- nothing but troubles has turned -/
def StayT (w w' : World) : Prop := w.heap.size ≤ w'.heap.size ∧ ∀ g, g < w.heap.size → (∀ cs m, w.heap[g]? ≠ some (.cells cs 39 m)) → w'.heap[g]? = w.heap[g]?
theorem StayT.refl (w : World) : StayT w w := ⟨Nat.le_refl _, fun _ _ _ => rfl⟩
theorem StayT.trans {a b c : World} (h : StayT a b) (k : StayT b c) : StayT a c :=
  ⟨Nat.le_trans h.1 k.1, fun g hg hn => (k.2 g (Nat.lt_of_lt_of_le hg h.1) (fun cs m => by rw [h.2 g hg hn]; exact hn cs m)).trans (h.2 g hg hn)⟩
theorem StayT.of_below {w w' : World} (h : Below w.heap.size w w') : StayT w w' := ⟨h.size, fun g hg _ => h.block g hg⟩
theorem StayT.cells {w w' : World} (h : StayT w w') {g : Nat} {cs : Array Value} {ty : TypeId} {m : Nat × Nat} (hg : w.heap[g]? = some (.cells cs ty m)) (hne : ty ≠ 39) : w'.heap[g]? = some (.cells cs ty m) := by
  rw [h.2 g (Array.getElem?_eq_some_iff.1 hg).1 (fun cs' m' e => hne (by rw [hg] at e; cases e; rfl))]; exact hg
theorem StayT.map {w w' : World} (h : StayT w w') {g : Nat} {es : Array MapEntry} {c : Nat} (hg : w.heap[g]? = some (.map es c)) : w'.heap[g]? = some (.map es c) := by
  rw [h.2 g (Array.getElem?_eq_some_iff.1 hg).1 (fun cs' m' e => by rw [hg] at e; cases e)]; exact hg
theorem StayT.dset {w w' : World} (h : StayT w w') {r : Nat} {S : List Dt} (hd : DSet w r S) : DSet w' r S := by
  obtain ⟨l, c, hl, hm⟩ := hd
  exact ⟨l, c, h.map hl, hm⟩
theorem StayT.frg {w w' : World} (h : StayT w w') {A r1 r2 r3 : Nat} {F : Nat → Int} {S M : List Dt} (hf : Frg w A r1 r2 r3 F S M) : Frg w' A r1 r2 r3 F S M := by
  obtain ⟨ml, c, hl, hm⟩ := hf.last
  exact ⟨h.cells hf.blk (by decide), h.dset hf.live, h.dset hf.met, ml, c, h.map hl, hm⟩
theorem StayT.own {w w' : World} (h : StayT w w') {B : Nat} {e : TypeId} {k n : Nat} {v : Value} {xs : List Value} (ho : w.ownsRow B e k v n xs) (hne : e ≠ 39) : w'.ownsRow B e k v n xs := by
  refine ⟨ho.1, ?_⟩
  rcases ho.2 with q | ⟨g, cap, cur, rfl, hB, hc, q⟩
  · exact .inl q
  · exact .inr ⟨g, cap, cur, rfl, hB, h.cells hc hne, q⟩
theorem StayT.sx {w w' : World} (h : StayT w w') {g : Nat} {f : Nat → Int} {v : Value} (hs : Sx w g f v) : Sx w' g f v := h.cells hs (by decide)
theorem StayT.px {w w' : World} (h : StayT w w') {g : Nat} {f : Nat → Int} {v : Value} (hs : Px w g v f) : Px w' g v f := h.cells hs (by decide)
section
variable {ops : Array Oper} {rest : List Oper} {o : Oper} {a : Act} {Q : Exit → Act → World → Prop}
/-- one trouble more; whatever else there is, stays -/
theorem wpList_trS (w : World) (hg : o.guard = none) (s x : Operand) (ho : o.op = .call { callee := .builtin .append, args := #[s, x], argTypes := #[30, 30] })
    (B n : Nat) (xs : List Value) (v : Value) (hs : a.eval s = v) (hown : w.ownsRow B 39 3 v n xs) (cs : List Value) (h3 : cs.length = 3) (h1 : ∀ u ∈ cs, u.oneCell' = true) (hx : a.eval x = .slice (some ⟨w.heap.size, 0, none⟩) 1 1)
    (hlen : n + 1 ≤ 1000000) (hB : B ≤ w.heap.size)
    (h : ∀ v' w', w'.ownsRow B 39 3 v' (n + 1) (xs ++ cs) → Below B w w' → StayT w w' → wpList Tryd.prog ops Q rest (a.put o.dst v') w') : wpList Tryd.prog ops Q (o :: rest) a (w.alloc (.cells cs.toArray 39)) := by
  obtain ⟨i0, hi, hz0, hz1, hz2⟩ := info_parts infoTr
  refine wpList_append_own _ hg s x 30 ho B 39 i0 _ 3 24 Tryd.underlying30 hi hz0 hz1 hz2 rfl (by decide) v n xs hs (hown.alloc _) ⟨w.heap.size, 0, none⟩ 1 1 cs hx (by rw [h3]) ?_ h1 (by unfold maxLen; omega) (by omega) (by simp; omega) ?_
  · intro j u hu
    rw [Addr.add_mid]
    exact range_of_block (heap_alloc_new w (.cells cs.toArray 39)) j u hu
  · intro v' w' q1 q2 _
    refine h v' w' q1 (((Below.refl B w).alloc hB _).grown q2 (by simp; omega) (fun k hk => (hown.lt k hk).1)) ⟨Nat.le_trans (below_alloc w _).size q2.size, fun g hg hn => ?_⟩
    rw [q2.block g (Nat.lt_of_lt_of_le hg (below_alloc w _).size) (fun e => ?_)]
    · exact (below_alloc w _).block g hg
    · rcases hown.2 with ⟨q, _⟩ | ⟨g', cap, cur, rfl, _, hc, _⟩
      · rw [q] at e; cases e
      · cases e; exact hn _ _ hc
end
def trk (ks : List Int) (r n : Int) : List Tr := ks.map fun k => (k, r, n)
theorem trk_len (ks : List Int) (r n : Int) : (trk ks r n).length = ks.length := List.length_map ..
theorem trk_take (ks : List Int) (r n : Int) (j : Nat) (h : j < ks.length) : (trk ks r n).take (j + 1) = (trk ks r n).take j ++ [(ks.getD j 0, r, n)] := by
  have h' : j < (trk ks r n).length := by rw [trk_len]; exact h
  rw [List.take_succ_eq_append_getElem h']
  congr 1
  simp [trk, List.getElem?_eq_getElem h]
theorem evT_trk (F : Nat → Int) (S M : List Dt) (e : Ev) : evT F S M e = trk (kindL (kindsOf F S M e)) e.rep e.n := rfl
theorem own_liesI2 {w : World} {B : Nat} {e : TypeId} {p : Option Addr} {m n c : Nat} {l : List Int} (h : w.ownsRow B e 1 (.slice p m c) n (ints l)) : LiesI w p l := by
  obtain ⟨-, q, c', hv, -, ls, -⟩ := own_liesI h
  injection hv with h1 _ _
  subst h1
  exact ls
/-- a row of troubles stays where only the maps turn -/
theorem own_pastG {w w' : World} {B n A r1 r2 r3 : Nat} {v : Value} {xs : List Value} {F : Nat → Int} {S M : List Dt} (h : w.ownsRow B 39 3 v n xs) (hF : Frg w A r1 r2 r3 F S M) (hg : ∀ g, g < w.heap.size → g ≠ r2 → g ≠ r3 → w'.heap[g]? = w.heap[g]?) : w'.ownsRow B 39 3 v n xs := by
  refine ⟨h.1, ?_⟩
  rcases h.2 with q | ⟨g, cap, cur, rfl, hB, hc, q⟩
  · exact .inl q
  · refine .inr ⟨g, cap, cur, rfl, hB, ?_, q⟩
    rw [hg g (Array.getElem?_eq_some_iff.1 hc).1 (fun e => by obtain ⟨l, c, h2, _⟩ := hF.met; rw [e, h2] at hc; cases hc) (fun e => by obtain ⟨l, c, h2, _⟩ := hF.last; rw [e, h2] at hc; cases hc)]
    exact hc
def TrR (w : World) (T : List Tr) (e : Ending) (w' : World) : Prop := ∃ v, e = .returned v ∧ w'.ownsRow w.heap.size 39 3 v T.length (trs T) ∧ Below w.heap.size w w'
end Go.Proofs.YtkpldjiloinaoaaDoor
