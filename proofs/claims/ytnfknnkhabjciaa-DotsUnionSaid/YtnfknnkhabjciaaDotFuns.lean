/- The example of layer 8, out of Tidy of any context; Same, Knows, Whole. -/
import Derived.Test.YtnfknnkhabjciaaDotTidyN
namespace Go.Proofs.Ytnfknnkhabjciaa
open Go Go.RowKit
set_option linter.unusedVariables false

def ex2 : Nat → Int := fun i => if i = 0 then 2 else 0
theorem built1 (w : World) : (Instr.build 23 #[(0, .int .i64 2)]).run Try.prog w = .ok (.agg (vf ex2)) w := by kernel_rfl
def exl : List Dt := [(0, 4), (0, 3), (0, 6)]
theorem ex_tidy : IsTidy ex2 exl (vset (vset (clampF ex2) 0 3) 0 4) [(0, 6)] := by
  have h1 := (Upd.start ex2).more (d := (0, 3)) (by simp) (by decide) (by decide)
  have h2 := h1.more (d := (0, 4)) (by decide) (by decide) (by simp [vset])
  have h3 := h2.far (d := (0, 6)) (by decide) (by decide) (by simp [vset]) (by simp [vset])
  exact h3.tidy (fun d => by simp [exl]; constructor <;> (intro h; rcases h with h | h | h <;> simp [h]))
theorem ex_at (w : World) : DotsAt (w.alloc (.cells #[.int .i64 0, .int .i64 4, .int .i64 0, .int .i64 3, .int .i64 0, .int .i64 6] 28)) (some ⟨w.heap.size, 0, none⟩) exl where
  row := fun _ => ⟨w.heap.size, 0, rfl, range_of_block (cs := #[.int .i64 0, .int .i64 4, .int .i64 0, .int .i64 3, .int .i64 0, .int .i64 6]) (heap_alloc_new w _)⟩
  none := fun e => by cases e
  spot := fun a e => by cases e; exact ⟨_, _, rfl⟩

section
variable {P : Program} {t : TypeId} {ops : Array Oper} {rest : List Oper} {o : Oper} {a : Act} {w : World} {Q : Exit → Act → World → Prop}
theorem wpList_gbuild (hw : Region.wanted o (yielded ops a.tmps) = true) (parts : Array (Nat × Operand)) (ho : o.op = .build t parts) (cs : Array Value) (hb : (Instr.build t (parts.map fun (i, x) => (i, a.eval x))).run P w = .ok (.agg cs) w)
    (h : wpList P ops Q rest (a.put o.dst (.agg cs)) w) : wpList P ops Q (o :: rest) a w := by
  refine BigFrame.wpList_want hw fun K hK => ?_
  unfold Oper.wp execOp
  simp only [ho, Sem.run_bind, hb, Result.andThen_ok]
  rw [show (pure (Next.value (Value.agg cs)) : Sem Next).run P w = .ok (.value (.agg cs)) w from rfl]
  exact hK _ _ h
end
set_option maxHeartbeats 2000000 in
set_option maxRecDepth 100000 in
theorem awake8 (w : World) : Calls Try.prog 6 #[] w (Yes w) := by
  have B1 := Lib.hid (below_alloc w (.cells #[.int .i64 0, .int .i64 4, .int .i64 0, .int .i64 3, .int .i64 0, .int .i64 6] 28))
  have T : Hid (Calls Try.prog 7 #[.agg (ccs ex2 (.slice (some ⟨w.heap.size, 0, none⟩) 3 3))] (w.alloc (.cells #[.int .i64 0, .int .i64 4, .int .i64 0, .int .i64 3, .int .i64 0, .int .i64 6] 28)) (TidyR _ ex2 exl)) := tidyD_is ex2 _ 3 exl _ (ex_at w) (by decide)
  go_enter Try.func6, Try.ntmps6
  go_wp2_with (first | refine wpList_vbuild (by rfl) _ rfl ex2 (by simp only [List.map_toArray, List.map_cons, List.map_nil, BigFrame.eval_const]; exact built1 _) ?_ | refine wpList_gbuild (by rfl) _ rfl (ccs ex2 (.slice (some ⟨w.heap.size, 0, none⟩) 3 3)) (by simp only [List.map_toArray, List.map_cons, List.map_nil]; exact builtC2 ex2 (some ⟨w.heap.size, 0, none⟩) 3 3 _) ?_)
  refine T.out.mono ?_
  rintro e w2 ⟨F, o, v, hI, rfl, hown, hb2⟩
  obtain ⟨hF, rfl⟩ := hI.unique ex_tidy (fun _ _ => rfl) (fun _ _ => Iff.rfl)
  have hF0 : F 0 = 4 := by rw [hF 0 (by omega)]; rfl
  obtain ⟨_, pv, cap, rfl, hcap, hrow, _, hsome⟩ := own_drow hown
  obtain ⟨q, o0, rfl, hr⟩ := hrow (by simp)
  obtain ⟨q', hq', _, _⟩ := hsome _ rfl
  cases hq'
  have Q0 : Hid (w2.cell? ⟨q, 0, none⟩ = some (.int .i64 0)) := hr 0 _ rfl
  have Q1 : Hid (w2.cell? ⟨q, 1, none⟩ = some (.int .i64 6)) := hr 1 _ rfl
  have B2 := Lib.hid (thenBelow B1.out hb2); have HF := Lib.hid hF0
  clear hb2 T hI hF hF0 hown hrow hsome hr
  go_wp2_with (refine wpList_galloc _ zeroC rfl rfl ?_)
  intro g w3 lg hg hb3
  have B3 := Lib.hid (thenBelow B2.out hb3)
  have hqlt := World.block_lt_of_cell? _ _ Q0.out
  have lw := Nat.le_trans B2.out.size lg
  have q0 := Lib.hid ((hb3.cell (p := ⟨q, 0, none⟩) hqlt).trans Q0.out); have q1 := Lib.hid ((hb3.cell (p := ⟨q, 1, none⟩) hqlt).trans Q1.out)
  have hqg : q < g := Nat.lt_of_lt_of_le hqlt lg
  clear hb3 hqlt
  go_wp2_with (refine wpList_gstore rfl _ _ rfl g rfl (ccs F (.slice (some ⟨q, 0, none⟩) 1 cap)) rfl _ _ hg (sizeC _ _) (by rw [ccs_size, ccs_size]) (ccs_one F _ _ _) ?_)
  intro w4 h4 g4
  have C4 : Cx w4 g F (.slice (some ⟨q, 0, none⟩) 1 cap) := h4
  have B4 := Lib.hid (B3.out.trans (grown_below g4 B3.out.size lw))
  have r0 := g4.cell q0.out (by simp; omega); have r1 := g4.cell q1.out (by simp; omega)
  have s0 := C4.slot
  have s1 := C4.cell 0 (by omega)
  rw [HF.out] at s1
  clear C4 h4 g4 hg
  go_wp2
  go_ret
  exact ⟨ret_bool (by first | rfl | (simp; done)), B4.out⟩

/-- are two contexts one, as they stand? -/
def sameB (F F' : Nat → Int) (l l' : List Dt) : Bool := veq F F' && decide (l = l')
set_option maxHeartbeats 4000000 in
set_option maxRecDepth 100000 in
theorem same_is (F F' : Nat → Int) (p p' : Option Addr) (c c' : Nat) (l l' : List Dt) (w : World) (h : DRow w p l) (h' : DRow w p' l') (hlen : l.length ≤ 10000) (hlen' : l'.length ≤ 10000) :
    Calls Try.prog 9 #[.agg (ccs F (.slice p l.length c)), .agg (ccs F' (.slice p' l'.length c'))] w fun e w' => e = .returned (.bool (sameB F F' l l')) ∧ Below w.heap.size w w' := by
  have H := Lib.hid h; have H' := Lib.hid h'
  clear h h'
  go_enter Try.func9, Try.ntmps9
  go_wp2_with (refine wpList_gbox rfl _ rfl (ccs F (.slice p l.length c)) rfl ?_)
  intro g1 w1 l1 h1 hb1
  have C1 : Hid (Cx w1 g1 F (.slice p l.length c)) := h1
  have B1 := Lib.hid hb1; have H1 := Lib.hid (H.out.below hb1); have H1' := Lib.hid (H'.out.below hb1)
  clear h1 hb1
  go_wp2_with (refine wpList_gbox rfl _ rfl (ccs F' (.slice p' l'.length c')) rfl ?_)
  intro g2 w2 l2 h2 hb2
  have C2 := Lib.hid (C1.out.later hb2); have D2 : Hid (Cx w2 g2 F' (.slice p' l'.length c')) := h2
  have B2 := Lib.hid (thenBelow B1.out hb2); have H2 := Lib.hid (H1.out.below hb2); have H2' := Lib.hid (H1'.out.below hb2)
  clear h2 hb2
  have hq := fun w => vecI.neq F F' w
  cases hv : veq F F' with
  | false =>
    rw [hv] at hq
    have HS : Hid (sameB F F' l l' = false) := by show sameB F F' l l' = false; simp [sameB, hv]
    clear hv
    go_wp2_with (first | refine wpList_vmid vecI rfl _ rfl g1 0 rfl _ C2.out.range ?_ | refine wpList_vmid vecI rfl _ rfl g2 0 rfl _ D2.out.range ?_)
    go_ret
    exact ⟨ret_bool (by rw [HS.out]), B2.out⟩
  | true =>
    rw [hv] at hq
    have HS : Hid (sameB F F' l l' = decide (l = l')) := by show sameB F F' l l' = _; simp [sameB, hv]
    clear hv
    have s0 := C2.out.slot
    have s1 := D2.out.slot
    by_cases hll : l.length = l'.length
    · have hll' : ((l.length : Int) != (l'.length : Int)) = false := by rw [hll]; simp
      have hli : (l.length : Int) = (l'.length : Int) := by omega
      go_wp2_with (first | refine wpList_vmid vecI rfl _ rfl g1 0 rfl _ C2.out.range ?_ | refine wpList_vmid vecI rfl _ rfl g2 0 rfl _ D2.out.range ?_)
      clear s0 s1 hq
      go_loopw [24] (fun i wr => ∃ k : Nat, k ≤ l.length ∧ i = .int .i64 k ∧ l.take k = l'.take k ∧ Below w2.heap.size w2 wr) (fun i _ => l.length - (intOf i).toNat)
      case atStart => exact ⟨0, Nat.zero_le _, rfl, by rw [List.take_zero, List.take_zero], Below.refl _ _⟩
      case round =>
        obtain ⟨k, hk, rfl, htk, hb⟩ := hrel
        have TK := Lib.hid htk; have B := Lib.hid (thenBelow B2.out hb); have B' := Lib.hid hb
        by_cases hkl : k < l.length
        · have hkl' : (k : Int) < l.length := by omega
          have hln : l ≠ [] := by intro e; subst e; simp at hkl
          have hln' : l' ≠ [] := by intro e; rw [e, List.length_nil] at hll; omega
          obtain ⟨b, o, rfl, hr⟩ := (H2.out.below hb) hln
          obtain ⟨b', o', rfl, hr'⟩ := (H2'.out.below hb) hln'
          obtain ⟨d1, d2⟩ := dcl_get l k hkl
          obtain ⟨e1, e2⟩ := dcl_get l' k (by omega)
          have r1 := hr _ _ d1; have r2 := hr _ _ d2
          have t1 := Lib.hid (hr' _ _ e1); have t2 := Lib.hid (hr' _ _ e2)
          have hn1 := take_next l k hkl
          have hn2 := take_next l' k (by omega)
          have DD := Lib.hid (D2.out.later hb)
          obtain ⟨x, hx⟩ : ∃ x, x = l[k] := ⟨_, rfl⟩
          obtain ⟨y, hy⟩ : ∃ y, y = l'[k]'(by omega) := ⟨_, rfl⟩
          rw [← hx] at r1 r2 hn1
          rw [← hy] at t1 t2 hn2
          have HX := Lib.hid hx; have HY := Lib.hid hy
          have N1 := Lib.hid hn1; have N2 := Lib.hid hn2
          have SR : Hid (wr.rangeAt b (o + k * 2) (dcs x.1 x.2).toList) := fun j u hu => by
            match j, hu with
            | 0, hu => simp [dcs] at hu; subst hu; exact r1
            | 1, hu => simp [dcs] at hu; subst hu; rw [Nat.add_assoc]; exact r2
            | j + 2, hu => simp [dcs] at hu
          clear htk hb hr hr' d1 d2 e1 e2 r1 r2 hn1 hn2 hx hy
          go_wp2_with (first | refine wpList_gload rfl _ rfl b (o + k * 2) rfl _ SR.out _ Try.underlying28 rfl (sizeDl x.1 x.2) ?_ | refine wpList_galloc _ zeroD rfl rfl ?_)
          intro g6 w9 l9 h9 hb9
          have B9 := Lib.hid (thenBelow B.out hb9); have B9' := Lib.hid (thenBelow B'.out hb9); have D9 := Lib.hid (DD.out.later hb9)
          have lw6 := Nat.le_trans B'.out.size l9
          have lw7 := Nat.le_trans B.out.size l9
          have u1 := (hb9.cell (p := ⟨b', o' + k * 2, none⟩) (World.block_lt_of_cell? _ _ t1.out)).trans t1.out
          have u2 := (hb9.cell (p := ⟨b', o' + (k * 2 + 1), none⟩) (World.block_lt_of_cell? _ _ t2.out)).trans t2.out
          have hbg : b' < g6 := Nat.lt_of_lt_of_le (World.block_lt_of_cell? _ _ t1.out) l9
          have hg2 : g2 < g6 := Nat.lt_of_lt_of_le DD.out.lt l9
          have U1 := Lib.hid u1; have U2 := Lib.hid u2
          clear hb9 u1 u2 t1 t2
          go_wp2_with (refine wpList_gstore rfl _ _ rfl g6 rfl (dcs x.1 x.2) rfl _ _ h9 (sizeD x.1 x.2) rfl (dcs_one x.1 x.2) ?_)
          intro wa ha ga
          have BA := Lib.hid (B9.out.trans (grown_below ga B9.out.size lw7)); have BA' := Lib.hid (B9'.out.trans (grown_below ga B9'.out.size lw6))
          have s1 := (D9.out.kept ga (by simp; omega)).slot
          have v1 := ga.cell U1.out (by simp; omega)
          have v2 := ga.cell U2.out (by simp; omega)
          have a0 : wa.cell? ⟨g6, 0, none⟩ = some (.int .i64 x.1) := (cell_of_row wa g6 0 _ _ _ ha).trans rfl
          have a1 : wa.cell? ⟨g6, 1, none⟩ = some (.int .i64 x.2) := (cell_of_row wa g6 1 _ _ _ ha).trans rfl
          rw [← Nat.add_assoc] at v2
          have hp0 : (0 : Int) ≤ (k : Int) := by omega
          have hp1 : (k : Int) < l'.length := by omega
          clear ha ga h9
          by_cases hxy : y = x
          · have hnx : Hid (l.take (k + 1) = l'.take (k + 1)) := by show l.take (k + 1) = l'.take (k + 1); rw [N1.out, N2.out, TK.out, hxy]
            subst hxy
            go_wp2
            go_quiet (fail)
            have hb2 : Below wa.heap.size wa (wa.drewN nq) := ⟨rfl, rfl, rfl, Nat.le_refl _, fun _ _ => rfl⟩
            have BQ := Lib.hid (thenBelow BA'.out hb2)
            generalize wa.drewN nq = wq at hb2 BQ ⊢
            clear hb2 s1 v1 v2 a0 a1
            go_wp2
            go_roundw
            case rel => exact ⟨k + 1, by omega, by go_num, hnx.out, BQ.out⟩
            case measure => simp [intOf]; omega
          · have hno : Hid (decide (l = l') = false) := by
              show decide (l = l') = false
              rw [decide_eq_false_iff_not]
              intro e
              apply hxy
              rw [HX.out, HY.out]
              subst e; rfl
            have hxy2 : ¬ y.1 = x.1 ∨ (y.1 = x.1 ∧ ¬ y.2 = x.2) := by
              by_cases h1 : y.1 = x.1
              · exact .inr ⟨h1, fun h2 => hxy (Prod.ext h1 h2)⟩
              · exact .inl h1
            clear hxy
            rcases hxy2 with h1 | ⟨h1, h2⟩
            all_goals
              go_wp2
              go_quiet (fail)
              have hb2 : Below wa.heap.size wa (wa.drewN nq) := ⟨rfl, rfl, rfl, Nat.le_refl _, fun _ _ => rfl⟩
              have BQ := Lib.hid (thenBelow BA.out hb2)
              generalize wa.drewN nq = wq at hb2 BQ ⊢
              clear hb2 s1 v1 v2 a0 a1
              go_wp2
              go_ret
              exact ⟨ret_bool (by rw [HS.out, hno.out]), BQ.out⟩
        · have hkl' : ¬ (k : Int) < l.length := by omega
          have hyes : Hid (decide (l = l') = true) := by
            show decide (l = l') = true
            rw [decide_eq_true_eq]
            have := TK.out
            rwa [List.take_of_length_le (by omega), List.take_of_length_le (by omega)] at this
          clear htk hb
          go_wp2
          go_ret
          exact ⟨ret_bool (by rw [HS.out, hyes.out]), B.out⟩
    · have hll' : ((l.length : Int) != (l'.length : Int)) = true := by rw [bne_iff_ne]; omega
      have hli : ¬ (l.length : Int) = (l'.length : Int) := by omega
      have hno : Hid (decide (l = l') = false) := by
        show decide (l = l') = false
        rw [decide_eq_false_iff_not]
        intro e; exact hll (by rw [e])
      go_wp2_with (first | refine wpList_vmid vecI rfl _ rfl g1 0 rfl _ C2.out.range ?_ | refine wpList_vmid vecI rfl _ rfl g2 0 rfl _ D2.out.range ?_)
      go_ret
      exact ⟨ret_bool (by rw [HS.out, hno.out]), B2.out⟩
end Go.Proofs.Ytnfknnkhabjciaa
