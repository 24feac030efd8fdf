/- The document's lanes: Take, Lose. -/
import Derived.Test.YtfdiclamjgldnaaLnDoc7
namespace Go.Proofs.Ytfdiclamjgldnaa
open Go Go.RowKit Go.Conc
set_option linter.unusedVariables false

theorem sizePc (w : World) : (sizeOf (Try.prog.elem 27)).run Try.prog w = .ok 5 w := by kernel_rfl
theorem elemPc : Try.prog.underlying 27 = some (.slice (Try.prog.elem 27)) := by kernel_rfl
def tailAt (g c n : Nat) : Option Addr := if c = n then some ⟨g, 0, none⟩ else some ⟨g, n * 5, none⟩
theorem cutP_from (g A c n : Nat) (w : World) (hn : n ≤ A) : (Instr.sliceAt 27 (.slice (some ⟨g, 0, none⟩) A c) (some (.int .i64 (n : Int))) none none).run Try.prog w = .ok (.slice (tailAt g c n) (A - n) (c - n)) w := by
  rw [run_sliceAt_slice (h := elemPc), run_slice_l (ht := elemPc) (h0 := by omega) (h1 := by omega), sizePc]
  simp only [Result.andThen, sliced, Int.toNat_natCast, tailAt]
  by_cases h : c = n
  · simp [h]
  · simp [h, Addr.add]
    intro e; omega
theorem cutP_to (g A c n : Nat) (w : World) (hn : n ≤ c) : (Instr.sliceAt 27 (.slice (some ⟨g, 0, none⟩) A c) none (some (.int .i64 (n : Int))) none).run Try.prog w = .ok (.slice (some ⟨g, 0, none⟩) n c) w := by
  rw [run_sliceAt_slice (h := elemPc), run_slice_h (ht := elemPc) (h0 := by omega) (h2 := by omega), sizePc]
  simp [Result.andThen, sliced, Addr.add]
theorem pcl_take (L : List Pc) (i : Nat) : pcl (L.take i) = (pcl L).take (i * 5) := by
  induction L generalizing i with
  | nil => simp [pcl]
  | cons x L ih =>
    cases i with
    | zero => simp [pcl]
    | succ i =>
      have e1 : pcl (x :: L) = x.cs ++ pcl L := rfl
      have e2 : pcl ((x :: L).take (i + 1)) = x.cs ++ pcl (L.take i) := rfl
      rw [e1, e2, ih, List.take_append, Pc.cs_len, List.take_of_length_le (l := x.cs) (by rw [Pc.cs_len]; omega), show (i + 1) * 5 - 5 = i * 5 by omega]
theorem pcl_drop (L : List Pc) (i : Nat) : pcl (L.drop i) = (pcl L).drop (i * 5) := by
  induction L generalizing i with
  | nil => simp [pcl]
  | cons x L ih =>
    cases i with
    | zero => simp
    | succ i =>
      have e1 : pcl (x :: L) = x.cs ++ pcl L := rfl
      rw [e1, List.drop_succ_cons, ih, List.drop_append, Pc.cs_len, List.drop_of_length_le (l := x.cs) (by rw [Pc.cs_len]; omega), show (i + 1) * 5 - 5 = i * 5 by omega, List.nil_append]
theorem pat_head {w : World} {g : Nat} {L : List Pc} (h : PAt w (some ⟨g, 0, none⟩) L) (i : Nat) : PAt w (some ⟨g, 0, none⟩) (L.take i) := by
  refine ⟨fun h0 => ⟨g, 0, rfl, fun j u hu => ?_⟩, fun e => by cases e⟩
  have hL : L ≠ [] := fun e => h0 (by rw [e, List.take_nil])
  obtain ⟨g', o', e, hc⟩ := h.row hL
  simp only [Option.some.injEq, Addr.mk.injEq, and_true] at e
  obtain ⟨rfl, rfl⟩ := e
  refine hc j u ?_
  rw [pcl_take] at hu
  have hj := (List.getElem?_eq_some_iff.1 hu).1
  rw [List.length_take] at hj
  rwa [List.getElem?_take_of_lt (by omega)] at hu
theorem pat_tail {w : World} {g c : Nat} {L : List Pc} (h : PAt w (some ⟨g, 0, none⟩) L) (hc : L.length ≤ c) (i : Nat) : PAt w (tailAt g c i) (L.drop i) := by
  unfold tailAt
  by_cases e : c = i
  · rw [if_pos e]
    have : L.drop i = [] := List.drop_eq_nil_of_le (by omega)
    rw [this]
    exact ⟨fun h0 => absurd rfl h0, fun e => by cases e⟩
  · rw [if_neg e]
    refine ⟨fun h0 => ⟨g, i * 5, rfl, fun j u hu => ?_⟩, fun e => by cases e⟩
    have hL : L ≠ [] := fun e => h0 (by rw [e, List.drop_nil])
    obtain ⟨g', o', e, hcc⟩ := h.row hL
    simp only [Option.some.injEq, Addr.mk.injEq, and_true] at e
    obtain ⟨rfl, rfl⟩ := e
    rw [pcl_drop, List.getElem?_drop] at hu
    have := hcc _ u hu
    rwa [Nat.zero_add] at this
theorem wpList_push {P : Program} {w : World} {ops : Array Oper} {rest : List Oper} {o : Oper} {a : Act} {Q : Exit → Act → World → Prop} (hgd : o.guard = none) (s x : Operand) (t : TypeId)
    (ho : o.op = .call { callee := .builtin .append, args := #[s, x], argTypes := #[t, t] }) (u v : Value) (hs : a.eval s = u) (hx : a.eval x = v) (v' : Value) (w' : World) (hrun : (Builtin.append_ #[t, t] o.type #[u, v]).run P w = .ok v' w')
    (h : wpList P ops Q rest (a.put o.dst v') w') : wpList P ops Q (o :: rest) a w := by
  refine wpList_plain hgd fun K hK => ?_
  unfold Oper.wp
  simp [execOp, ho, resolve, invoke, builtin, hs, hx, hrun, Result.andThen]
  exact hK _ _ h
theorem lies_R {w : World} {R : Nat} {n S Lo : Int} {q : Option Addr} {m c : Nat} (ho : w.heap[R]? = some (rlObj n (.slice q m c) S Lo)) {p : Option Addr} {l : List UInt8} (hl : Lies w p l) (j : Nat) (v : Value) : Lies (w.setCell ⟨R, j, none⟩ v) p l := by
  intro h0
  obtain ⟨b, o, rfl, hc⟩ := hl h0
  refine ⟨b, o, rfl, fun i hi => ?_⟩
  by_cases hb : b = R
  · subst hb
    have h1 := hc i hi
    rw [cell_of_row w b (o + i) _ _ _ ho] at h1
    obtain ⟨x, hx⟩ : ∃ x, x = o + i := ⟨_, rfl⟩
    rw [← hx] at h1
    rcases x with _ | _ | _ | _ | x <;> simp at h1
  · rw [← hc i hi]
    exact World.cell?_of_block (w := w) (Below.heap_setCell w ⟨R, j, none⟩ v b hb)
def TakeD (B R : Nat) (n : Int) (L : List Pc) (S Lo : Int) (d : Wy) (K : Int) (w : World) (e : Ending) (w' : World) : Prop :=
  (∃ r, WhyNot L n d K r ∧ e = .returned (.tuple #[.slice none 0 0, .int .i64 r]) ∧ Rl w' B R n L S Lo ∧ Below B w w' ∧ DocStep w w') ∨
  (InN n d ∧ ∃ x i p c, 0 ≤ K ∧ (on d L)[K.toNat]? = some x ∧ AtW L d K.toNat i ∧ e = .returned (.tuple #[.slice p x.b.length c, .int .i64 0]) ∧ Lies w' p (seenP x) ∧ x.b.length ≤ c ∧ (p = none → x.b = []) ∧ Rl w' B R n (L.take i ++ L.drop (i + 1)) S Lo ∧ Below B w w' ∧ DocStep w w')
set_option maxHeartbeats 4000000 in
set_option maxRecDepth 100000 in
theorem refTake_is (B R : Nat) (n : Int) (L : List Pc) (S Lo : Int) (f t K : Int) (w : World) (h : Rl w B R n L S Lo) (hl : L.length ≤ 100) :
    Calls Try.prog 20 #[.pointer (some ⟨R, 0, none⟩), .int .i64 f, .int .i64 t, .int .i64 K] w (TakeD B R n L S Lo (f, t) K w) := by
  have PK := Lib.hid (refPeek_any B R n L S Lo f t K w h hl)
  have H := Lib.hid h
  have hB := h.size
  clear h
  go_enter Try.func20, Try.ntmps20
  go_wp2_with fail
  refine PK.out.mono ?_
  rintro e w1 ⟨hb1, hcase⟩
  have h1 := H.out.below hb1
  rcases hcase with ⟨r, hr, rfl⟩ | ⟨hk, x, p, c, hK, hx, rfl, hlies, hxc, hpn⟩
  · have E : Hid (TakeD B R n L S Lo (f, t) K w (.returned (.tuple #[.slice none 0 0, .int .i64 r])) w1) := .inl ⟨r, hr, rfl, h1, hb1.mono hB, docStep_below hb1⟩
    have hc := whyNot_code hr
    clear H PK h1 hb1 hr
    rcases hc with rfl | rfl
    all_goals
      go_wp2
      go_ret2
      exact E.out
  · have FI := Lib.hid (refFind_is B R n L S Lo f t K w1 h1 hl)
    have HX := Lib.hid hx
    have B1 := Lib.hid hb1; have H1 := Lib.hid h1; have HL := Lib.hid hlies
    have hlpos : ∀ {g o : Nat}, p = some ⟨g, o, none⟩ → seenP x ≠ [] → g < w1.heap.size := fun e1 e2 => by
      obtain ⟨b, o, e3, hc⟩ := hlies e2
      rw [e1] at e3
      simp only [Option.some.injEq, Addr.mk.injEq, and_true] at e3
      obtain ⟨rfl, rfl⟩ := e3
      exact World.block_lt_of_cell? w1 _ (hc 0 (List.length_pos_iff.2 e2))
    clear hlpos hx h1 hb1 H PK hlies
    go_wp2_with fail
    refine FI.out.mono ?_
    rintro e w2 ⟨r, rfl, hfr, hb2⟩
    have hlt : K.toNat < (on (f, t) L).length := (List.getElem?_eq_some_iff.1 HX.out).1
    obtain ⟨i, rfl, _, hat2⟩ : ∃ i : Nat, r = i ∧ 0 ≤ K ∧ AtW L (f, t) K.toNat i := by
      rcases hfr with q | ⟨_, q⟩
      · exact q
      · omega
    have h2 := H1.out.below hb2
    obtain ⟨q, c2, _, c1, _, _, fz, ho, hr, hp, hcap, _⟩ := h2.cells
    obtain ⟨hi, hik, hio⟩ := hat2
    obtain ⟨g, cap, hq, hBg⟩ := ownV_someP hr (by omega)
    simp only [Value.slice.injEq] at hq
    obtain ⟨rfl, _, rfl⟩ := hq
    have hc2 : i + 1 ≤ c2 := by omega
    have k1 := fun V : World => cutP_to g L.length c2 i V (by omega)
    have k2 := fun V : World => cutP_from g L.length c2 (i + 1) V (by omega)
    have hlT : (L.take i).length = i := by rw [List.length_take]; omega
    have hlD : (L.drop (i + 1)).length = L.length - (i + 1) := by rw [List.length_drop]
    obtain ⟨V5, w5, r5, o5, g5, n5⟩ := appendP_run w2 w2.heap.size (.slice none 0 0) [] (World.ownsRow_nil _ _ _ _) (some ⟨g, 0, none⟩) c2 (L.take i) (pat_head hp i) (fun e => by cases e) (by simp; omega) (Nat.le_refl _) 27
    rw [List.nil_append] at o5
    rw [hlT] at r5
    have b5 : Below w2.heap.size w2 w5 := (Below.refl _ w2).grown g5 (Nat.le_refl _) (fun k hk => by simp [Value.ownBlock] at hk)
    have ho5 : w5.heap[R]? = some (rlObj n (.slice (some ⟨g, 0, none⟩) L.length c2) S Lo) := (b5.block R h2.lt).trans ho
    have hne5 : L.take i = [] → V5 = .slice none 0 0 := fun e => n5 rfl e
    obtain ⟨V6, w6, r6, o6, g6, n6⟩ := appendP_run w5 w2.heap.size V5 (L.take i) o5 (tailAt g c2 (i + 1)) (c2 - (i + 1)) (L.drop (i + 1)) ((pat_tail hp hcap (i + 1)).below b5) (fun e => by unfold tailAt at e; split at e <;> cases e) (by simp; omega) b5.size 27
    rw [hlD] at r6
    have b6 : Below w2.heap.size w2 w6 := b5.trans ((Below.refl _ w5).grown g6 b5.size (fun k hk => (o5.lt k hk).1))
    have ho6 := keepR ho5 o5 g6
    have hB2 : B ≤ w2.heap.size := h2.size
    have s6 := (docStep_below b5).trans (docStep_row o5 hne5 g6)
    obtain ⟨q5, c5, rfl, _⟩ := own_pat o5
    obtain ⟨q6, c6, rfl, _⟩ := own_pat o6
    have E : Hid (TakeD B R n L S Lo (f, t) K w (.returned (.tuple #[.slice p x.b.length c, .int .i64 0])) (w6.setCell ⟨R, 1, none⟩ (.slice q6 (L.take i ++ L.drop (i + 1)).length c6))) := by
      refine .inr ⟨hk, x, i, p, c, hK, HX.out, ⟨hi, hik, hio⟩, rfl, lies_R ho6 ((HL.out.below hb2).below b6) _ _, hxc, hpn, Rl.set ho6 h2.base ⟨o6.1, ?_⟩ (fun e => ?_) (fun y hy => ?_), ?_, ?_⟩
      · rcases o6.2 with q | ⟨g', cap', cur, q1, q2, q3⟩
        · exact .inl q
        · exact .inr ⟨g', cap', cur, q1, Nat.le_trans hB2 q2, q3⟩
      · have e1 := List.append_eq_nil_iff.1 e
        exact n6 (hne5 e1.1) e1.2
      · rcases List.mem_append.1 hy with hy | hy
        · exact h2.ok y (List.mem_of_mem_take hy)
        · exact h2.ok y (List.mem_of_mem_drop hy)
      · exact (B1.out.mono hB).trans ((hb2.mono (Nat.le_trans hB B1.out.size)).trans ((b6.mono hB2).setCell (p := ⟨R, 1, none⟩) h2.base _))
      · obtain ⟨z1, z2⟩ := off_R ho6
        exact (docStep_below B1.out).trans ((docStep_below hb2).trans (s6.trans (docStep_kept (grown_setCell w6 R 1 _) z1 z2)))
    have c1' : w5.cell? ⟨R, 1, none⟩ = some (.slice (some ⟨g, 0, none⟩) L.length c2) := by rw [cell_of_row w5 R 1 _ _ _ ho5]; rfl
    have c6' : w6.cell? ⟨R, 1, none⟩ = some (.slice (some ⟨g, 0, none⟩) L.length c2) := by rw [cell_of_row w6 R 1 _ _ _ ho6]; rfl
    have f6 := frozen_of_row w6 R 1 _ _ ho6
    have hiw : IntKind.i64.wrap ((i : Int) + 1) = ((i + 1 : Nat) : Int) := by rw [IntKind.wrap_i64]; omega
    have k3 : ∀ V : World, (Instr.sliceAt 27 (.slice (some ⟨g, 0, none⟩) L.length c2) (some (.int .i64 ((i : Int) + 1))) none none).run Try.prog V = .ok (.slice (tailAt g c2 (i + 1)) (L.length - (i + 1)) (c2 - (i + 1))) V := fun V => k2 V
    have hiw2 : IntKind.i64.wrap ((i : Int) + 1) = (i : Int) + 1 := by rw [IntKind.wrap_i64]; omega
    rw [hlT] at r5 r6
    have f5 : ∀ V : World, V = w5 → True := fun _ _ => trivial
    clear o5 o6 hr hp ho ho5 ho6 h2 FI H1 B1 hb2 hfr fz s6 n5 n6 hne5 g5 g6 b5 b6 HL k2 hiw f5 hlT hlD
    generalize (L.take i ++ L.drop (i + 1)).length = NN at r6 E
    generalize tailAt g c2 (i + 1) = tp at k3 r6
    generalize L.length - (i + 1) = n1 at k3 r6
    generalize c2 - (i + 1) = cc1 at k3 r6
    go_wp2_with (at_builtin; refine wpList_push rfl _ _ 27 rfl _ _ rfl rfl _ _ (by first | exact r5 | exact r6) ?_)
    go_ret2
    exact E.out
/-- Lose, as the document has it -/
def LoseD (B R : Nat) (n : Int) (L : List Pc) (S Lo : Int) (d : Wy) (K : Int) (w : World) (e : Ending) (w' : World) : Prop :=
  (∃ r, WhyNot L n d K r ∧ DocTo B R n L S Lo r w e w') ∨
  (InN n d ∧ ∃ x i, 0 ≤ K ∧ (on d L)[K.toNat]? = some x ∧ AtW L d K.toNat i ∧ DocTo B R n (L.take i ++ L.drop (i + 1)) S (Lo + 1) 0 w e w')
set_option maxHeartbeats 1000000 in
theorem refLose_is (B R : Nat) (n : Int) (L : List Pc) (S Lo : Int) (f t K : Int) (w : World) (h : Rl w B R n L S Lo) (hl : L.length ≤ 100) (hLo : 0 ≤ Lo ∧ Lo ≤ 1000000) :
    Calls Try.prog 22 #[.pointer (some ⟨R, 0, none⟩), .int .i64 f, .int .i64 t, .int .i64 K] w (LoseD B R n L S Lo (f, t) K w) := by
  have TK := Lib.hid (refTake_is B R n L S Lo f t K w h hl)
  have hBR := h.base
  have hl1 : Lo + 1 ≤ 9223372036854775807 := by omega
  clear h
  go_enter Try.func22, Try.ntmps22
  go_wp2_with fail
  refine TK.out.mono ?_
  rintro e w1 hcase
  rcases hcase with ⟨r, hr, rfl, hrl, hb, hs⟩ | ⟨hk, x, i, p, c, hK, hx, hat, rfl, _, _, _, hrl, hb, hs⟩
  · have E : Hid (LoseD B R n L S Lo (f, t) K w (.returned (.int .i64 r)) w1) := .inl ⟨r, hr, rfl, hrl, hb, hs⟩
    have hc := whyNot_code hr
    clear hr hrl hb hs TK
    rcases hc with rfl | rfl
    all_goals
      go_wp2
      go_ret
      exact E.out
  · obtain ⟨_, _, _, _, _, c3, fz, _⟩ := hrl.cells
    have f3 := fz 3
    have E : Hid (LoseD B R n L S Lo (f, t) K w (.returned (.int .i64 0)) (w1.setCell ⟨R, 3, none⟩ (.int .i64 (Lo + 1)))) := .inr ⟨hk, x, i, hK, hx, hat, rfl, hrl.lose _, hb.trans ((Below.refl B w1).setCell (p := ⟨R, 3, none⟩) hBR _), hs.trans (docStep_R hrl 3 _)⟩
    clear hk hx hat hrl hb hs TK fz
    go_wp2
    go_ret
    exact E.out
end Go.Proofs.Ytfdiclamjgldnaa
