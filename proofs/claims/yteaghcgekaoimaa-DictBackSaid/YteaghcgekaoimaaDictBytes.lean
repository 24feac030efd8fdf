/- Dictionaries: what Bytes comes to, and the example. -/
import Derived.Test.YteaghcgekaoimaaDictW
import Derived.Test.YteaghcgekaoimaaCoderRef2
import Derived.Test.YteaghcgekaoimaaRgMore
import Derived.Test.YteaghcgekaoimaaMemOne
import Derived.Deep.QuietTactic
import Derived.BigQuiet
namespace Go.Proofs.Yteaghcgekaoimaa
open Go Go.RowKit
set_option linter.unusedVariables false

theorem belowD {B : Nat} {a w : World} (h : Below B a w) (n : Nat) : Below B a (w.drewN n) := ⟨h.os, h.tape, h.output, h.size, h.block⟩
set_option maxHeartbeats 4000000 in
theorem alike_is (v x : ByteArray) (w : World) (hv : v.size ≤ 100000) : Calls Try.prog 31 #[.string v, .string x] w fun e w' => e = .returned (.int .i64 (alikeB v x : Nat)) ∧ Below w.heap.size w w' := by
  obtain ⟨N, hN⟩ : ∃ N, alikeB v x = N := ⟨_, rfl⟩
  rw [hN]
  have HN := Lib.hid hN
  clear hN
  go_enter Try.func31, Try.ntmps31
  go_wp2
  go_loopw [5] (fun i wr => ∃ (n : Nat), n ≤ v.size ∧ n ≤ x.size ∧ i = .int .i64 n ∧ alikeB v x = n + alikeL (v.data.toList.drop n) (x.data.toList.drop n) ∧ Below w.heap.size w wr) (fun i _ => v.size - (intOf i).toNat)
  case atStart => exact ⟨0, Nat.zero_le _, Nat.zero_le _, rfl, by simp [alikeB], Below.refl _ _⟩
  case round =>
    obtain ⟨n, hn1, hn2, rfl, he, hb⟩ := hrel
    have HE := Lib.hid he; have HB := Lib.hid hb
    clear he hb
    have hgd : ∀ (s : ByteArray) (i : Nat) (h : i < s.size), s.data.toList.getD i 0 = s[i] := fun s i h => by
      have h2 : i < s.data.toList.length := by rw [Array.length_toList]; exact h
      rw [List.getD, List.getElem?_eq_getElem h2, Option.getD_some, Array.getElem_toList]; rfl
    have HG := Lib.hid hgd
    clear hgd
    by_cases h1 : n < v.size
    · have h1' : (n : Int) < v.size := by omega
      by_cases h2 : n < x.size
      · have h2' : (n : Int) < x.size := by omega
        by_cases hq : v[n] = x[n]
        · have ST := Lib.hid (alike_more (x := v.data.toList) (y := x.data.toList) (n := n) (by rw [Array.length_toList]; exact h1) (by rw [Array.length_toList]; exact h2) (by rw [HG.out _ _ h1, HG.out _ _ h2]; exact hq))
          go_wp2
          go_quiet (fail)
          go_wp2
          go_roundw
          case rel => exact ⟨n + 1, by omega, by omega, by go_num, by rw [HE.out, ST.out]; omega, belowD HB.out _⟩
          case measure => simp [intOf]; omega
        · have hq' : ((v[n].toNat : Int) == (x[n].toNat : Int)) = false := by
            simp only [beq_eq_false_iff_ne, ne_eq, Int.natCast_inj]
            exact fun h => hq (UInt8.toNat_inj.1 h)
          have ST := Lib.hid (alike_stop (x := v.data.toList) (y := x.data.toList) (n := n) (.inr (.inr ⟨by rw [Array.length_toList]; exact h1, by rw [Array.length_toList]; exact h2, by rw [HG.out _ _ h1, HG.out _ _ h2]; exact hq⟩)))
          clear hq
          go_wp2
          go_quiet (fail)
          go_wp2
          go_ret
          exact ⟨by rw [← HN.out, HE.out, ST.out]; rfl, belowD HB.out _⟩
      · have h2' : ¬ (n : Int) < x.size := by omega
        have ST := Lib.hid (alike_stop (x := v.data.toList) (y := x.data.toList) (n := n) (.inr (.inl (by rw [Array.length_toList]; exact Nat.le_of_not_lt h2))))
        go_wp2
        go_quiet (fail)
        go_wp2
        go_ret
        exact ⟨by rw [← HN.out, HE.out, ST.out]; rfl, belowD HB.out _⟩
    · have h1' : ¬ (n : Int) < v.size := by omega
      have ST := Lib.hid (alike_stop (x := v.data.toList) (y := x.data.toList) (n := n) (.inl (by rw [Array.length_toList]; exact Nat.le_of_not_lt h1)))
      go_wp2
      go_quiet (fail)
      go_wp2
      go_ret
      exact ⟨by rw [← HN.out, HE.out, ST.out]; rfl, belowD HB.out _⟩
section
variable {P : Program} {t e : TypeId} {o : Oper} {a : Act} {w : World}
theorem exec_cutFromS (t : TypeId) (x y : Operand) (ho : o.op = .slice t x (some y) none none) (ht : P.underlying t = some .string) (s : ByteArray) (J : Nat) (hx : a.eval x = .string s) (hy : a.eval y = .int .i64 (J : Int)) (hJ : J ≤ s.size) (w : World) :
    (execOp a.eval o).run P w = .ok (.value (.string (s.extract J s.size))) w := by
  unfold execOp
  simp only [ho, hx, hy, Option.map_some, Option.map_none]
  refine run_value_of ?_
  rw [run_sliceAt_string (h := ht), run_slice_string_l (ht := ht) (h0 := by omega) (h1 := by omega)]
  rfl
theorem run_appendB (U : U8 P t e) (ty : TypeId) (B n : Nat) (l : List UInt8) (v : Value) (hown : w.ownsRow B e 1 v n (bys l))
    (ad : Addr) (m c : Nat) (l2 : List UInt8) (hnews : ∀ j u, (bys l2)[j]? = some u → w.cell? (ad.add j) = some u) (hm : m = l2.length) (hlen : n + m ≤ 140737488355328) (hB : B ≤ w.heap.size) :
    ∃ v' w', (Builtin.append_ #[t, t] ty #[v, .slice (some ad) m c]).run P w = .ok v' w' ∧ w'.ownsRow B e 1 v' (n + m) (bys (l ++ l2)) ∧ Below B w w' := by
  obtain ⟨i0, hi, hz0, hz1, hz2⟩ := info_parts U.info
  obtain ⟨v', w', hrun, r1, r2, _⟩ := run_append_own (P := P) w B t ty e i0 (.int .u8 0) 1 1 U.slice hi hz0 hz1 hz2 rfl (by decide) v n (bys l) hown ad m c (bys l2) (by rw [bys_length]; omega) hnews (bys_one _) (by unfold maxLen; omega) (by omega) hB
  exact ⟨v', w', hrun, by rw [bys_append]; exact r1, (Below.refl B w).grown r2 hB (fun k hk => (hown.lt k hk).1)⟩
theorem exec_appendR (s x : Operand) (ho : o.op = .call { callee := .builtin .append, args := #[s, x], argTypes := #[t, t] }) (v xv : Value) (hs : a.eval s = v) (hx : a.eval x = xv) {v' : Value} {w' : World} (hrun : (Builtin.append_ #[t, t] o.type #[v, xv]).run P w = .ok v' w') :
    (execOp a.eval o).run P w = .ok (.value v') w' := by
  simp [execOp, ho, resolve, invoke, builtin, hs, hx, hrun, Result.andThen]
end
theorem own_cellsB {w : World} {B g n c : Nat} {e : TypeId} {l : List UInt8} (h : w.ownsRow B e 1 (.slice (some ⟨g, 0, none⟩) n c) l.length (bys l)) : ∀ j u, (bys l)[j]? = some u → w.cell? (Addr.add ⟨g, 0, none⟩ j) = some u := by
  intro j u hu
  have hj : j < l.length := by have := (List.getElem?_eq_some_iff.1 hu).1; rwa [bys_length] at this
  have hv : n = l.length := by
    rcases h.2 with ⟨e, _⟩ | ⟨_, _, _, e, _⟩
    · cases e
    · injection e
  subst hv
  rw [Addr.add_lit, Nat.zero_add, h.cellAt j (by omega), hu]
theorem lit_wf (n : Int) : (Lit.int .i64 n).wf = true ↔ -9223372036854775808 ≤ n ∧ n ≤ 9223372036854775807 := by
  simp [Lit.wf, IntKind.min, IntKind.max, IntKind.bits, IntKind.signed]
set_option maxHeartbeats 8000000 in
set_option maxRecDepth 100000 in
theorem dictBytes_is (D : Nat) (l : List ByteArray) (w : World) (h : Dc w D l) (hp : Proper l) (hl : l.length ≤ 16384) : Calls Try.prog 19 #[.pointer (some ⟨D, 0, none⟩)] w (RetOwn w 5 (dictUpto l l.length)) := by
  obtain ⟨p, c, h1, h2, h3⟩ := h
  have c0 := (cell_of_row w D 0 _ _ _ h1).trans rfl
  have c1 := (cell_of_row w D 1 _ _ _ h1).trans rfl
  have H1 := Lib.hid h1; have H := Lib.hid h2; have HP := Lib.hid hp
  have NUM := Lib.hid (num_any none 0 [] (l.length : Int) w (fun h => absurd rfl h) (fun _ => rfl) (Nat.le_refl _) (by rw [lit_wf]; omega) (by simp))
  clear h1 h2 h3 hp
  go_enter Try.func19, Try.ntmps19
  go_wp2_with fail
  refine NUM.out.mono ?_
  intro e w1 hr
  obtain ⟨v1, rfl, ho1, hb1⟩ := hr
  rw [List.nil_append, Int.toNat_natCast] at ho1
  have O1 := Lib.hid ho1; have B1 := Lib.hid hb1
  have c0 := (cell_of_row w1 D 0 _ _ _ ((hb1.block D (Array.getElem?_eq_some_iff.1 H1.out).1).trans H1.out)).trans rfl
  clear ho1 hb1 NUM
  go_wp2_with fail
  go_loopw [3, 4, 28] (fun v s i wr => ∃ (k : Nat), k ≤ l.length ∧ s = .string (aheadOf l k) ∧ i = .int .i64 k ∧ wr.ownsRow w.heap.size 5 1 v (dictUpto l k).length (bys (dictUpto l k)) ∧ Below w.heap.size w wr) (fun _ _ i _ => l.length - (intOf i).toNat)
  case atStart => exact ⟨0, Nat.zero_le _, rfl, rfl, O1.out, B1.out⟩
  case round =>
    obtain ⟨k, hk, rfl, rfl, ho, hb⟩ := hrel
    have OW0 := Lib.hid ho; have BB0 := Lib.hid hb
    clear ho hb O1 B1
    by_cases hkl : k < l.length
    · have hkl' : (k : Int) < l.length := by omega
      obtain ⟨b, of, rfl, _, hc⟩ := (H.out.below BB0.out).at (by omega)
      have hck := hc k hkl
      have OK := HP.out k hkl
      have hxs : (l.getD k noW).size ≤ 64 := by
        simp only [okAt, goes, Bool.and_eq_true, decide_eq_true_eq] at OK; exact OK.2
      have has : (aheadOf l k).size ≤ 64 := by
        cases k with
        | zero => simp [aheadOf]
        | succ m =>
          rw [aheadOf_succ]
          have := HP.out m (by omega)
          simp only [okAt, goes, Bool.and_eq_true, decide_eq_true_eq] at this; exact this.2
      have UL : Hid ((dictUpto l k).length ≤ 2000000) := by
        have := upto_len l HP.out k hk
        show (dictUpto l k).length ≤ 2000000; omega
      have ST : Hid (dictUpto l (k + 1) = dictUpto l k ++ chunkOf (aheadOf l k) (l.getD k noW)) := rfl
      have AS := Lib.hid (aheadOf_succ l k)
      clear OK hc
      generalize l.getD k noW = x at hck hxs ST AS
      generalize aheadOf l k = a at has ST
      generalize dictUpto l k = acc at OW0 UL ST
      have AL := Lib.hid (alike_is a x wr (by omega))
      obtain ⟨n, hn⟩ : ∃ n, alikeB a x = n := ⟨_, rfl⟩
      have hnx : n ≤ x.size := by rw [← hn]; exact (alikeB_le a x).2
      have CH : Hid ((Cod.enc n ++ Cod.enc (x.extract n x.size).size ++ (x.extract n x.size).data.toList).length ≤ 100000) := by
        have h1 := encD_len n; have h2 := encD_len (x.extract n x.size).size
        have h4 : (x.extract n x.size).data.toList.length = (x.extract n x.size).size := Array.length_toList
        have h3 : (x.extract n x.size).size ≤ x.size := by rw [ByteArray.size_extract]; omega
        show (Cod.enc n ++ Cod.enc (x.extract n x.size).size ++ (x.extract n x.size).data.toList).length ≤ 100000
        simp only [List.length_append]; omega
      have ST2 : Hid (dictUpto l (k + 1) = acc ++ (Cod.enc n ++ Cod.enc (x.extract n x.size).size ++ (x.extract n x.size).data.toList)) := by
        rw [← hn]; exact ST.out
      rw [hn] at AL
      clear hn ST
      go_wp2_with fail
      refine AL.out.mono ?_
      rintro e w2 ⟨rfl, hb2⟩
      have OW := Lib.hid (own_laterV OW0.out hb2)
      have BB : Hid (Below w.heap.size w w2) := BB0.out.trans (hb2.mono BB0.out.size)
      clear AL hb2 OW0 BB0 hck
      go_wp2_with fail
      refine rg_last (by kernel_rfl) rfl (S := fun _ => True) ?_
      refine rgd_pure 0 (some 35) rfl rfl (u3) (by kernel_rfl) (by kernel_rfl) (by kernel_rfl) (fun _ _ _ _ h => h) (by kernel_rfl) (exec_is _ (.inl rfl) _ (by kernel_rfl)) trivial ?_
      refine rgd_pure 1 (some 36) rfl rfl (.int .i64 (n : Int)) (by kernel_rfl) (by kernel_rfl) (by kernel_rfl) (fun _ _ _ _ h => h) (by kernel_rfl) (exec_is _ (.inl rfl) _ (by kernel_rfl)) trivial ?_
      refine rgd_pure 3 (some 38) rfl rfl (.string x) (by kernel_rfl) (by kernel_rfl) (by kernel_rfl) (fun _ _ _ _ h => h) (by kernel_rfl) (exec_is _ (.inl rfl) _ (by kernel_rfl)) trivial ?_
      refine rgd_pure 4 (some 39) rfl rfl (.int .i64 (n : Int)) (by kernel_rfl) (by kernel_rfl) (by kernel_rfl) (fun _ _ _ _ h => h) (by kernel_rfl) (exec_is _ (.inl rfl) _ (by kernel_rfl)) trivial ?_
      refine rgd_pure 5 (some 40) rfl rfl (.string (x.extract n x.size)) (by kernel_rfl) (by kernel_rfl) (by kernel_rfl) (fun _ _ _ _ h => h) (by kernel_rfl) (exec_cutFromS _ _ _ rfl Try.underlying9 x n (by kernel_rfl) (by kernel_rfl) hnx) trivial ?_
      refine rgd_call 2 (some 37) (by kernel_rfl) rfl rfl (by kernel_rfl) 30 #[.slice none 0 0, .int .i64 (n : Int)] (by kernel_rfl) (num_any none 0 [] (n : Int) _ (fun h => absurd rfl h) (fun _ => rfl) (Nat.le_refl _) (by rw [lit_wf]; omega) (by simp)) ?_
      intro e w3 h3
      obtain ⟨p3, c3, rfl, g3, hb3⟩ := h3.given
      refine ⟨_, rfl, trivial, ?_⟩
      rw [List.nil_append, Int.toNat_natCast] at g3 ⊢
      refine rgd_call 6 (some 41) (by kernel_rfl) rfl rfl (by kernel_rfl) 32 #[.slice p3 (Cod.enc n).length c3, .string (x.extract n x.size)] (by kernel_rfl) (text_any p3 c3 (Cod.enc n) (x.extract n x.size) w3 g3 (by have := encD_len n; rw [ByteArray.size_extract]; omega)) ?_
      intro e w4 h4
      obtain ⟨v4, rfl, ho4, hb4⟩ := h4
      obtain ⟨g4, c4, rfl, _⟩ := ownV_some ho4 (by have := Cod.enc_length n; simp only [List.length_append]; omega)
      refine ⟨_, rfl, trivial, ?_⟩
      have hbb : Below w2.heap.size w2 w4 := (((Below.refl _ w2).drew).trans hb3).trans (hb4.mono hb3.size)
      obtain ⟨v5, w5, hrun, ho5, hb5⟩ := run_appendB (P := Try.prog) isU8 43 w.heap.size _ _ u3 (own_laterV OW.out hbb) ⟨g4, 0, none⟩ _ c4 _ (own_cellsB ho4) rfl (by have := CH.out; have := UL.out; omega) (Nat.le_trans BB.out.size hbb.size)
      refine rgd_run 7 (some 42) (by kernel_rfl) rfl rfl (by kernel_rfl) v5 w5 (exec_appendR _ _ rfl _ _ (by kernel_rfl) (by kernel_rfl) hrun) trivial ?_
      refine rgd_pure 8 (some 3) rfl rfl (v5) (by kernel_rfl) (by kernel_rfl) (by kernel_rfl) (fun _ _ _ _ h => h) (by kernel_rfl) (exec_is _ (.inr rfl) _ (by kernel_rfl)) trivial ?_
      refine wpAnyH_done (by kernel_rfl) ?_ _
      have E5 : Hid (w5.ownsRow w.heap.size 5 1 v5 (dictUpto l (k + 1)).length (bys (dictUpto l (k + 1)))) := by
        rw [ST2.out, List.length_append]; exact ho5
      have B5 : Hid (Below w.heap.size w w5) := BB.out.trans ((hbb.mono BB.out.size).trans hb5)
      clear ho5 hb5 hbb hrun hb3 hb4 ho4 g3
      simp only [Act.put, List.setIfInBounds_toArray, List.set_cons_zero, List.set_cons_succ]
      go_wp2_with fail
      go_roundw
      case rel => exact ⟨k + 1, by omega, by rw [AS.out], by go_num, E5.out, B5.out⟩
      case measure => simp [intOf]; omega
    · obtain rfl : k = l.length := by omega
      have hkl' : ¬ ((l.length : Nat) : Int) < l.length := by omega
      go_wp2_with fail
      go_ret
      exact ⟨_, rfl, OW0.out, BB0.out⟩
end Go.Proofs.Yteaghcgekaoimaa
