/- The statement AuditSums, proved for every input that its row reads: part 28 of 54. -/
import Derived.Test.YtehocohpfgabiaaDoorPackAuditSums27
/- audit.Oldest: the oldest event. -/
namespace Go.Proofs.YtehocohpfgabiaaDoor
open Go Go.RowKit
set_option linter.unusedVariables false
set_option maxRecDepth 1000000

theorem sizeEvA (x : EvP) : (Tryd.prog.info? 48).map (·.size) = some x.cells.length := by rw [EvP.cells_len]; kernel_rfl
theorem zeroEvA : ∀ w : World, (zeroValue 48).run Tryd.prog w = .ok (.agg #[.int .i64 0, .int .i64 0, .int .i64 0, .int .i64 0, .string ByteArray.empty, .int .i64 0, .string ByteArray.empty, .slice none 0 0]) w := fun w => by kernel_rfl
/-- how two events stand by time -/
def cmpE (x y : EvP) : Int := orL [cmpI x.e.time y.e.time, cmpD x.e.rep x.e.n y.e.rep y.e.n]
set_option maxHeartbeats 4000000 in
theorem oldC_is (x y : EvP) (w : World) : Calls Tryd.prog 17 #[.agg x.cells.toArray, .agg y.cells.toArray] w fun e w' => e = .returned (.int .i64 (cmpE x y)) ∧ Below w.heap.size w w' := by
  have HD : Hid (cmpE x y = orL [cmpI x.e.time y.e.time, cmpD x.e.rep x.e.n y.e.rep y.e.n]) := rfl
  go_enter Tryd.func17, Tryd.ntmps17
  go_wp2_with (refine wpList_gbox rfl _ rfl x.cells.toArray rfl ?_)
  intro g2 w1 l2 h2 hb1
  go_wp2_with (refine wpList_gbox rfl _ rfl y.cells.toArray rfl ?_)
  intro g3 w2 l3 h3 hb2
  have B2 := Lib.hid (thenBelow hb1 hb2)
  have rx : w2.rangeAt g2 0 x.cells := range_below (by simpa using range_of_block h2) hb2
  have ry : w2.rangeAt g3 0 y.cells := by simpa using range_of_block h3
  clear h2 h3 hb1 hb2
  obtain ⟨a0, a1, a2, a3, a4, a5, a6, a7⟩ := ev_cells rx
  obtain ⟨b0, b1, b2, b3, b4, b5, b6, b7⟩ := ev_cells ry
  clear rx ry
  obtain ⟨⟨r, n, t, kd, d, f, tx, gn⟩, gp, gc⟩ := x
  obtain ⟨⟨r', n', t', kd', d', f', tx', gn'⟩, gp', gc'⟩ := y
  simp only [Nat.zero_add] at a0 a1 a2 b0 b1 b2 HD
  have a0 := cell_regrown a0; have a1 := cell_regrown a1; have b0 := cell_regrown b0; have b1 := cell_regrown b1
  have a2 := cell_regrown a2; have b2 := cell_regrown b2
  clear a3 a4 a5 a6 a7 b3 b4 b5 b6 b7
  have q2 := quiet_call (w := w2) (fun W => (compare_is t t' W).mono fun e w' ⟨h1, h2⟩ => ⟨h1, by subst h2; exact Below.refl _ _⟩)
  have q3 := quiet_call (w := w2) (fun W => dotCompare_is r n r' n' W)
  generalize cmpI t t' = x2 at q2 HD
  generalize cmpD r n r' n' = x3 at q3 HD
  go_wp2_with fail
  refine wp_region_below_tail 10 (by kernel_rfl) (by kernel_rfl) ?_
  simp only [List.take_succ_cons, List.take_zero, List.drop_succ_cons, List.drop_zero]
  iterate 4 (quiet_step (fail))
  quiet_step (exact q2 _ _)
  iterate 4 (quiet_step (fail))
  quiet_step (exact q3 _ _)
  refine wpQuiet_nil ?_
  rintro _ ⟨⟨dq, osq⟩, rfl⟩
  have B3 := Lib.hid (thenBelow B2.out (below_regrown w2 dq osq))
  generalize Sort.grow (redrawn w2 dq) osq = w3 at B3 ⊢
  clear a0 a1 a2 b0 b1 b2 q2 q3
  have hn := heap_alloc_new w3 (.cells #[.int .i64 x2, .int .i64 x3] 3)
  have hO := Lib.hid (orL_is w3.heap.size [x2, x3] (w3.alloc (.cells #[.int .i64 x2, .int .i64 x3] 3)) (fun i hi => by
    have hi3 : i < 2 := hi
    match i, hi3 with
    | 0, _ => exact (cell_of_row _ w3.heap.size 0 _ _ _ hn).trans rfl
    | 1, _ => exact (cell_of_row _ w3.heap.size 1 _ _ _ hn).trans rfl) (by simp))
  have B4 := Lib.hid (thenBelow B3.out (below_alloc w3 (.cells #[.int .i64 x2, .int .i64 x3] 3)))
  clear hn
  go_wp2_with fail
  refine hO.out.mono ?_
  rintro e w' ⟨rfl, rfl⟩
  go_wp2
  go_ret
  exact ⟨by rw [HD.out]; rfl, B4.out⟩
/-- the oldest of the first ones -/
def oldP (b a : EvP) : EvP := if oldB a.e b.e = true then a else b
def bst (E : List EvP) (k : Nat) (x : EvP) : EvP := (E.take k).foldl oldP x
theorem bst_succ (E : List EvP) (k : Nat) (x : EvP) (h : k < E.length) : bst E (k + 1) x = oldP (bst E k x) E[k] := by
  unfold bst; rw [List.take_succ_eq_append_getElem h, List.foldl_append]; rfl
theorem bst_one (E : List EvP) (h : 0 < E.length) : bst E 1 E[0] = E[0] := by
  rw [bst_succ E 0 _ h]
  show oldP E[0] E[0] = E[0]
  unfold oldP; split <;> rfl
def MinR (w : World) (x : EvP) (e : Ending) (w' : World) : Prop := e = .returned (.agg x.cells.toArray) ∧ Below w.heap.size w w'
theorem exec_idxE {P : Program} {o : Oper} {a : Act} (t : TypeId) (x y : Operand) (ho : o.op = .indexAddr t x y) (hu : P.underlying t = some (.slice (P.elem t))) (hsz : ∀ w : World, (sizeOf (P.elem t)).run P w = .ok 8 w) (b f : Nat) (len cap k : Nat) (hx : a.eval x = .slice (some ⟨b, f, none⟩) len cap) (hy : a.eval y = .int .i64 (k : Int)) (hk : k < len) (w : World) :
    (execOp a.eval o).run P w = .ok (.value (.pointer (some ⟨b, f + k * 8, none⟩))) w := by
  unfold execOp
  simp only [ho, hx, hy]
  refine run_value_of ?_
  rw [run_indexAt_slice (h := hu), if_pos (by omega), hsz]
  simp only [Result.andThen_ok, Int.toNat_natCast]
  cases k <;> simp [Addr.add]
set_option maxHeartbeats 4000000 in
theorem minF_is (p : Option Addr) (c : Nat) (E : List EvP) (w : World) (h : EvsAt w p E) (hn : E.length ≤ 10000) (h0 : 0 < E.length) :
    Calls Tryd.prog 16 #[.slice p E.length c, .func (.func 17) #[] #[]] w (MinR w (bst E E.length E[0])) := by
  obtain ⟨b, o, rfl, hlt, hq⟩ := h.at h0
  have HE := Lib.hid h
  clear h
  have CM := Lib.hid (fun (x y : EvP) (V : World) => oldC_is x y V)
  have h1 : ¬ ((E.length : Int) < 1) := by omega
  have BO := Lib.hid (bst_one E h0)
  obtain ⟨x0, hx0⟩ : ∃ x0, E[0] = x0 := ⟨_, rfl⟩
  rw [hx0] at hq BO ⊢
  rw [Nat.zero_mul, Nat.add_zero] at hq
  have HQ := Lib.hid hq
  clear hx0 hq
  go_enter Tryd.func16, Tryd.ntmps16
  go_wp2_with (refine wpList_galloc _ zeroEvA rfl rfl ?_)
  intro g4 w1 l4 h4 hb1
  have B1 := Lib.hid hb1; have R1 := Lib.hid h4
  have Q1 := Lib.hid (range_below HQ.out hb1)
  clear hb1 h4
  go_wp2_with (first | refine wpList_gload rfl _ rfl b o rfl _ Q1.out _ Tryd.underlying48 rfl (sizeEvA x0) ?_ | refine wpList_galloc _ zeroEvA rfl rfl ?_)
  intro g5 w2 l5 h5 hb2
  have B2 := Lib.hid (thenBelow B1.out hb2); have R2 := Lib.hid ((hb2.block g4 (Array.getElem?_eq_some_iff.1 R1.out).1).trans R1.out); have P2 := Lib.hid h5
  have h45 : g4 < g5 := Nat.lt_of_lt_of_le (Array.getElem?_eq_some_iff.1 R1.out).1 l5
  have l5W := Nat.le_trans B1.out.size l5
  have l4W := l4
  clear hb2 h5 R1 B1 Q1
  go_wp2_with (refine wpList_gstore rfl _ _ rfl g5 rfl x0.cells.toArray rfl _ _ P2.out (by rw [List.size_toArray]; exact sizeEvA x0) rfl (fun v hv => x0.cells_one v (by simpa using hv)) ?_)
  intro w3 h5 gr3
  have P3 := Lib.hid h5; have B3 := Lib.hid (B2.out.trans (grown_below gr3 B2.out.size l5W)); have R3 := Lib.hid ((gr3.block g4 (Array.getElem?_eq_some_iff.1 R2.out).1 (by simp; omega)).trans R2.out)
  clear h5 gr3 P2 B2 R2
  go_wp2
  generalize hZ : (#[.int .i64 0, .int .i64 0, .int .i64 0, .int .i64 0, .string ByteArray.empty, .int .i64 0, .string ByteArray.empty, .slice none 0 0] : Array Value) = Z0 at R3
  have hz0 : Z0.size = 8 := by rw [← hZ]; rfl
  clear hZ
  go_loopw [6] (fun i wr => ∃ k : Nat, 1 ≤ k ∧ k ≤ E.length ∧ i = .int .i64 k ∧ wr.heap[g5]? = some (.cells (bst E k x0).cells.toArray 48 (0, 0)) ∧ wr.heap[g4]? = some (.cells Z0 48 (0, 0)) ∧ Below w.heap.size w wr) (fun i _ => E.length - (RowKit.intOf i).toNat)
  case atStart => exact ⟨1, Nat.le_refl _, h0, rfl, by rw [BO.out]; exact P3.out, R3.out, B3.out⟩
  case round =>
    obtain ⟨k, hk1, hk, rfl, p5, p4, hb⟩ := hrel
    clear P3 R3 B3
    have P3 := Lib.hid p5; have R3 := Lib.hid p4; have B3 := Lib.hid hb
    clear p5 p4 hb
    by_cases hkl : k < E.length
    · have hkl' : (k : Int) < E.length := by omega
      have BS := Lib.hid (bst_succ E k x0 hkl)
      obtain ⟨b', o', e', hlt', hq⟩ := (HE.out.below B3.out).at hkl
      injection e' with e'
      injection e' with e1 e2 _
      subst e1; subst e2
      obtain ⟨y, hy⟩ : ∃ y, E[k] = y := ⟨_, rfl⟩
      obtain ⟨z, hz⟩ : ∃ z, bst E k x0 = z := ⟨_, rfl⟩
      rw [hy] at hq BS
      rw [hz] at BS P3
      have HQ := Lib.hid hq
      clear hy hz hq
      have h8 : z.cells.toArray.size = 8 := rfl
      go_wp2_with fail
      rename_i K3 hK3 h9
      clear h9
      have q0 := HQ.out
      have m0 : wr.drew.rangeAt b (o + k * 8) y.cells ∧ wr.drew.heap[g5]? = some (.cells z.cells.toArray 48 (0, 0)) ∧ wr.drew.heap[g4]? = some (.cells Z0 48 (0, 0)) ∧ Below w.heap.size w wr.drew := ⟨range_below q0 (to_drew (Below.refl _ _)), P3.out, R3.out, to_drew B3.out⟩
      refine rg_calm (by kernel_rfl) rfl (S := fun U => U.rangeAt b (o + k * 8) y.cells ∧ U.heap[g5]? = some (.cells z.cells.toArray 48 (0, 0)) ∧ U.heap[g4]? = some (.cells Z0 48 (0, 0)) ∧ Below w.heap.size w U) ?_
      refine rgd_pure 0 (some 20) rfl rfl (.func (.func 17) #[] #[]) (by kernel_rfl) (by kernel_rfl) (by kernel_rfl) (fun _ _ _ _ h => h) (by kernel_rfl) (fun w => by kernel_rfl) m0 ?_
      refine rgd_pure 1 (some 21) rfl rfl (.slice (some ⟨b, o, none⟩) E.length c) (by kernel_rfl) (by kernel_rfl) (by kernel_rfl) (fun _ _ _ _ h => h) (by kernel_rfl) (fun w => by kernel_rfl) m0 ?_
      refine rgd_pure 2 (some 22) rfl rfl (.int .i64 k) (by kernel_rfl) (by kernel_rfl) (by kernel_rfl) (fun _ _ _ _ h => h) (by kernel_rfl) (fun w => by kernel_rfl) m0 ?_
      refine rgd_pure 3 (some 23) rfl rfl (.pointer (some ⟨b, o + k * 8, none⟩)) (by kernel_rfl) (by kernel_rfl) (by kernel_rfl) (fun _ _ _ _ h => h) (by kernel_rfl) (fun w => exec_idxE 27 _ _ rfl (by kernel_rfl) (fun w => by kernel_rfl) b o E.length c k (by kernel_rfl) (by kernel_rfl) hkl w) m0 ?_
      refine rgd_pureS 4 (some 24) rfl rfl (.agg y.cells.toArray) (by kernel_rfl) (by kernel_rfl) (by kernel_rfl) (fun _ _ _ _ h => h) (by kernel_rfl) (fun U hU => exec_gload 48 _ rfl b (o + k * 8) (by kernel_rfl) _ hU.1 Tryd.underlying48 rfl (sizeEvA y)) m0 ?_
      refine rgd_pureS 5 (some 25) rfl rfl (.agg z.cells.toArray) (by kernel_rfl) (by kernel_rfl) (by kernel_rfl) (fun _ _ _ _ h => h) (by kernel_rfl) (fun U hU => exec_gload 48 _ rfl g5 0 (by kernel_rfl) z.cells (range_of_block hU.2.1) Tryd.underlying48 rfl (sizeEvA z)) m0 ?_
      refine rgd_call 6 (some 26) (by kernel_rfl) rfl rfl (by kernel_rfl) 17 (#[.agg y.cells.toArray, .agg z.cells.toArray]) (by kernel_rfl) (CM.out y z _) ?_
      rintro _ U1 ⟨rfl, bU1⟩
      have s5 := (Array.getElem?_eq_some_iff.1 m0.2.1).1
      have s4 := (Array.getElem?_eq_some_iff.1 m0.2.2.1).1
      have m1 : U1.rangeAt b (o + k * 8) y.cells ∧ U1.heap[g5]? = some (.cells z.cells.toArray 48 (0, 0)) ∧ U1.heap[g4]? = some (.cells Z0 48 (0, 0)) ∧ Below w.heap.size w U1 := ⟨range_below m0.1 bU1, (bU1.block g5 s5).trans m0.2.1, (bU1.block g4 s4).trans m0.2.2.1, thenBelow m0.2.2.2 bU1⟩
      refine ⟨_, rfl, m1, ?_⟩
      refine rgd_pure 7 (some 27) rfl rfl (.bool (decide (cmpE y z < 0))) (by kernel_rfl) (by kernel_rfl) (by kernel_rfl) (fun _ _ _ _ h => h) (by kernel_rfl) (fun w => exec_lss _ _ _ _ rfl (cmpE y z) 0 _ rfl (by kernel_rfl) (by kernel_rfl) w) m1 ?_
      have M := Lib.hid m1
      clear m0 m1 bU1 s5 s4 q0 P3 R3 B3 CM
      have KE : K3 { tmps := #[.slice (some ⟨b, o, none⟩) E.length c, .func (.func 17) #[] #[], undef, undef, .pointer (some ⟨g4, 0, none⟩), .pointer (some ⟨g5, 0, none⟩), .int .i64 k, .slice (some ⟨b, o, none⟩) E.length c, .int .i64 E.length, .bool (decide ((E.length : Int) < 1)), undef, .slice (some ⟨b, o, none⟩) E.length c, .pointer (some ⟨b, o, none⟩), .agg x0.cells.toArray, .int .i64 k, .slice (some ⟨b, o, none⟩) E.length c, .int .i64 E.length, .bool true, u18, u19, .func (.func 17) #[] #[], .slice (some ⟨b, o, none⟩) E.length c, .int .i64 k, .pointer (some ⟨b, o + k * 8, none⟩), .agg y.cells.toArray, .agg z.cells.toArray, .int .i64 (cmpE y z), .bool (decide (cmpE y z < 0)), u28, u29, u30, u31, undef], defers := [] } U1 := by
        refine hK3 _ _ ?_
        clear hK3
        by_cases hc : cmpE y z < 0
        · have BE : Hid (bst E (k + 1) x0 = y) := Lib.hid (by rw [BS.out]; unfold oldP; rw [if_pos ((old_cmp y.e z.e).1 hc)])
          go_wp2_with (first | refine wpList_gload rfl _ rfl b (o + k * 8) rfl _ M.out.1 _ Tryd.underlying48 rfl (sizeEvA y) ?_ | refine wpList_gstore rfl _ _ rfl g5 rfl y.cells.toArray rfl _ _ M.out.2.1 (by rw [List.size_toArray]; exact sizeEvA y) rfl (fun v hv => y.cells_one v (by simpa using hv)) ?_)
          intro w5 h5 gr5
          have P5 := Lib.hid h5; have B5 := Lib.hid (M.out.2.2.2.trans (grown_below gr5 M.out.2.2.2.size l5W)); have R5 := Lib.hid ((gr5.block g4 (Array.getElem?_eq_some_iff.1 M.out.2.2.1).1 (by simp; omega)).trans M.out.2.2.1)
          clear h5 gr5 M
          go_wp2
          go_roundw
          case rel => exact ⟨k + 1, by omega, by omega, by go_num, by rw [BE.out]; exact P5.out, R5.out, B5.out⟩
          case measure => simp [intOf]; omega
        · have BE : Hid (bst E (k + 1) x0 = z) := Lib.hid (by rw [BS.out]; unfold oldP; rw [if_neg (fun q => hc ((old_cmp y.e z.e).2 q))])
          go_wp2
          go_roundw
          case rel => exact ⟨k + 1, by omega, by omega, by go_num, by rw [BE.out]; exact M.out.2.1, M.out.2.2.1, M.out.2.2.2⟩
          case measure => simp [intOf]; omega
      exact wpAnyH_done (by kernel_rfl) (Eq.mp (by kernel_rfl) KE) _
    · obtain rfl : k = E.length := by omega
      have hkl' : ¬ ((E.length : Nat) : Int) < E.length := by omega
      obtain ⟨z, hz⟩ : ∃ z, bst E E.length x0 = z := ⟨_, rfl⟩
      rw [hz] at P3
      have HZ := Lib.hid hz
      clear hz
      have Q3 : Hid (wr.rangeAt g5 0 z.cells) := Lib.hid (range_of_block P3.out)
      go_wp2_with (first | refine wpList_gload rfl _ rfl g5 0 rfl _ Q3.out _ Tryd.underlying48 rfl (sizeEvA z) ?_ | refine wpList_gstore rfl _ _ rfl g4 rfl z.cells.toArray rfl _ _ R3.out (by rw [List.size_toArray]; exact sizeEvA z) hz0 (fun v hv => z.cells_one v (by simpa using hv)) ?_)
      intro w5 h5 gr5
      have P5 := Lib.hid h5; have B5 := Lib.hid (B3.out.trans (grown_below gr5 B3.out.size l4W))
      clear h5 gr5
      go_wp2
      exact bodyPost_ret (v := .agg z.cells.toArray) (results_cell_row rfl _ _ g4 _ _ (0, 0) _ rfl P5.out Tryd.underlying48 rfl (by rw [List.size_toArray]; exact sizeEvA z)) rfl ⟨by rw [HZ.out], B5.out⟩
/-- the oldest event's dot, and whether there is one -/
def oldD : List EvP → Int × Int × Bool
  | [] => (0, 0, false)
  | x :: l => ((bst (x :: l) (x :: l).length x).e.rep, (bst (x :: l) (x :: l).length x).e.n, true)
theorem oldD_pos (E : List EvP) (h : 0 < E.length) : oldD E = ((bst E E.length E[0]).e.rep, (bst E E.length E[0]).e.n, true) := by
  cases E with
  | nil => simp at h
  | cons x l => rfl
def OldR (w : World) (d : Int × Int × Bool) (e : Ending) (w' : World) : Prop := e = .returned (.tuple #[.agg (dcs d.1 d.2.1), .bool d.2.2]) ∧ Below w.heap.size w w'
theorem zeroDtA : ∀ w : World, (zeroValue 39).run Tryd.prog w = .ok (.agg (dcs 0 0)) w := fun w => by kernel_rfl
theorem sizeDtA (r n : Int) : (Tryd.prog.info? 39).map (·.size) = some (dcs r n).size := by kernel_rfl
theorem dcs_one (r n : Int) : ∀ v ∈ (dcs r n).toList, v.oneCell' = true := by intro v hv; simp [dcs] at hv; rcases hv with rfl | rfl <;> rfl
theorem builtDtA (w : World) : (Instr.build 39 #[]).run Tryd.prog w = .ok (.agg (dcs 0 0)) w := run_build w _ _ _ (by kernel_rfl)
set_option maxHeartbeats 4000000 in
theorem oldest_is (p : Option Addr) (c : Nat) (E : List EvP) (fl : Nat → Int) (w : World) (h : EvsAt w p E) (hn : E.length ≤ 10000) :
    Calls Tryd.prog 9 #[.agg (pcs (.slice p E.length c) fl)] w (OldR w (oldD E)) := by
  have HE := Lib.hid h
  clear h
  go_enter Tryd.func9, Tryd.ntmps9
  go_wp2_with (refine wpList_gbox rfl _ rfl (pcs (.slice p E.length c) fl) rfl ?_)
  intro g1 w1 l1 h1 hb1
  have P1 : Hid (Px w1 g1 (.slice p E.length c) fl) := Lib.hid h1
  have B1 := Lib.hid hb1
  clear h1 hb1
  go_wp2_with (refine wpList_galloc _ zeroDtA rfl rfl ?_)
  intro g2 w2 l2 h2 hb2
  have P2 := Lib.hid (P1.out.later hb2); have B2 := Lib.hid (thenBelow B1.out hb2)
  have D2 : Hid (w2.heap[g2]? = some (.cells (dcs 0 0) 39 (0, 0))) := Lib.hid h2
  have lW := Nat.le_trans B1.out.size l2
  clear h2 hb2 P1 B1
  have k0 := P2.out.slot
  rcases Nat.eq_zero_or_pos E.length with h0 | h0
  · obtain rfl : E = [] := List.eq_nil_of_length_eq_zero h0
    have BD := Lib.hid builtDtA
    clear h0
    go_wp2_with (first | refine wpList_pbuild (by rfl) _ rfl (dcs 0 0) (by simp only [List.map_toArray, List.map_nil]; exact BD.out _) ?_ | refine wpList_gstore rfl _ _ rfl g2 rfl (dcs 0 0) rfl _ _ D2.out (sizeDtA 0 0) rfl (dcs_one 0 0) ?_)
    intro w3 h3 gr3
    have D3 := Lib.hid h3; have B3 := Lib.hid (B2.out.trans (grown_below gr3 B2.out.size lW))
    clear h3 gr3
    go_wp2
    exact bodyPost_ret (v := .tuple #[.agg (dcs 0 0), .bool false]) (results_cell_two (p := 2) (q := 3) rfl _ _ g2 _ _ (0, 0) _ rfl D3.out Tryd.underlying39 rfl (sizeDtA 0 0) (.bool false) rfl) rfl ⟨rfl, B3.out⟩
  · have MF := Lib.hid (minF_is p c E w2 (HE.out.below B2.out) hn h0)
    have hne : ¬ ((E.length : Int) = 0) := by omega
    have HZ := Lib.hid (oldD_pos E h0)
    generalize bst E E.length E[0] = z at MF HZ
    clear HE h0
    go_wp2_with fail
    refine MF.out.mono ?_
    rintro e w3 ⟨rfl, hb3⟩
    have B3 := Lib.hid (thenBelow B2.out hb3); have D3 := Lib.hid ((hb3.block g2 (Array.getElem?_eq_some_iff.1 D2.out).1).trans D2.out)
    clear hb3 MF D2 B2 P2 k0
    go_wp2_with (refine wpList_galloc _ zeroEvA rfl rfl ?_)
    intro g4 w4 l4 h4 hb4
    have B4 := Lib.hid (thenBelow B3.out hb4); have D4 := Lib.hid ((hb4.block g2 (Array.getElem?_eq_some_iff.1 D3.out).1).trans D3.out); have E4 := Lib.hid h4
    have h24 : g2 < g4 := Nat.lt_of_lt_of_le (Array.getElem?_eq_some_iff.1 D3.out).1 l4
    have l4W := Nat.le_trans B3.out.size l4
    clear h4 hb4 B3 D3
    go_wp2_with (refine wpList_gstore rfl _ _ rfl g4 rfl z.cells.toArray rfl _ _ E4.out (by rw [List.size_toArray]; exact sizeEvA z) rfl (fun v hv => z.cells_one v (by simpa using hv)) ?_)
    intro w5 h5 gr5
    have B5 := Lib.hid (B4.out.trans (grown_below gr5 B4.out.size l4W)); have D5 := Lib.hid ((gr5.block g2 (Array.getElem?_eq_some_iff.1 D4.out).1 (by simp; omega)).trans D4.out)
    have R5 : Hid (w5.rangeAt g4 0 (dcs z.e.rep z.e.n).toList) := Lib.hid fun j u hu => by
      have h := range_of_block h5
      match j, hu with
      | 0, hu => exact h 0 u hu
      | 1, hu => exact h 1 u hu
    clear h5 gr5 B4 D4 E4
    go_wp2_with (first | refine wpList_gload rfl _ rfl g4 0 rfl _ R5.out _ Tryd.underlying39 rfl (sizeDtA z.e.rep z.e.n) ?_ | refine wpList_gstore rfl _ _ rfl g2 rfl (dcs z.e.rep z.e.n) rfl _ _ D5.out (sizeDtA _ _) rfl (dcs_one _ _) ?_)
    intro w6 h6 gr6
    have B6 := Lib.hid (B5.out.trans (grown_below gr6 B5.out.size lW)); have D6 := Lib.hid h6
    clear h6 gr6
    go_wp2
    exact bodyPost_ret (v := .tuple #[.agg (dcs z.e.rep z.e.n), .bool true]) (results_cell_two (p := 2) (q := 3) rfl _ _ g2 _ _ (0, 0) _ rfl D6.out Tryd.underlying39 rfl (sizeDtA _ _) (.bool true) rfl) rfl ⟨by rw [HZ.out], B6.out⟩
end Go.Proofs.YtehocohpfgabiaaDoor
