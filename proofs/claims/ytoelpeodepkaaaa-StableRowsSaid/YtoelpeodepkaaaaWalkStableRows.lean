/- The walk of StableRows. -/
import Derived.Test.YtoelpeodepkaaaaStHeard
import Derived.Test.YtoelpeodepkaaaaEqualI
namespace Go.Proofs.Ytoelpeodepkaaaa
open Go Go.RowKit
set_option linter.unusedVariables false

theorem Row.under {w w' : World} {g B : Nat} {t : TypeId} {f : Nat → Int} (h : Row w g t f) (hb : Below B w w') (hB : g < B) : Row w' g t f := h.below hb hB

set_option maxHeartbeats 4000000 in
set_option maxRecDepth 100000 in
theorem stableRows_out (x : Int) (p : Option Addr) (n c : Nat) (rep : Int) (f : Nat → Int) (W : World) (hx : x < 1 ∨ 64 < x) :
    Calls Try.prog 4 #[.int .i64 x, .slice p n c, .int .i64 rep, .agg (vf f)] W (Yes W) := by
  go_enter Try.func4, Try.ntmps4
  go_wp2_with (refine wpList_vbox vecI rfl _ rfl f rfl ?_)
  intro g7 w1 l7 r7 hb1
  have B1 := Lib.hid hb1
  have N := Lib.hid (new_out x w1 hx)
  have AW := Lib.hid (awake9 w1)
  clear hb1 r7
  rcases (show x < 1 ∨ (¬ x < 1 ∧ x > 64) by omega) with h1 | ⟨h1, h2⟩
  all_goals
    clear hx
    go_wp2_with fail
    refine N.out.mono ?_
    rintro e w' ⟨rfl, rfl⟩
    go_wp2_with fail
    refine AW.out.mono ?_
    rintro e w2 ⟨rfl, hb2⟩
    have B2 := Lib.hid (thenBelow B1.out hb2)
    go_wp2
    go_ret
    exact ⟨rfl, B2.out⟩

theorem base_of {w W : World} {a G n g7 G2 : Nat} {R : Nat → Nat → Int} {f : Nat → Int} {t : TypeId} (M : Mx w a G n R) (R7 : Row w g7 t f) (RW : Rws w G2 n R) (B : Below W.heap.size W w) :
    ∃ Bq, (a < Bq ∧ G < Bq ∧ g7 < Bq ∧ G2 < Bq) ∧ W.heap.size ≤ Bq ∧ Bq ≤ w.heap.size := ⟨_, ⟨M.alt, M.glt, R7.lt, RW.lt M.pos⟩, B.size, Nat.le_refl _⟩

set_option maxHeartbeats 16000000 in
set_option maxRecDepth 100000 in
theorem stableRows_in (x : Int) (N : Nat) (p : Option Addr) (n c : Nat) (E : Nat → List Value) (rep : Int) (f : Nat → Int) (W : World) (hl : CameR W p n c 65 IsHeard E) (hx : x = N) (hN0 : 0 < N) (hN : N ≤ 64) :
    Calls Try.prog 4 #[.int .i64 x, .slice p n c, .int .i64 rep, .agg (vf f)] W (Yes W) := by
  obtain ⟨r, F, hH⟩ := hl.heard
  have H := Lib.hid hH
  have hle := hH.le; have hmx := hH.max
  unfold maxLen at hmx
  subst hx
  clear hl hH
  go_enter Try.func4, Try.ntmps4
  go_wp2_with (refine wpList_vbox vecI rfl _ rfl f rfl ?_)
  intro g7 w1 l7 r7 hb1
  have B1 := Lib.hid hb1; have R71 := Lib.hid r7
  have NW := Lib.hid (new_in N N w1 rfl hN0 hN)
  clear hb1 r7
  go_wp2_with fail
  refine NW.out.mono ?_
  rintro e w2 ⟨a, G, rfl, ha, hG, hm, hb2⟩
  have B2 := Lib.hid (thenBelow B1.out hb2); have M2 := Lib.hid hm; have R72 := Lib.hid (R71.out.later hb2)
  have h7G : g7 < G := Nat.lt_of_lt_of_le R71.out.lt hG
  have h7a : g7 < a := Nat.lt_of_lt_of_le R71.out.lt ha
  have hlG := Nat.le_trans B1.out.size hG
  have hn1 : ¬ (N : Int) < 1 := by omega
  have hn2 : ¬ (N : Int) > 64 := by omega
  clear hb2 hm NW
  obtain ⟨cs, hmk, hr⟩ := mkV N hN N rfl w2
  have HR0 := Lib.hid hr
  clear hr
  go_wp2
  have hbm := below_alloc w2 (.cells cs 37)
  have B3 := Lib.hid (thenBelow B2.out hbm); have M3 := Lib.hid (M2.out.later hbm); have R73 := Lib.hid (R72.out.later hbm)
  obtain ⟨G2, hG2⟩ : ∃ G2, G2 = w2.heap.size := ⟨_, rfl⟩
  have hGG : G < G2 := by rw [hG2]; exact M2.out.glt
  have haG2 : a < G2 := by rw [hG2]; exact M2.out.alt
  have h7G2 : g7 < G2 := by rw [hG2]; exact R72.out.lt
  rw [← hG2] at HR0 ⊢
  generalize w2.alloc (.cells cs 37) = w3 at HR0 B3 M3 R73 ⊢
  clear hbm hmk hG2
  go_loopw [35] (fun i wr => ∃ (k : Nat) (R : Nat → Nat → Int), k ≤ n ∧ i = .int .i64 k ∧ Row wr g7 37 f ∧ Mx wr a G N R ∧ Rws wr G2 N R ∧ Below W.heap.size W wr) (fun i _ => n - (intOf i).toNat)
  case atStart => exact ⟨0, _, by omega, rfl, R73.out, M3.out, HR0.out, B3.out⟩
  case round =>
    obtain ⟨k, R, hk, rfl, hr7, hm, hrw, hb⟩ := hrel
    obtain ⟨wo, rfl⟩ : ∃ wo : World, wo = wr := ⟨_, rfl⟩
    have B := Lib.hid hb; have M := Lib.hid hm; have R7 := Lib.hid hr7; have RW := Lib.hid hrw
    clear hb hm hr7 hrw
    by_cases hgo : k < n ∧ k < 60
    · obtain ⟨hlt, h60⟩ := hgo
      obtain ⟨b, o, rfl, hc⟩ := (H.out.later B.out).lies (by omega)
      have HR := Lib.hid (hc k hlt)
      have hwd := H.out.wide k hlt
      have hkI : (k : Int) < n := by omega
      have hk60 : ¬ (k : Int) ≥ 60 := by omega
      clear hc
      go_wp2_with (first | refine wpList_gload rfl _ rfl b (o + k * 65) rfl _ HR.out _ Try.underlying42 rfl (sizeHl (r k) (F k)) ?_ | refine wpList_galloc _ zeroH rfl rfl ?_)
      intro g8 w5 l8 h8 hb5
      have B5 := Lib.hid (thenBelow B.out hb5); have M5 := Lib.hid (M.out.later hb5); have R75 := Lib.hid (R7.out.later hb5); have RW5 := Lib.hid (RW.out.later hb5)
      have hG8 : G < g8 := Nat.lt_of_lt_of_le M.out.glt l8
      have ha8 : a < g8 := Nat.lt_of_lt_of_le M.out.alt l8
      have h78 : g7 < g8 := Nat.lt_of_lt_of_le R7.out.lt l8
      have h28 : G2 < g8 := Nat.lt_of_lt_of_le (RW.out.lt hN0) l8
      have lw8 := Nat.le_trans B.out.size l8
      clear hb5
      go_wp2_with (refine wpList_gstore rfl _ _ rfl g8 rfl (hcs (r k) (F k)) rfl _ _ h8 (sizeH (r k) (F k)) (by rw [hcs_size, hcs_size]) (hcs_one (r k) (F k)) ?_)
      intro w6 h86 g86
      have B6 := Lib.hid (B5.out.trans (grown_below g86 B5.out.size lw8)); have M6 := Lib.hid (M5.out.kept g86 (by simp; omega) (by simp; omega)); have R76 := Lib.hid (R75.out.kept g86 (by simp; omega)); have RW6 := Lib.hid (RW5.out.kept g86 (by simp; omega))
      obtain ⟨hv0, hv1⟩ := heard_var h86
      have HV0 := Lib.hid hv0; have HV1 := Lib.hid hv1
      clear h86 g86 h8 hv1
      have NT := fun bb hbb => note_any a G N R (r k) (F k) w6 M6.out bb hbb
      by_cases hin : 0 ≤ r k ∧ r k < N
      · have NT := Lib.hid (NT true (by simp [hin]))
        obtain ⟨i, hi⟩ : ∃ i : Nat, r k = (i : Int) := ⟨(r k).toNat, by omega⟩
        have hiN : i < N := by omega
        have HJ : Hid (jn R N (r k) (F k) = rset R i (fun j => max (R i j) (F k j))) := by
          show _ = _
          rw [jn_in _ _ _ _ hin, hi, Int.toNat_natCast]; rfl
        rw [HJ.out] at NT
        rw [hi] at NT hv0 HV0 hwd hin
        have hi1 : (i : Int) ≥ 0 := by omega
        have hi2 : (i : Int) < N := by omega
        clear hin HR hi
        generalize F k = Fk at NT HV1 HJ
        go_wp2_with (first | refine wpList_vmid vecI rfl _ rfl g8 1 rfl _ HV1.out ?_)
        refine NT.out.mono ?_
        rintro e w7 ⟨rfl, hm7, hg7⟩
        have B7 := Lib.hid (B6.out.trans (grown_below hg7 B6.out.size hlG)); have M7 := Lib.hid hm7; have R77 := Lib.hid (R76.out.kept hg7 (by simp; omega)); have RW7 := Lib.hid (RW6.out.kept hg7 (by simp; omega))
        have HV17 : Hid (w7.rangeAt g8 1 (vf Fk).toList) := fun j v hv => hg7.cell (HV1.out j v hv) (by simp; omega)
        have hv07 := cell_regrown (hg7.cell HV0.out (by simp; omega))
        have hrow := Lib.hid (RW7.out.row i hiN)
        have cJ := quiet_call (w := w7) (refJoin_is (R i) Fk)
        have hv07' := hg7.cell HV0.out (by simp; omega)
        clear hm7 hg7 NT hv0
        go_wp2
        refine wp_region_below_tail 12 (by kernel_rfl) (by kernel_rfl) ?_
        simp only [List.take_succ_cons, List.take_zero, List.drop_succ_cons, List.drop_zero]
        iterate 7 (quiet_step (fail))
        refine wpQuiet_vmid vecI rfl _ rfl G2 (i * 64) rfl _ (fun _ h => quiet_range hrow.out h) ?_
        quiet_step (fail)
        refine wpQuiet_vmid vecI rfl _ rfl g8 1 rfl _ (fun _ h => quiet_range HV17.out h) ?_
        quiet_step (exact cJ _ _)
        quiet_step (fail)
        refine wpQuiet_nil ?_
        rintro _ ⟨⟨dq, osq⟩, rfl⟩
        have hb2 := below_regrown w7 dq osq
        have M8 := Lib.hid (M7.out.later hb2); have R78 := Lib.hid (R77.out.later hb2); have RW8 := Lib.hid (RW7.out.later hb2); have B8 := Lib.hid (thenBelow B7.out hb2)
        generalize Sort.grow (redrawn w7 dq) osq = wq at hb2 M8 R78 RW8 B8
        clear hb2 hv07 cJ hv07'
        refine wpList_vput vecI rfl _ _ rfl G2 (i * 64) _ rfl rfl (RW8.out.free i hiN) ?_
        have hgc := grown_cells G2 (vf fun j => max (R i j) (Fk j)).toList (i * 64) wq
        have M9 := Lib.hid (M8.out.kept hgc (by simp; omega) (by simp; omega)); have R79 := Lib.hid (R78.out.kept hgc (by simp; omega)); have RW9 := Lib.hid (RW8.out.set i hiN (fun j => max (R i j) (Fk j))); have B9 := Lib.hid (B8.out.trans (grown_below hgc B8.out.size (by omega)))
        clear hgc
        generalize wq.setCells G2 (i * 64) (vf fun j => max (R i j) (Fk j)).toList = wz at M9 R79 RW9 B9 ⊢
        go_wp2
        go_roundw
        case rel => exact ⟨k + 1, _, by omega, by go_num, R79.out, M9.out, RW9.out, B9.out⟩
        case measure => simp [intOf]; omega
      · have NT := Lib.hid (NT false (by simp; omega))
        have HJ : Hid (jn R N (r k) (F k) = R) := jn_out _ _ _ _ hin
        rw [HJ.out] at NT
        clear HR HJ
        generalize F k = Fk at NT HV1
        generalize r k = rk at NT hv0 hwd hin
        rcases (show rk < 0 ∨ (0 ≤ rk ∧ (N : Int) ≤ rk) by omega) with hrk | ⟨hrk, hrk2⟩
        all_goals
          go_wp2_with (first | refine wpList_vmid vecI rfl _ rfl g8 1 rfl _ HV1.out ?_)
          refine NT.out.mono ?_
          rintro e w7 ⟨rfl, hm7, hg7⟩
          have B7 := Lib.hid (B6.out.trans (grown_below hg7 B6.out.size hlG)); have M7 := Lib.hid hm7; have R77 := Lib.hid (R76.out.kept hg7 (by simp; omega)); have RW7 := Lib.hid (RW6.out.kept hg7 (by simp; omega))
          clear hm7 hg7 hv0
          go_wp2
          go_roundw
          case rel => exact ⟨k + 1, R, by omega, by go_num, R77.out, M7.out, RW7.out, B7.out⟩
          case measure => simp [intOf]; omega
    · rcases (show k = n ∨ (k < n ∧ 60 ≤ k) by omega) with rfl | ⟨hlt, h60⟩
      case' inr =>
        obtain ⟨b, o, rfl, hc⟩ := (H.out.later B.out).lies (by omega)
        have HR := Lib.hid (hc k hlt)
        have hkI : (k : Int) < n := by omega
        have hk60 : (k : Int) ≥ 60 := by omega
        clear hc
        go_wp2_with (first | refine wpList_gload rfl _ rfl b (o + k * 65) rfl _ HR.out _ Try.underlying42 rfl (sizeHl (r k) (F k)) ?_ | refine wpList_galloc _ zeroH rfl rfl ?_)
        intro g8 w5 l8 h8 hb5
        have B5 := Lib.hid (thenBelow B.out hb5); have M5 := Lib.hid (M.out.later hb5); have R75 := Lib.hid (R7.out.later hb5); have RW5 := Lib.hid (RW.out.later hb5)
        have hG8 : G < g8 := Nat.lt_of_lt_of_le M.out.glt l8
        have ha8 : a < g8 := Nat.lt_of_lt_of_le M.out.alt l8
        have h78 : g7 < g8 := Nat.lt_of_lt_of_le R7.out.lt l8
        have h28 : G2 < g8 := Nat.lt_of_lt_of_le (RW.out.lt hN0) l8
        have lw8 := Nat.le_trans B.out.size l8
        clear hb5
        go_wp2_with (refine wpList_gstore rfl _ _ rfl g8 rfl (hcs (r k) (F k)) rfl _ _ h8 (sizeH (r k) (F k)) (by rw [hcs_size, hcs_size]) (hcs_one (r k) (F k)) ?_)
        intro w6 h86 g86
        clear B M R7 RW
        have B := Lib.hid (B5.out.trans (grown_below g86 B5.out.size lw8)); have M := Lib.hid (M5.out.kept g86 (by simp; omega) (by simp; omega)); have R7 := Lib.hid (R75.out.kept g86 (by simp; omega)); have RW := Lib.hid (RW5.out.kept g86 (by simp; omega))
        clear h86 g86 h8 B5 M5 R75 RW5 HR
      all_goals
        obtain ⟨Bq, ⟨hqa, hqG, hq7, hq2⟩, hqW, hqs⟩ := base_of M.out R7.out RW.out B.out
        clear hgo
        go_wp2
        go_loopw [14, 75] (fun v i wr => ∃ m : Nat, m ≤ N ∧ i = .int .i64 m ∧ wr.ownsRow Bq 3 1 v (lk R f m).length (ints (lk R f m)) ∧ Row wr g7 37 f ∧ Mx wr a G N R ∧ Rws wr G2 N R ∧ Below W.heap.size W wr ∧ Bq ≤ wr.heap.size) (fun _ i _ => N - (intOf i).toNat)
        case atStart => exact ⟨0, by omega, rfl, ⟨rfl, .inl ⟨rfl, rfl⟩⟩, R7.out, M.out, RW.out, B.out, hqs⟩
        case round =>
          obtain ⟨m, hm, rfl, hqo, hq7', hqm, hqr, hqb, hqz⟩ := hrel
          have BQ := Lib.hid hqb; have MQ := Lib.hid hqm; have Q7 := Lib.hid hq7'; have RQ := Lib.hid hqr; have OQ := Lib.hid hqo
          clear hqb hqm hq7' hqr hqo
          have hll := lk_len R f m
          by_cases hmN : m < N
          · have hmI : (m : Int) < N := by omega
            have hrow := Lib.hid (RQ.out.row m hmN)
            go_wp2_with (first | refine wpList_vmid vecI rfl _ rfl G2 (m * 64) rfl _ hrow.out ?_ | refine wpList_valloc vecI zeroV rfl rfl ?_)
            intro gx wx lx rx hbx
            have BX := Lib.hid (thenBelow BQ.out hbx); have MX := Lib.hid (MQ.out.later hbx); have X7 := Lib.hid (Q7.out.later hbx); have RX := Lib.hid (RQ.out.later hbx); have OX := Lib.hid (ownI_later OQ.out hbx); have XX := Lib.hid rx
            have hGx : G < gx := Nat.lt_of_lt_of_le MQ.out.glt lx
            have hax : a < gx := Nat.lt_of_lt_of_le MQ.out.alt lx
            have h7x : g7 < gx := Nat.lt_of_lt_of_le Q7.out.lt lx
            have h2x : G2 < gx := Nat.lt_of_lt_of_le (RQ.out.lt hN0) lx
            have lwx := Nat.le_trans BQ.out.size lx
            have hqx := hbx.size
            have hox : u14.ownBlock = none ∨ u14.ownBlock ≠ some gx := by
              rcases OQ.out.2 with ⟨rfl, _⟩ | ⟨g, cap, cur, rfl, _, q3, _⟩
              · exact .inl rfl
              · refine .inr ?_
                have hlt := (Array.getElem?_eq_some_iff.1 q3).1
                intro h
                have : g = gx := by simpa [Value.ownBlock] using h
                omega
            clear hbx rx hrow
            go_wp2_with (refine wpList_vstore vecI rfl _ _ rfl gx rfl _ rfl _ _ XX.out ?_)
            intro wy ry gy _
            have hqy := gy.size
            have BY := Lib.hid (BX.out.trans (grown_below gy BX.out.size lwx)); have MY := Lib.hid (MX.out.kept gy (by simp; omega) (by simp; omega)); have Y7 := Lib.hid (X7.out.kept gy (by simp; omega)); have RY := Lib.hid (RX.out.kept gy (by simp; omega)); have OY := Lib.hid (World.ownsRow.kept OX.out gy hox); have YY := Lib.hid ry
            clear ry gy hox
            have cR := fun d os => Calls.regrown_of (row_in a G N R m (Sort.grow (redrawn wy d) os) (MY.out.later (below_regrown wy d os)) hmN)
            have HE := vecI.equalIn 9998 (R m) (R m)
            have HN := vecI.neq (R m) (R m)
            rw [veq_self] at HE HN
            go_wp2
            refine wp_region_quiet_below (by kernel_rfl) (by kernel_rfl) ?_
            iterate 2 (quiet_step (fail))
            quiet_step (exact cR _ _)
            refine wpQuiet_vload vecI rfl _ rfl gx rfl _ _ (fun _ h => YY.out.quiet h) ?_
            quiet_step (fail)
            refine wpQuiet_nil ?_
            intro _ hw'
            obtain ⟨⟨dq, osq⟩, hw''⟩ := hw'
            subst hw''
            have hb2 := below_regrown wy dq osq
            have hqq := hb2.size
            have M2 := Lib.hid (MY.out.later hb2); have Q72 := Lib.hid (Y7.out.later hb2); have RQ2 := Lib.hid (RY.out.later hb2); have BQ2 := Lib.hid (thenBelow BY.out hb2); have OQ2 := Lib.hid (ownI_later OY.out hb2); have YY2 := Lib.hid (YY.out.later hb2)
            generalize Sort.grow (redrawn wy dq) osq = wq at hb2 M2 Q72 RQ2 BQ2 OQ2 YY2 hqq
            clear hb2 cR HE HN
            have WI := Lib.hid (refWithin_is f (R m) wq)
            have LK : Hid (lk R f (m + 1) = lk R f m ++ if vle f (R m) then [] else [(m : Int)]) := rfl
            generalize vle f (R m) = y at WI LK
            go_wp2_with (first | refine wpList_vload vecI rfl _ rfl g7 rfl _ _ Q72.out ?_ | refine wpList_vload vecI rfl _ rfl gx rfl _ _ YY2.out ?_)
            refine WI.out.mono ?_
            rintro e wk ⟨rfl, hbk⟩
            have M3 := Lib.hid (M2.out.later hbk); have Q73 := Lib.hid (Q72.out.later hbk); have RQ3 := Lib.hid (RQ2.out.later hbk); have BQ3 := Lib.hid (thenBelow BQ2.out hbk); have OQ3 := Lib.hid (ownI_later OQ2.out hbk)
            have hqk : Bq ≤ wk.heap.size := by have := hbk.size; omega
            clear hqx hqy hqq
            clear hbk WI
            cases y with
            | true =>
              have LK2 : Hid (lk R f (m + 1) = lk R f m) := by have := LK.out; rw [if_pos rfl, List.append_nil] at this; exact this
              go_wp2
              go_roundw
              case rel => exact ⟨m + 1, by omega, by go_num, by rw [LK2.out]; exact OQ3.out, Q73.out, M3.out, RQ3.out, BQ3.out, hqk⟩
              case measure => simp [intOf]; omega
            | false =>
              have LK2 : Hid (lk R f (m + 1) = lk R f m ++ [(m : Int)]) := by have := LK.out; rw [if_neg (by decide)] at this; exact this
              go_wp2_with (at_builtin; refine wpList_one (z := .int .i64 0) (b := 8) ⟨Try.underlying45, infoI64, rfl, by decide, by decide⟩ _ rfl _ _ rfl Bq (lk R f m).length (ints (lk R f m)) _ rfl OQ3.out (.int .i64 m) rfl rfl (by omega) hqk ?_)
              intro v' w6 hown6 hb6 hst6
              have O6 : Hid (w6.ownsRow Bq 3 1 v' (lk R f (m + 1)).length (ints (lk R f (m + 1)))) := by
                show World.ownsRow _ _ _ _ _ _ _
                rw [LK2.out, ints_append, List.length_append]; exact hown6
              have M6 := Lib.hid (M3.out.under hb6 hqa hqG); have Q76 := Lib.hid (Q73.out.under hb6 hq7); have RQ6 := Lib.hid (RQ3.out.under hb6 hq2); have BQ6 := Lib.hid (BQ3.out.trans (hb6.mono hqW))
              have hqf : Bq ≤ w6.heap.size := Nat.le_trans hqk hb6.size
              clear hown6 hb6 hst6
              go_wp2
              go_roundw
              case rel => exact ⟨m + 1, by omega, by go_num, O6.out, Q76.out, M6.out, RQ6.out, BQ6.out, hqf⟩
              case measure => simp [intOf]; omega
          · obtain rfl : m = N := by omega
            have HE0 := vecI.equalIn 9998 (fun _ => 0) (fun _ => 0)
            have HE1 := vecI.equalIn 9998 (stb R m) (stb R m)
            rw [veq_self] at HE0 HE1
            rcases (show (0 ≤ rep ∧ rep < m) ∨ rep < 0 ∨ (0 ≤ rep ∧ (m : Int) ≤ rep) by omega) with ⟨q1, q2⟩ | q1 | ⟨q1, q2⟩
            case' inr.inl =>
              have hd : decide (0 ≤ rep) = false := by simp; omega
              have RO := Lib.hid (row_out (some ⟨a, 0, none⟩) m rep _ (lasts_later MQ.out.sized) (by omega))
              go_wp2_with fail
              refine RO.out.mono ?_
              rintro e wk ⟨rfl, hbk⟩
              have MQ := Lib.hid (MQ.out.later hbk); have Q7 := Lib.hid (Q7.out.later hbk); have RQ := Lib.hid (RQ.out.later hbk); have BQ := Lib.hid (thenBelow BQ.out hbk); have OQ := Lib.hid (ownI_later OQ.out hbk)
              clear hbk RO
            case' inr.inr =>
              have hd : decide (rep < (m : Int)) = false := by simp; omega
              have RO := Lib.hid (row_out (some ⟨a, 0, none⟩) m rep _ (lasts_later MQ.out.sized) (by omega))
              go_wp2_with fail
              refine RO.out.mono ?_
              rintro e wk ⟨rfl, hbk⟩
              have MQ := Lib.hid (MQ.out.later hbk); have Q7 := Lib.hid (Q7.out.later hbk); have RQ := Lib.hid (RQ.out.later hbk); have BQ := Lib.hid (thenBelow BQ.out hbk); have OQ := Lib.hid (ownI_later OQ.out hbk)
              clear hbk RO
            all_goals
              have SZ := Lib.hid MQ.out.sized.calls
              have ST := Lib.hid (stable_in a G m R _ MQ.out)
              go_wp2_with (first | refine wpList_vbuild (by rfl) _ rfl (fun _ => 0) (by simp only [List.map_toArray, List.map_nil]; exact built0 _) ?_)
              refine SZ.out.mono ?_
              rintro e w' ⟨rfl, rfl⟩
              go_wp2_with fail
              refine ST.out.mono ?_
              rintro e wk ⟨rfl, hbk⟩
              have MQ := Lib.hid (MQ.out.later hbk); have Q7 := Lib.hid (Q7.out.later hbk); have RQ := Lib.hid (RQ.out.later hbk); have BQ := Lib.hid (thenBelow BQ.out hbk); have OQ := Lib.hid (ownI_later OQ.out hbk)
              have RS := Lib.hid (refStable_is G2 m R wk RQ.out hN0 hN)
              clear hbk ST SZ
              go_wp2_with fail
              refine RS.out.mono ?_
              rintro e wl ⟨rfl, hbk⟩
              have MQ := Lib.hid (MQ.out.later hbk); have Q7 := Lib.hid (Q7.out.later hbk); have BQ := Lib.hid (thenBelow BQ.out hbk); have OQ := Lib.hid (ownI_later OQ.out hbk)
              have LA := Lib.hid (lacks_in a G m R f wl MQ.out)
              have hll := lk_len R f m
              clear hbk RS
              go_wp2_with (first | refine wpList_vloadG vecI (by rfl) _ rfl g7 rfl _ _ Q7.out ?_)
              refine LA.out.mono ?_
              rintro e wm ⟨v1, rfl, hv1, hbk⟩
              have BQ := Lib.hid (thenBelow BQ.out hbk); have OQ := Lib.hid (ownI_later OQ.out hbk)
              obtain ⟨_, p1, c1, rfl, _, hp1, _⟩ := own_liesI hv1
              obtain ⟨_, p2, c2, rfl, _, hp2, _⟩ := own_liesI OQ.out
              have EQ := Lib.hid (equalI_any p1 p2 c1 c2 _ wm hp1 hp2 (by omega))
              clear hbk LA hv1 hp1 hp2
              go_wp2_with fail
              refine EQ.out.mono ?_
              rintro e wn ⟨rfl, hbk⟩
              have BQ := Lib.hid (thenBelow BQ.out hbk)
              have AW := Lib.hid (awake9 wn)
              clear hbk EQ
              go_wp2_with fail
              refine AW.out.mono ?_
              rintro e wt ⟨rfl, hbk⟩
              have BT := Lib.hid (thenBelow BQ.out hbk)
              go_wp2
              go_ret
              exact ⟨rfl, BT.out⟩
theorem stableRows_walk (x : Int) (p : Option Addr) (n c : Nat) (E : Nat → List Value) (rep : Int) (f : Nat → Int) (W : World) (hx : (Lit.int .i64 x).wf = true) (hl : CameR W p n c 65 IsHeard E) (hr : (Lit.int .i64 rep).wf = true) (hf : Wide f) :
    Calls Try.prog 4 #[.int .i64 x, .slice p n c, .int .i64 rep, .agg (vf f)] W (Yes W) := by
  by_cases h : x < 1 ∨ 64 < x
  · exact stableRows_out x p n c rep f W h
  · exact stableRows_in x x.toNat p n c E rep f W hl (by omega) (by omega) (by omega)
end Go.Proofs.Ytoelpeodepkaaaa
