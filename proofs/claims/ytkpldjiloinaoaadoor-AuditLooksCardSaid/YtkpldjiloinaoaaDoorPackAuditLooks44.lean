/- The statement AuditLooks, proved for every input that its row reads: part 44 of 54. -/
import Derived.Test.YtkpldjiloinaoaaDoorPackAuditLooks41
import Derived.Test.YtkpldjiloinaoaaDoorPackAuditLooks28
import Derived.Test.YtkpldjiloinaoaaDoorMemRows
import Derived.Deep.CutBlock
import Derived.Deep.DeepCutAuto
/- The document: what is wrong with an event, behind those ahead. -/
namespace Go.Proofs.YtkpldjiloinaoaaDoor
open Go Go.RowKit
set_option linter.unusedVariables false
set_option maxRecDepth 1000000

theorem beh_snoc (M : List Dt) (d : Dt) (r n : Int) : behB (M ++ [d]) r n = (behB M r n || (decide (d.1 = r) && decide (n < d.2))) := by simp [behB]
theorem any_step (f : Dt → Bool) (l : List Dt) (k : Nat) (h : k < l.length) : (l.take (k + 1)).any f = ((l.take k).any f || f l[k]) := by
  rw [List.take_succ_eq_append_getElem h, List.any_append]; simp
theorem kindL_step (bl : List (Int × Bool)) (k : Nat) (h : k < bl.length) : kindL (bl.take (k + 1)) = kindL (bl.take k) ++ (if (bl.getD k (0, false)).2 then [(bl.getD k (0, false)).1] else []) := by
  rw [List.take_succ_eq_append_getElem h, List.getD_eq_getElem?_getD, List.getElem?_eq_getElem h, Option.getD_some]
  unfold kindL
  rw [List.filter_append, List.map_append]
  congr 1
  cases hb : bl[k].2 <;> simp [List.filter, hb]
theorem trk_app (a b : List Int) (r n : Int) : trk (a ++ b) r n = trk a r n ++ trk b r n := List.map_append ..
theorem mem_snoc (M : List Dt) (d e : Dt) : decide (e ∈ M ++ [d]) = (decide (e ∈ M) || eqDt d e) := by
  by_cases h : e ∈ M
  · simp [h]
  · by_cases h2 : d = e
    · subst h2; rw [(eqDt_iff d d).2 rfl]; simp
    · rw [eqDt_no h2]; simp [h, Ne.symm h2]
set_option maxHeartbeats 1000000 in
theorem refEvent_is (F : Nat → Int) (q : Option Addr) (d : Nat) (L : List Wr) (p : Option Addr) (c : Nat) (A : List EvP) (x : EvP) (w : World) (hw : WrsAt w q L) (hE : EvsAt w p A) (hx : x.Ok w) (hn : L.length ≤ 10000) (hm : A.length ≤ 100) (hg : x.e.gone.length ≤ 1000) :
    Calls Tryd.prog 20 #[.agg (scs F (.slice q L.length d)), .slice p A.length c, .agg x.cells.toArray] w (TrR w (evT F (dotsW L) (dotsE A) x.e)) := by
  have HW := Lib.hid hw; have HE := Lib.hid hE; have HX := Lib.hid hx
  clear hw hE hx
  go_enter Tryd.func20, Tryd.ntmps20
  go_wp2_with (refine wpList_gbox rfl _ rfl (scs F (.slice q L.length d)) rfl ?_)
  intro g3 w1 l1 h1 hb1
  have S1 : Hid (Sx w1 g3 F (.slice q L.length d)) := Lib.hid h1
  have B1 := Lib.hid hb1
  clear h1 hb1
  go_wp2_with (refine wpList_gbox rfl _ rfl x.cells.toArray rfl ?_)
  intro g5 w2 l2 h2 hb2
  have X2 : Hid (w2.heap[g5]? = some (.cells x.cells.toArray 48 (0, 0))) := Lib.hid h2
  have S2 := Lib.hid (S1.out.later hb2); have B2 := Lib.hid (thenBelow B1.out hb2)
  clear h2 hb2 S1 B1
  go_wp2
  go_loopw [7, 8, 24] (fun u v i wr => ∃ k : Nat, k ≤ A.length ∧ i = .int .i64 k ∧ u = .bool (behB (dotsE (A.take k)) x.e.rep x.e.n) ∧ v = .bool (decide ((x.e.rep, x.e.n) ∈ dotsE (A.take k))) ∧ Below w2.heap.size w2 wr) (fun _ _ i _ => A.length - (RowKit.intOf i).toNat)
  case atStart => exact ⟨0, Nat.zero_le _, rfl, rfl, rfl, Below.refl _ _⟩
  case round =>
    obtain ⟨k, hk, rfl, rfl, rfl, hb⟩ := hrel
    have BR := Lib.hid hb
    clear hb
    by_cases hkl : k < A.length
    · have hkl' : (k : Int) < A.length := by omega
      have DK := Lib.hid (dotsE_take A k hkl)
      obtain ⟨b, o, rfl, hlt, hq⟩ := ((HE.out.below B2.out).below BR.out).at hkl
      obtain ⟨y, hy⟩ : ∃ y, A[k] = y := ⟨_, rfl⟩
      rw [hy] at hq DK
      obtain ⟨c0, c1, c2, c3, c4, c5, c6, c7⟩ := ev_cells hq
      clear hq hy hlt
      obtain ⟨⟨yr, yn, yt, yk, yd, yf, ytx, yg⟩, yp, yc⟩ := y
      simp only at c0 c1 c2 c3 c4 c5 c6 c7 DK
      have ba := below_alloc wr (.cells #[.int .i64 yr, .int .i64 yn, .int .i64 yt, .int .i64 yk, .string yd, .int .i64 yf, .string ytx, .slice yp yg.length yc] 48)
      have na := heap_alloc_new wr (.cells #[.int .i64 yr, .int .i64 yn, .int .i64 yt, .int .i64 yk, .string yd, .int .i64 yf, .string ytx, .slice yp yg.length yc] 48)
      have BA : Hid (Below w2.heap.size w2 (wr.alloc (.cells #[.int .i64 yr, .int .i64 yn, .int .i64 yt, .int .i64 yk, .string yd, .int .i64 yf, .string ytx, .slice yp yg.length yc] 48))) := Lib.hid (thenBelow BR.out ba)
      have NA := Lib.hid na
      clear ba na
      obtain ⟨bo, hbo⟩ : ∃ z, behB (dotsE (A.take k)) x.e.rep x.e.n = z := ⟨_, rfl⟩
      obtain ⟨bt, hbt⟩ : ∃ z, decide ((x.e.rep, x.e.n) ∈ dotsE (A.take k)) = z := ⟨_, rfl⟩
      have BO : Hid (behB (dotsE (A.take (k + 1))) x.e.rep x.e.n = (bo || (decide (yr = x.e.rep) && decide (x.e.n < yn)))) := Lib.hid (by rw [DK.out, beh_snoc, hbo])
      have TO : Hid (decide ((x.e.rep, x.e.n) ∈ dotsE (A.take (k + 1))) = (bt || eqDt (yr, yn) (x.e.rep, x.e.n))) := Lib.hid (by rw [DK.out, mem_snoc, hbt])
      rw [hbo, hbt]
      clear hbo hbt DK BR
      go_upto_region 6 with fail
      clear c0 c1 c2 c3 c4 c5 c6 c7
      generalize wr.alloc (.cells #[.int .i64 yr, .int .i64 yn, .int .i64 yt, .int .i64 yk, .string yd, .int .i64 yf, .string ytx, .slice yp yg.length yc] 48) = w6 at BA NA ⊢
      generalize wr.heap.size = G at NA ⊢
      have E6 := Lib.hid ((BA.out.block g5 (Array.getElem?_eq_some_iff.1 X2.out).1).trans X2.out)
      have y0 : w6.cell? ⟨G, 0, none⟩ = some (.int .i64 yr) := cell_of_row _ G 0 _ _ _ NA.out
      have y1 : w6.cell? ⟨G, 1, none⟩ = some (.int .i64 yn) := cell_of_row _ G 1 _ _ _ NA.out
      have e0 : w6.cell? ⟨g5, 0, none⟩ = some (.int .i64 x.e.rep) := cell_of_row _ g5 0 _ _ _ E6.out
      have e1 : w6.cell? ⟨g5, 1, none⟩ = some (.int .i64 x.e.n) := cell_of_row _ g5 1 _ _ _ E6.out
      go_cut [7] (fun v wx => v = .bool (bo || (decide (yr = x.e.rep) && decide (x.e.n < yn))) ∧ wx = w6)
      case first =>
        clear S2 B2 X2 BA NA E6 BO TO HW HE HX
        generalize x.e.rep = er at *
        generalize x.e.n = en at *
        cases bo with
        | true =>
          go_wp2
          go_meet
          exact ⟨rfl, rfl⟩
        | false =>
          by_cases hr : yr = er
          · by_cases hv : en < yn
            · have hv1 : yn > en := hv
              go_wp2
              go_meet
              exact ⟨by simp [hr, hv], rfl⟩
            · have hv1 : ¬ yn > en := hv
              go_wp2
              go_meet
              exact ⟨by simp [hr, hv], rfl⟩
          · go_wp2
            go_meet
            exact ⟨by simp [hr], rfl⟩
      case rest =>
      obtain ⟨rfl, rfl⟩ := hcut
      have hq1 : ∀ w : World, (Op.equalIn 10000 37 (.agg #[.int .i64 yr, .int .i64 yn]) (.agg #[.int .i64 x.e.rep, .int .i64 x.e.n])).run Tryd.prog w = .ok (eqDt (yr, yn) (x.e.rep, x.e.n)) w := fun w => runEqDt (yr, yn) (x.e.rep, x.e.n) w
      have hq2 : ∀ w : World, (binOp .eql 37 (.agg #[.int .i64 yr, .int .i64 yn]) (.agg #[.int .i64 x.e.rep, .int .i64 x.e.n])).run Tryd.prog w = .ok (.bool (eqDt (yr, yn) (x.e.rep, x.e.n))) w := fun w => eqlDt (yr, yn) (x.e.rep, x.e.n) w
      clear E6 NA HW HX
      rw [← BO.out]
      obtain ⟨bq, hbq⟩ : ∃ z, eqDt (yr, yn) (x.e.rep, x.e.n) = z := ⟨_, rfl⟩
      rw [hbq] at TO
      simp only [hbq] at hq1 hq2
      clear hbq
      cases bt with
      | true =>
        go_wp2
        go_roundw
        case rel => exact ⟨k + 1, by omega, by go_num, rfl, by rw [TO.out]; rfl, BA.out⟩
        case measure => simp [intOf]; omega
      | false =>
        go_wp2
        go_roundw
        case rel => exact ⟨k + 1, by omega, by go_num, rfl, by rw [TO.out]; rfl, BA.out⟩
        case measure => simp [intOf]; omega
    · obtain rfl : k = A.length := by omega
      have hkl' : ¬ ((A.length : Nat) : Int) < A.length := by omega
      rw [List.take_length]
      obtain ⟨b4, hb4⟩ : ∃ z, behB (dotsE A) x.e.rep x.e.n = z := ⟨_, rfl⟩
      obtain ⟨b8, hb8⟩ : ∃ z, decide ((x.e.rep, x.e.n) ∈ dotsE A) = z := ⟨_, rfl⟩
      have H4 := Lib.hid hb4; have H8 := Lib.hid hb8
      rw [hb4, hb8]
      have XR := Lib.hid ((BR.out.block g5 (Array.getElem?_eq_some_iff.1 X2.out).1).trans X2.out)
      have k7 : wr.cell? ⟨g5, 7, none⟩ = some (.slice x.p x.e.gone.length x.c) := cell_of_row _ g5 7 _ _ _ XR.out
      clear hb4 hb8 hk hkl hkl'
      obtain ⟨gn, hgn⟩ : ∃ z, x.e.gone = z := ⟨_, rfl⟩
      have HGN := Lib.hid hgn
      have HD : Hid (DRow w x.p gn) := Lib.hid (by rw [← hgn]; exact HX.out.1)
      rw [hgn] at k7 hg
      clear hgn
      obtain ⟨xp, hxp⟩ : ∃ z, x.p = z := ⟨_, rfl⟩
      rw [hxp] at k7 HD
      clear hxp
      go_wp2
      clear k7 XR
      go_loopw [11, 12, 59] (fun u v i wy => ∃ k : Nat, k ≤ gn.length ∧ i = .int .i64 k ∧ u = .bool ((gn.take k).any fun d => !hasB F d.1 d.2) ∧ v = .bool ((gn.take k).any fun d => decide (d ∈ dotsW L)) ∧ Below w2.heap.size w2 wy) (fun _ _ i _ => gn.length - (RowKit.intOf i).toNat)
      case atStart => exact ⟨0, Nat.zero_le _, rfl, rfl, rfl, BR.out⟩
      case round =>
        obtain ⟨k, hk, rfl, rfl, rfl, hb⟩ := hrel
        clear BR
        have BR := Lib.hid hb
        clear hb
        by_cases hkl : k < gn.length
        · have hkl' : (k : Int) < gn.length := by omega
          obtain ⟨b, o, rfl, hq⟩ := drow_at ((HD.out.below B2.out).below BR.out) hkl
          have hlt := 0
          have AG := Lib.hid (any_step (fun d : Dt => !hasB F d.1 d.2) gn k hkl); have AL := Lib.hid (any_step (fun d : Dt => decide (d ∈ dotsW L)) gn k hkl)
          obtain ⟨⟨dr, dn⟩, hy⟩ : ∃ y, gn[k] = y := ⟨_, rfl⟩
          rw [hy] at hq AG AL
          simp only at hq AG AL
          have c0 : wr.cell? ⟨b, o + k * 2, none⟩ = some (.int .i64 dr) := hq 0 _ rfl
          have c1 : wr.cell? ⟨b, o + k * 2 + 1, none⟩ = some (.int .i64 dn) := hq 1 _ rfl
          clear hy hlt hq
          obtain ⟨bg, hbg⟩ : ∃ z, ((gn.take k).any fun d => !hasB F d.1 d.2) = z := ⟨_, rfl⟩
          obtain ⟨bl, hbl⟩ : ∃ z, ((gn.take k).any fun d => decide (d ∈ dotsW L)) = z := ⟨_, rfl⟩
          obtain ⟨hz, hhz⟩ : ∃ z, hasB F dr dn = z := ⟨_, rfl⟩
          have CH : Hid (∀ V : World, Calls Tryd.prog 36 #[.agg (vf F), .agg (dcs dr dn)] V (RetBool V hz)) := Lib.hid fun V => by rw [← hhz]; exact refHas_is F dr dn V
          rw [hbg] at AG; rw [hhz] at AG; rw [hbl] at AL
          rw [hbg, hbl]
          have ba := below_alloc wr (.cells #[.int .i64 dr, .int .i64 dn] 37)
          have na := heap_alloc_new wr (.cells #[.int .i64 dr, .int .i64 dn] 37)
          have BA : Hid (Below w2.heap.size w2 (wr.alloc (.cells #[.int .i64 dr, .int .i64 dn] 37))) := Lib.hid (thenBelow BR.out ba)
          have NA := Lib.hid na
          clear ba na hbg hbl hhz BR
          go_upto_region 14 with fail
          clear c0 c1
          generalize wr.alloc (.cells #[.int .i64 dr, .int .i64 dn] 37) = w6 at BA NA ⊢
          generalize wr.heap.size = G at NA ⊢
          have S6 := Lib.hid (S2.out.later BA.out)
          have SV := Lib.hid S6.out.vec; have DV : Hid (w6.rangeAt G 0 [.int .i64 dr, .int .i64 dn]) := Lib.hid (range_of_block NA.out)
          have SZD : (Tryd.prog.info? 37).map (·.size) = some [Value.int .i64 dr, .int .i64 dn].length := by kernel_rfl
          go_cut [11] (fun v wx => v = .bool (bg || !hz) ∧ Below w6.heap.size w6 wx)
          case first =>
            clear S2 B2 X2 BA NA AG AL HW HE HX HD HGN H4 H8
            cases bg with
            | true =>
              go_wp2
              go_meet
              exact ⟨rfl, Below.refl _ _⟩
            | false =>
              go_wp2_with (first | refine wpList_gloadG (t := 23) (by rfl) _ rfl g3 0 rfl _ SV.out _ Tryd.underlying23 rfl (sizeVcl _) ?_ | refine wpList_gloadG (t := 37) (by rfl) _ rfl G 0 rfl _ DV.out _ Tryd.underlying37 rfl SZD ?_)
              refine (CH.out w6).mono ?_
              rintro e w9 ⟨rfl, hb9⟩
              have B9 := Lib.hid hb9
              clear hb9
              go_wp2
              go_meet
              exact ⟨rfl, B9.out⟩
          case rest =>
          obtain ⟨rfl, hbc⟩ := hcut
          have BC := Lib.hid (thenBelow BA.out hbc); have SC := Lib.hid (S6.out.later hbc)
          have DC : Hid (wc.heap[G]? = some (.cells #[.int .i64 dr, .int .i64 dn] 37)) := Lib.hid ((hbc.block G (Array.getElem?_eq_some_iff.1 NA.out).1).trans NA.out)
          have k64 := SC.out.slot
          have WC := Lib.hid ((HW.out.below B2.out).below BC.out)
          rw [← AG.out]
          clear hbc BA NA S6 SV DV CH AG SZD
          go_wp2
          clear k64
          go_loopw [12, 74] (fun u i wy => ∃ j : Nat, j ≤ L.length ∧ i = .int .i64 j ∧ u = .bool (bl || decide ((dr, dn) ∈ dotsW (L.take j))) ∧ Below wc.heap.size wc wy) (fun _ i _ => L.length - (RowKit.intOf i).toNat)
          case atStart => exact ⟨0, Nat.zero_le _, rfl, by simp [dotsW], Below.refl _ _⟩
          case round =>
            obtain ⟨j, hj, rfl, rfl, hb⟩ := hrel
            have BY := Lib.hid hb
            clear hb
            by_cases hjl : j < L.length
            · have hjl' : (j : Int) < L.length := by omega
              have TK := Lib.hid (dotsW_take L j hjl)
              obtain ⟨b2, o2, rfl, hlt, hq⟩ := (WC.out.below BY.out).at hjl
              obtain ⟨z, hz2⟩ : ∃ z, L[j] = z := ⟨_, rfl⟩
              rw [hz2] at hq TK
              obtain ⟨c0, c1, c2, c3, c4, c5⟩ := wr_cells hq
              clear hq hz2 hlt
              obtain ⟨zr, zn, zt, zd, zf, ztx⟩ := z
              simp only at c0 c1 c2 c3 c4 c5 TK
              have ba := below_alloc wr (.cells #[.int .i64 zr, .int .i64 zn, .int .i64 zt, .string zd, .int .i64 zf, .string ztx] 44)
              have na := heap_alloc_new wr (.cells #[.int .i64 zr, .int .i64 zn, .int .i64 zt, .string zd, .int .i64 zf, .string ztx] 44)
              have BA : Hid (Below wc.heap.size wc (wr.alloc (.cells #[.int .i64 zr, .int .i64 zn, .int .i64 zt, .string zd, .int .i64 zf, .string ztx] 44))) := Lib.hid (thenBelow BY.out ba)
              have NA := Lib.hid na
              obtain ⟨bm, hbm⟩ : ∃ z, (bl || decide ((dr, dn) ∈ dotsW (L.take j))) = z := ⟨_, rfl⟩
              obtain ⟨bq, hbq⟩ : ∃ z, eqDt (zr, zn) (dr, dn) = z := ⟨_, rfl⟩
              have TO : Hid ((bl || decide ((dr, dn) ∈ dotsW (L.take (j + 1)))) = (bm || bq)) := Lib.hid (by rw [TK.out, mem_snoc, ← Bool.or_assoc, hbm, hbq])
              have hq1 : ∀ w : World, (Op.equalIn 10000 37 (.agg #[.int .i64 zr, .int .i64 zn]) (.agg #[.int .i64 dr, .int .i64 dn])).run Tryd.prog w = .ok bq w := fun w => by rw [← hbq]; exact runEqDt (zr, zn) (dr, dn) w
              have hq2 : ∀ w : World, (binOp .eql 37 (.agg #[.int .i64 zr, .int .i64 zn]) (.agg #[.int .i64 dr, .int .i64 dn])).run Tryd.prog w = .ok (.bool bq) w := fun w => by rw [← hbq]; exact eqlDt (zr, zn) (dr, dn) w
              rw [hbm]
              clear ba na hbm hbq TK BY
              go_upto_region 18 with fail
              clear c0 c1 c2 c3 c4 c5
              generalize wr.alloc (.cells #[.int .i64 zr, .int .i64 zn, .int .i64 zt, .string zd, .int .i64 zf, .string ztx] 44) = w8 at BA NA ⊢
              generalize wr.heap.size = G2 at NA ⊢
              have D8 := Lib.hid ((BA.out.block G (Array.getElem?_eq_some_iff.1 DC.out).1).trans DC.out)
              have y0 : w8.cell? ⟨G2, 0, none⟩ = some (.int .i64 zr) := cell_of_row _ G2 0 _ _ _ NA.out
              have y1 : w8.cell? ⟨G2, 1, none⟩ = some (.int .i64 zn) := cell_of_row _ G2 1 _ _ _ NA.out
              have e0 : w8.cell? ⟨G, 0, none⟩ = some (.int .i64 dr) := cell_of_row _ G 0 _ _ _ D8.out
              have e1 : w8.cell? ⟨G, 1, none⟩ = some (.int .i64 dn) := cell_of_row _ G 1 _ _ _ D8.out
              clear NA D8
              cases bm with
              | true =>
                go_wp2
                go_roundw
                case rel => exact ⟨j + 1, by omega, by go_num, by rw [TO.out]; rfl, BA.out⟩
                case measure => simp [intOf]; omega
              | false =>
                go_wp2
                go_roundw
                case rel => exact ⟨j + 1, by omega, by go_num, by rw [TO.out]; rfl, BA.out⟩
                case measure => simp [intOf]; omega
            · obtain rfl : j = L.length := by omega
              have hjl' : ¬ ((L.length : Nat) : Int) < L.length := by omega
              rw [List.take_length, ← AL.out]
              have BF := Lib.hid (thenBelow BC.out BY.out)
              clear BY BC WC SC DC AL
              go_wp2
              go_roundw
              case rel => exact ⟨k + 1, by omega, by go_num, rfl, rfl, BF.out⟩
              case measure => simp [intOf]; omega
        · obtain rfl : k = gn.length := by omega
          have hkl' : ¬ ((gn.length : Nat) : Int) < gn.length := by omega
          rw [List.take_length]
          obtain ⟨b5, hb5⟩ : ∃ z, (gn.any fun d => !hasB F d.1 d.2) = z := ⟨_, rfl⟩
          obtain ⟨b6, hb6⟩ : ∃ z, (gn.any fun d => decide (d ∈ dotsW L)) = z := ⟨_, rfl⟩
          obtain ⟨ck, hck⟩ : ∃ z, chk x.e = z := ⟨_, rfl⟩
          obtain ⟨b2, hb2⟩ : ∃ z, (ck != 0) = z := ⟨_, rfl⟩
          obtain ⟨b3, hb3⟩ : ∃ z, hasB F x.e.rep x.e.n = z := ⟨_, rfl⟩
          have C2 : Hid (∀ V : World, Below w.heap.size w V → Calls Tryd.prog 35 #[.agg x.cells.toArray] V (Check1 V ck)) := Lib.hid fun V hV => by rw [← hck]; exact refCheck_is x V (HX.out.below hV)
          have C3 : Hid (∀ V : World, Calls Tryd.prog 36 #[.agg (vf F), .agg (dcs x.e.rep x.e.n)] V (RetBool V b3)) := Lib.hid fun V => by rw [← hb3]; exact refHas_is F _ _ V
          have KO : Hid (kindsOf F (dotsW L) (dotsE A) x.e = [(2, b2), (3, !b3), (4, b4), (5, b5), (6, b6), (8, b8)]) := Lib.hid (by rw [kindsOf, hck, hb2, hb3, H4.out, H8.out, HGN.out, hb5, hb6])
          have H2 := Lib.hid hb2
          rw [hb5, hb6]
          have SR := Lib.hid (S2.out.later BR.out)
          have XR := Lib.hid ((BR.out.block g5 (Array.getElem?_eq_some_iff.1 X2.out).1).trans X2.out)
          have B3 := Lib.hid (thenBelow B2.out BR.out)
          clear hb5 hb6 hck hb2 hb3 H4 H8 HGN HD hk hkl hkl' BR S2 X2 B2 HE HW
          go_wp2_with fail
          rename_i K3 hK3
          have m0 : Sx wr.drew g3 F (.slice q L.length d) ∧ wr.drew.heap[g5]? = some (.cells x.cells.toArray 48 (0, 0)) ∧ Below w.heap.size w wr.drew := ⟨SR.out.later (w := wr) (to_drew (Below.refl _ _)), XR.out, to_drew B3.out⟩
          refine rg_calm (by kernel_rfl) rfl (S := fun U => Sx U g3 F (.slice q L.length d) ∧ U.heap[g5]? = some (.cells x.cells.toArray 48 (0, 0)) ∧ Below w.heap.size w U) ?_
          refine rgd_pureS 0 (some 87) rfl rfl (.agg x.cells.toArray) (by kernel_rfl) (by kernel_rfl) (by kernel_rfl) (fun _ _ _ _ h => h) (by kernel_rfl) (fun U hU => exec_gload 48 _ rfl g5 0 (by kernel_rfl) x.cells (range_of_block hU.2.1) Tryd.underlying48 rfl (sizeEvA x)) m0 ?_
          refine rgd_pure 3 (some 90) rfl rfl (.pointer (some ⟨g3, 0, none⟩)) (by kernel_rfl) (by kernel_rfl) (by kernel_rfl) (fun _ _ _ _ h => h) (by kernel_rfl) (fun w => by kernel_rfl) m0 ?_
          refine rgd_pureS 4 (some 91) rfl rfl (.agg (vf F)) (by kernel_rfl) (by kernel_rfl) (by kernel_rfl) (fun _ _ _ _ h => h) (by kernel_rfl) (fun U hU => exec_gload 23 _ rfl g3 0 (by kernel_rfl) _ hU.1.vec Tryd.underlying23 rfl (sizeVcl _)) m0 ?_
          refine rgd_pure 5 (some 92) rfl rfl (.pointer (some ⟨g5, 0, none⟩)) (by kernel_rfl) (by kernel_rfl) (by kernel_rfl) (fun _ _ _ _ h => h) (by kernel_rfl) (fun w => by kernel_rfl) m0 ?_
          refine rgd_pureS 6 (some 93) rfl rfl (.agg (dcs x.e.rep x.e.n)) (by kernel_rfl) (by kernel_rfl) (by kernel_rfl) (fun _ _ _ _ h => h) (by kernel_rfl) (fun U hU => exec_gload 37 _ rfl g5 0 (by kernel_rfl) (dcs x.e.rep x.e.n).toList (xv_dot hU.2.1) Tryd.underlying37 rfl (sizeDtA _ _)) m0 ?_
          refine rgd_pure 9 (some 96) rfl rfl (.bool b4) (by kernel_rfl) (by kernel_rfl) (by kernel_rfl) (fun _ _ _ _ h => h) (by kernel_rfl) (fun w => by kernel_rfl) m0 ?_
          refine rgd_pure 10 (some 97) rfl rfl (.bool b5) (by kernel_rfl) (by kernel_rfl) (by kernel_rfl) (fun _ _ _ _ h => h) (by kernel_rfl) (fun w => by kernel_rfl) m0 ?_
          refine rgd_pure 11 (some 98) rfl rfl (.bool b6) (by kernel_rfl) (by kernel_rfl) (by kernel_rfl) (fun _ _ _ _ h => h) (by kernel_rfl) (fun w => by kernel_rfl) m0 ?_
          refine rgd_pure 12 (some 99) rfl rfl (.bool b8) (by kernel_rfl) (by kernel_rfl) (by kernel_rfl) (fun _ _ _ _ h => h) (by kernel_rfl) (fun w => by kernel_rfl) m0 ?_
          refine rgd_call 1 (some 88) (by kernel_rfl) rfl rfl (by kernel_rfl) 35 (#[.agg x.cells.toArray]) (by kernel_rfl) (C2.out _ m0.2.2) ?_
          rintro _ V1 ⟨rfl, b1⟩
          have m1 : Sx V1 g3 F (.slice q L.length d) ∧ V1.heap[g5]? = some (.cells x.cells.toArray 48 (0, 0)) ∧ Below w.heap.size w V1 := ⟨m0.1.later b1, (b1.block g5 (Array.getElem?_eq_some_iff.1 m0.2.1).1).trans m0.2.1, thenBelow m0.2.2 b1⟩
          refine ⟨_, rfl, m1, ?_⟩
          refine rgd_pure 2 (some 89) rfl rfl (.bool b2) (by kernel_rfl) (by kernel_rfl) (by kernel_rfl) (fun _ _ _ _ h => h) (by kernel_rfl) (fun w => exec_neqL _ _ _ _ rfl ck 0 _ H2.out (by kernel_rfl) (by kernel_rfl) w) m1 ?_
          refine rgd_call 7 (some 94) (by kernel_rfl) rfl rfl (by kernel_rfl) 36 (#[.agg (vf F), .agg (dcs x.e.rep x.e.n)]) (by kernel_rfl) (C3.out _) ?_
          rintro _ V7 ⟨rfl, b7⟩
          have m2 : Sx V7 g3 F (.slice q L.length d) ∧ V7.heap[g5]? = some (.cells x.cells.toArray 48 (0, 0)) ∧ Below w.heap.size w V7 := ⟨m1.1.later b7, (b7.block g5 (Array.getElem?_eq_some_iff.1 m1.2.1).1).trans m1.2.1, thenBelow m1.2.2 b7⟩
          refine ⟨_, rfl, m2, ?_⟩
          refine rgd_pure 8 (some 95) rfl rfl (.bool (!b3)) (by kernel_rfl) (by kernel_rfl) (by kernel_rfl) (fun _ _ _ _ h => h) (by kernel_rfl) (fun w => by kernel_rfl) m2 ?_
          have ba := below_alloc V7 (.cells #[.bool b2, .bool (!b3), .bool b4, .bool b5, .bool b6, .bool b8] 4)
          have na := heap_alloc_new V7 (.cells #[.bool b2, .bool (!b3), .bool b4, .bool b5, .bool b6, .bool b8] 4)
          have m3 : Sx (V7.alloc (.cells #[.bool b2, .bool (!b3), .bool b4, .bool b5, .bool b6, .bool b8] 4)) g3 F (.slice q L.length d) ∧ (V7.alloc (.cells #[.bool b2, .bool (!b3), .bool b4, .bool b5, .bool b6, .bool b8] 4)).heap[g5]? = some (.cells x.cells.toArray 48 (0, 0)) ∧ Below w.heap.size w (V7.alloc (.cells #[.bool b2, .bool (!b3), .bool b4, .bool b5, .bool b6, .bool b8] 4)) := ⟨m2.1.later ba, (ba.block g5 (Array.getElem?_eq_some_iff.1 m2.2.1).1).trans m2.2.1, thenBelow m2.2.2 ba⟩
          refine rgd_run 13 (some 100) (by kernel_rfl) rfl rfl (by kernel_rfl) (.slice (some ⟨V7.heap.size, 0, none⟩) 6 6) (V7.alloc (.cells #[.bool b2, .bool (!b3), .bool b4, .bool b5, .bool b6, .bool b8] 4)) (by kernel_rfl) m3 ?_
          generalize V7.alloc (.cells #[.bool b2, .bool (!b3), .bool b4, .bool b5, .bool b6, .bool b8] 4) = U2 at na m3 ⊢
          generalize V7.heap.size = GB at na ⊢
          refine rgd_pure 14 (some 17) rfl rfl (.slice (some ⟨GB, 0, none⟩) 6 6) (by kernel_rfl) (by kernel_rfl) (by kernel_rfl) (fun _ _ _ _ h => h) (by kernel_rfl) (fun w => by kernel_rfl) m3 ?_
          have EB := Lib.hid m3.2.1; have BB := Lib.hid m3.2.2; have NB := Lib.hid na
          clear m0 m1 m2 m3 ba na b1 b7 C2 C3 SR XR B3 HX H2
          have KE : K3 { tmps := #[.agg (scs F (.slice q L.length d)), .slice p A.length c, .agg x.cells.toArray, .pointer (some ⟨g3, 0, none⟩), undef, .pointer (some ⟨g5, 0, none⟩), .slice none 0 0, .bool b4, .bool b8, undef, u10, .bool b5, .bool b6, undef, u14, undef, u16, .slice (some ⟨GB, 0, none⟩) 6 6, undef, undef, undef, undef, .slice p A.length c, .int .i64 A.length, .int .i64 A.length, .bool false, u26, u27, u28, u29, u30, u31, u32, u33, u34, u35, u36, u37, u38, u39, u40, u41, u42, u43, u44, u45, u46, u47, u48, u49, u50, u51, u52, u53, u54, u55, .pointer (some ⟨g5, 7, none⟩), .slice xp gn.length x.c, .int .i64 gn.length, .int .i64 gn.length, .bool false, u61, u62, u63, u64, u65, u66, u67, u68, u69, u70, u71, u72, u73, u74, u75, u76, u77, u78, u79, u80, u81, u82, u83, u84, u85, u86, .agg x.cells.toArray, .int .i64 ck, .bool b2, .pointer (some ⟨g3, 0, none⟩), .agg (vf F), .pointer (some ⟨g5, 0, none⟩), .agg (dcs x.e.rep x.e.n), .bool b3, .bool (!b3), .bool b4, .bool b5, .bool b6, .bool b8, .slice (some ⟨GB, 0, none⟩) 6 6, undef, undef, undef, undef, undef, undef, undef, undef, undef, undef, undef, undef, undef, undef, undef, undef, undef, undef, undef, undef, undef], defers := [] } U2 := by
            refine hK3 _ _ ?_
            clear hK3
            have ba := below_alloc U2 (.cells #[.int .i64 2, .int .i64 3, .int .i64 4, .int .i64 5, .int .i64 6, .int .i64 8] 3)
            have ni := heap_alloc_new U2 (.cells #[.int .i64 2, .int .i64 3, .int .i64 4, .int .i64 5, .int .i64 6, .int .i64 8] 3)
            have NI := Lib.hid ni; have B8 := Lib.hid (thenBelow BB.out ba); have N8 := Lib.hid ((ba.block GB (Array.getElem?_eq_some_iff.1 NB.out).1).trans NB.out); have E8 := Lib.hid ((ba.block g5 (Array.getElem?_eq_some_iff.1 EB.out).1).trans EB.out)
            clear ba ni EB BB NB
            obtain ⟨bl, hbl⟩ : ∃ l : List (Int × Bool), [((2 : Int), b2), (3, !b3), (4, b4), (5, b5), (6, b6), (8, b8)] = l := ⟨_, rfl⟩
            rw [hbl] at KO
            have LB : bl.length = 6 := by rw [← hbl]; rfl
            have IC : Hid (∀ k, k < 6 → (#[.int .i64 2, .int .i64 3, .int .i64 4, .int .i64 5, .int .i64 6, .int .i64 8] : Array Value)[k]? = some (.int .i64 (bl.getD k (0, false)).1)) := Lib.hid fun k hk => by
              subst hbl
              match k, hk with
              | 0, _ => rfl
              | 1, _ => rfl
              | 2, _ => rfl
              | 3, _ => rfl
              | 4, _ => rfl
              | 5, _ => rfl
            have JC : Hid (∀ k, k < 6 → (#[.bool b2, .bool (!b3), .bool b4, .bool b5, .bool b6, .bool b8] : Array Value)[k]? = some (.bool (bl.getD k (0, false)).2)) := Lib.hid fun k hk => by
              subst hbl
              match k, hk with
              | 0, _ => rfl
              | 1, _ => rfl
              | 2, _ => rfl
              | 3, _ => rfl
              | 4, _ => rfl
              | 5, _ => rfl
            have LBH := Lib.hid LB
            clear hbl LB
            go_upto_region 24 with fail
            generalize U2.alloc (.cells #[.int .i64 2, .int .i64 3, .int .i64 4, .int .i64 5, .int .i64 6, .int .i64 8] 3) = w8 at B8 N8 E8 NI ⊢
            generalize U2.heap.size = GI at NI ⊢
            go_wp2
            go_loopw [19, 104] (fun v i wy => ∃ k : Nat, k ≤ 6 ∧ i = .int .i64 k ∧ LookCut w (trk (kindL (bl.take k)) x.e.rep x.e.n) v wy ∧ StayT w8 wy) (fun _ i _ => 6 - (RowKit.intOf i).toNat)
            case atStart => exact ⟨0, Nat.zero_le _, rfl, ⟨⟨rfl, .inl ⟨rfl, rfl⟩⟩, B8.out⟩, StayT.refl _⟩
            case round =>
              obtain ⟨k, hk, rfl, ⟨ow, hb⟩, hs⟩ := hrel
              have OY := Lib.hid ow; have BY := Lib.hid hb; have SY := Lib.hid hs
              clear ow hb hs B8
              by_cases hkl : k < 6
              · have hkl' : (k : Int) < 6 := by omega
                have KS := Lib.hid (kindL_step bl k (by rw [LBH.out]; exact hkl))
                have i0 : wr.cell? ⟨GI, k, none⟩ = some (.int .i64 (bl.getD k (0, false)).1) := (cell_of_row _ GI k _ _ _ (SY.out.cells NI.out (by decide))).trans (IC.out k hkl)
                have j0 : wr.cell? ⟨GB, k, none⟩ = some (.bool (bl.getD k (0, false)).2) := (cell_of_row _ GB k _ _ _ (SY.out.cells N8.out (by decide))).trans (JC.out k hkl)
                have R8 : Hid (wr.rangeAt g5 0 (dcs x.e.rep x.e.n).toList) := Lib.hid (xv_dot (SY.out.cells E8.out (by decide)))
                generalize bl.getD k (0, false) = kb at KS i0 j0
                obtain ⟨K0, bk⟩ := kb
                simp only at KS i0 j0
                have l2 : (trk (kindL (bl.take k)) x.e.rep x.e.n).length ≤ 6 := by
                  rw [trk_len, kindL, List.length_map]
                  refine Nat.le_trans (List.length_filter_le _ _) ?_
                  rw [List.length_take]; omega
                obtain ⟨NN, hNN⟩ : ∃ n, (trk (kindL (bl.take k)) x.e.rep x.e.n).length = n := ⟨_, rfl⟩
                have OY2 : Hid (wr.ownsRow w.heap.size 39 3 u19 NN (trs (trk (kindL (bl.take k)) x.e.rep x.e.n))) := Lib.hid (by rw [← hNN]; exact OY.out)
                have NH := Lib.hid hNN
                rw [hNN] at l2
                clear hNN
                cases bk with
                | true =>
                  have BT := Lib.hid (builtTr K0 x.e.rep x.e.n)
                  go_wp2_with (first | refine wpList_gload (t := 37) rfl _ rfl g5 0 rfl _ R8.out _ Tryd.underlying37 rfl (sizeDtA _ _) ?_ | refine wpList_pbuild (by rfl) _ rfl #[.int .i64 K0, .int .i64 x.e.rep, .int .i64 x.e.n] (by simp only [List.map_toArray, List.map_cons, List.map_nil]; exact BT.out _) ?_ | (at_builtin; refine wpList_trS _ rfl _ _ rfl w.heap.size NN _ _ rfl OY2.out [.int .i64 K0, .int .i64 x.e.rep, .int .i64 x.e.n] rfl (trV_one (K0, x.e.rep, x.e.n)) rfl (by omega) BY.out.size ?_))
                  intro v9 w9 o9 b9 s9
                  have O9 := Lib.hid o9; have B9 := Lib.hid (BY.out.trans b9); have S9 := Lib.hid (SY.out.trans s9)
                  clear o9 b9 s9 OY OY2 BY SY i0 j0
                  go_wp2
                  go_roundw
                  case rel => exact ⟨k + 1, by omega, by go_num, ⟨by rw [KS.out.trans (show _ = kindL (bl.take k) ++ [K0] by simp), trk_app, show trk [K0] x.e.rep x.e.n = [(K0, x.e.rep, x.e.n)] from rfl, trs_snoc, List.length_append, NH.out]; exact O9.out, B9.out⟩, S9.out⟩
                  case measure => simp [intOf]; omega
                | false =>
                  go_wp2
                  go_roundw
                  case rel => exact ⟨k + 1, by omega, by go_num, ⟨by rw [KS.out.trans (show _ = kindL (bl.take k) by simp)]; exact OY.out, BY.out⟩, SY.out⟩
                  case measure => simp [intOf]; omega
              · obtain rfl : k = 6 := by omega
                have OF : Hid (wr.ownsRow w.heap.size 39 3 u19 (trk (kindL bl) x.e.rep x.e.n).length (trs (trk (kindL bl) x.e.rep x.e.n))) := Lib.hid (by
                  have := OY.out
                  rw [← LBH.out, List.take_length] at this
                  exact this)
                clear OY
                go_wp2
                go_ret
                exact ⟨_, rfl, by rw [evT_trk, KO.out]; exact OF.out, BY.out⟩
          exact wpAnyH_done (by kernel_rfl) (Eq.mp (by kernel_rfl) KE) _
end Go.Proofs.YtkpldjiloinaoaaDoor
