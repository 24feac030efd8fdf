/- The walk of LanesOnce. -/
import Derived.Test.YtfdiclamjgldnaaLnOnce
import Derived.Deep.DeepCutAuto
import Derived.Deep.CutBlock
namespace Go.Proofs.Ytfdiclamjgldnaa
open Go Go.RowKit Go.Conc
set_option linter.unusedVariables false

theorem drewN_belowE {B : Nat} {a w : World} (h : Below B a w) (n : Nat) : Below B a (w.drewN n) := ⟨h.os, h.tape, h.output, h.size, h.block⟩
theorem u64_of (z : Int) : ∃ m : Nat, IntKind.u64.wrap z = (m : Int) ∧ m < 18446744073709551616 := by
  refine ⟨(IntKind.u64.wrap z).toNat, ?_, ?_⟩ <;> rw [IntKind.wrap_u64] <;> omega
set_option maxHeartbeats 8000000 in
set_option maxRecDepth 1000000 in
theorem lanesOnce_walk (bp : Option Addr) (bc : Nat) (bs : List UInt8) (p : Option Addr) (c : Nat) (vs : List LDo) (W : World) (hb : Came W bp bc bs) (hl : LDosLie W p vs) (hvl : vs.length ≤ 9223372036854775807) :
    Calls Try.prog 4 #[.slice bp bs.length bc, .slice p vs.length c] W (Yes W) := by
  have HB := Lib.hid hb; have HL := Lib.hid hl
  have AW := Lib.hid awake26
  have NW := Lib.hid (lnNew 2 (by omega) (by omega) W)
  obtain ⟨cs, hcs⟩ : ∃ cs, cs = bs.take 200 := ⟨_, rfl⟩
  have hbc := hb.le
  have hcl : cs.length ≤ 200 := by rw [hcs, List.length_take]; omega
  have hcc : cs.length ≤ bc := by rw [hcs, List.length_take]; omega
  have LB : Hid (Lies W bp cs) := by rw [hcs]; exact begun hb.lies 200
  have BN : Hid (bp = none → cs = []) := fun e => by rw [hcs, (hb.none e).1]; rfl
  clear hb hl
  go_enter Try.func4, Try.ntmps4
  go_upto_region 1 with fail
  go_cut [0] (fun v wx => v = .slice bp cs.length bc ∧ wx = W)
  case first =>
    have ct := cutB bp bs.length bc cs.length W hcc
    by_cases h2 : bs.length ≤ 200
    · have e : cs.length = bs.length := by rw [hcs, List.length_take]; omega
      rw [e] at ct
      have E := Lib.hid e
      have h22 : (bs.length : Int) ≤ 200 := by omega
      clear e hcs hcl hcc
      go_wp2
      go_meet
      exact ⟨by rw [E.out], rfl⟩
    · have e : cs.length = 200 := by rw [hcs, List.length_take]; omega
      rw [e] at ct
      have E := Lib.hid e
      have h22 : (200 : Int) < (bs.length : Int) := by omega
      clear e hcs hcl hcc
      go_wp2
      go_meet
      exact ⟨by rw [E.out], rfl⟩
  case rest =>
  obtain ⟨rfl, rfl⟩ := hcut
  clear hcs
  go_wp2_with fail
  refine NW.out.mono ?_
  rintro e w1 ⟨A, rfl, hx, hb⟩
  have hS := send_yes wc.heap.size A _ _ 0 0 w1 hx 0 1 in01 bp bc cs (LB.out.below hb) BN.out (by omega) (by simp) (by omega)
  have SE := Lib.hid hS
  have BW1 := Lib.hid hb
  have R0 : Hid (∀ w2, Lx w2 wc.heap.size A ((2 : Nat) : Int) (updF (fun _ => []) (0, 1) (([] : List Mg) ++ [⟨cs, 0, 0⟩])) (0 + 1) 0 → Below wc.heap.size w1 w2 → Once wc.heap.size A cs wc w2 1) := fun w2 h1 h2 => ⟨_, h1, fun x hx => by simp [updF] at hx; rw [hx], by simp [updF], hb.trans h2⟩
  clear hx hb hS NW
  go_wp2_with fail
  refine SE.out.mono ?_
  rintro e w2 ⟨rfl, hx2, hb2⟩
  have ON := Lib.hid (R0.out w2 hx2 hb2)
  clear hx2 hb2 SE R0 BW1
  generalize hB : wc.heap.size = B at *
  generalize wc = W at *
  go_upto_block 0 with fail
  go_cut [5] (fun v wx => v = .pointer (some ⟨A, 0, none⟩) ∧ ∃ n, n ≤ 31 ∧ Once B A cs W wx n)
  case first =>
    go_wp2_with fail
    go_loopw [25] (fun i wr => ∃ j : Nat, j ≤ vs.length ∧ j ≤ 30 ∧ i = .int .i64 j ∧ ∃ n, 1 ≤ n ∧ n ≤ j + 1 ∧ Once B A cs W wr n) (fun i _ => vs.length - (intOf i).toNat)
    case atStart => exact ⟨0, Nat.zero_le _, Nat.zero_le _, rfl, 1, by omega, by omega, ON.out⟩
    case round =>
      obtain ⟨j, hj, hj30, rfl, n, hn1, hn2, ho⟩ := hrel
      have OO := Lib.hid ho
      clear ho ON
      by_cases hlt : j < vs.length
      · have hjI : (j : Int) < vs.length := by omega
        obtain ⟨v, hv⟩ : ∃ v, vs[j]? = some v := ⟨_, List.getElem?_eq_getElem hlt⟩
        have OK := Lib.hid (HL.out.1 _ (List.mem_of_getElem? hv))
        obtain ⟨b, o, rfl, hbW, hall⟩ := HL.out.2 (by intro e; rw [e] at hlt; simp at hlt)
        have AF := hall j _ hv
        clear hall hv
        have BW := OO.out.bel
        obtain ⟨vo, vf, vt, vk, va, vb, vbp, vbc, vbs⟩ := v
        rw [hB] at hbW
        have a0 : wr.cell? ⟨b, o + j * 7, none⟩ = some (.int .i64 vo) := (BW.cell hbW).trans (AF 0 _ rfl)
        have a1 : wr.cell? ⟨b, o + j * 7 + 1, none⟩ = some (.int .i64 vf) := (BW.cell hbW).trans (AF 1 _ rfl)
        have a2 : wr.cell? ⟨b, o + j * 7 + 2, none⟩ = some (.int .i64 vt) := (BW.cell hbW).trans (AF 2 _ rfl)
        have a3 : wr.cell? ⟨b, o + j * 7 + 3, none⟩ = some (.int .i64 vk) := (BW.cell hbW).trans (AF 3 _ rfl)
        have a4 : wr.cell? ⟨b, o + j * 7 + 4, none⟩ = some (.int .i64 va) := (BW.cell hbW).trans (AF 4 _ rfl)
        have a5 : wr.cell? ⟨b, o + j * 7 + 5, none⟩ = some (.int .u8 (vb.toNat : Int)) := (BW.cell hbW).trans (AF 5 _ rfl)
        have a6 : wr.cell? ⟨b, o + j * 7 + 6, none⟩ = some (.slice vbp vbs.length vbc) := (BW.cell hbW).trans (AF 6 _ rfl)
        clear AF BW
        go_upto_region 8 with fail
        have al : Below wr.heap.size wr (wr.alloc (.cells #[.int .i64 vo, .int .i64 vf, .int .i64 vt, .int .i64 vk, .int .i64 va, .int .u8 (vb.toNat : Int), .slice vbp vbs.length vbc] 32)) := (Below.refl _ _).alloc (Nat.le_refl _) _
        have O3 := Lib.hid (OO.out.below al)
        have HN := heap_alloc_new wr (.cells #[.int .i64 vo, .int .i64 vf, .int .i64 vt, .int .i64 vk, .int .i64 va, .int .u8 (vb.toNat : Int), .slice vbp vbs.length vbc] 32)
        have hNB : B ≤ wr.heap.size := OO.out.size
        clear a0 a1 a2 a3 a4 a5 a6 OO al
        generalize wr.alloc (.cells #[.int .i64 vo, .int .i64 vf, .int .i64 vt, .int .i64 vk, .int .i64 va, .int .u8 (vb.toNat : Int), .slice vbp vbs.length vbc] 32) = w3 at O3 HN ⊢
        generalize wr.heap.size = N at HN hNB ⊢
        have e0 : w3.cell? ⟨N, 0, none⟩ = some (.int .i64 vo) := by rw [cell_of_row w3 N 0 _ _ _ HN]; rfl
        have e3 : w3.cell? ⟨N, 3, none⟩ = some (.int .i64 vk) := by rw [cell_of_row w3 N 3 _ _ _ HN]; rfl
        have e4 : w3.cell? ⟨N, 4, none⟩ = some (.int .i64 va) := by rw [cell_of_row w3 N 4 _ _ _ HN]; rfl
        have e5 : w3.cell? ⟨N, 5, none⟩ = some (.int .u8 (vb.toNat : Int)) := by rw [cell_of_row w3 N 5 _ _ _ HN]; rfl
        clear HN
        by_cases h30 : j < 30
        · have h30I : ¬ (30 : Int) ≤ j := by omega
          have hnI : ¬ (n : Int) < 1 := by omega
          obtain ⟨m, hm, hm2⟩ := u64_of vk
          have hx : m % n < n := Nat.mod_lt _ (by omega)
          have hrem : (m : Int).tmod (n : Int) = ((m % n : Nat) : Int) := by rw [Int.tmod_eq_emod_of_nonneg (by omega)]; simp
          have hun : IntKind.u64.wrap (n : Int) = (n : Int) := by rw [IntKind.wrap_u64]; omega
          generalize hxx : m % n = x at hx hrem
          have HXX := Lib.hid hxx
          clear hxx
          have hux : IntKind.u64.wrap (x : Int) = (x : Int) := by rw [IntKind.wrap_u64]; omega
          have hix : IntKind.i64.wrap (x : Int) = (x : Int) := by rw [IntKind.wrap_i64]; omega
          have hn0 : ¬ (n : Int) = 0 := by omega
          have hn00 : ¬ n = 0 := by omega
          have CN := Lib.hid (once_count O3.out)
          by_cases hz : bits .and .i64 vo 1 = 0
          · go_wp2_with fail
            refine CN.out.mono ?_
            rintro e w' ⟨rfl, rfl⟩
            go_wp2
            have SP := Lib.hid (fun V (hV : Below w3.heap.size w3 V) => once_spoil (O3.out.below hV) x hx va OK.out.at_ vb)
            go_region_law (go_simp; go_at_call 14; refine (SP.out _ (by first | exact (Below.refl _ _).drew | exact Below.refl _ _)).mono ?_; rintro e w4 ⟨⟨r, rfl⟩, ho4⟩)
            all_goals
              have O4 := Lib.hid ho4
              clear ho4 SP CN O3 e0 e3 e4 e5
              go_wp2
              go_roundw
              case rel => exact ⟨j + 1, by omega, by omega, by go_num, n, by omega, by omega, O4.out⟩
              case measure => simp [intOf]; omega
          · have DB := Lib.hid (once_double O3.out x hx (by omega))
            go_wp2_with fail
            refine CN.out.mono ?_
            rintro e w' ⟨rfl, rfl⟩
            go_wp2_with fail
            refine DB.out.mono ?_
            rintro e w4 ⟨⟨r, rfl⟩, ho4⟩
            have O4 := Lib.hid ho4
            clear ho4 DB CN O3 e0 e3 e4 e5
            go_wp2
            go_roundw
            case rel => exact ⟨j + 1, by omega, by omega, by go_num, n + 1, by omega, by omega, O4.out⟩
            case measure => simp [intOf]; omega
        · have h30I : (30 : Int) ≤ j := by omega
          go_wp2_with fail
          go_meet
          case rel => exact ⟨rfl, n, by omega, O3.out⟩
      · obtain rfl : j = vs.length := by omega
        have hjl' : ¬ ((vs.length : Nat) : Int) < vs.length := by omega
        go_wp2_with fail
        go_meet
        case rel => exact ⟨rfl, n, by omega, OO.out⟩
  case rest =>
    obtain ⟨rfl, n0, hn0, ho⟩ := hcut
    have OO := Lib.hid ho
    clear ho ON HL
    go_wp2_with fail
    go_loopg [11] n0 (fun g v wr => g ≤ 31 ∧ Once B A cs W wr g)
    case atStart => exact ⟨hn0, OO.out⟩
    case round =>
      obtain ⟨hg, ho⟩ := hrel
      have O1 := Lib.hid ho
      clear ho OO
      have CN := Lib.hid (once_count O1.out)
      cases gk with
      | zero =>
        go_wp2_with fail
        refine CN.out.mono ?_
        rintro e w' ⟨rfl, rfl⟩
        go_wp2_with fail
        refine (AW.out _).mono ?_
        rintro e w3 ⟨rfl, hb3⟩
        have E := Lib.hid (O1.out.bel.trans (hb3.mono O1.out.size))
        clear hb3 CN
        go_wp2
        go_ret
        exact ⟨rfl, by rw [hB]; exact E.out⟩
      | succ g =>
        have TK := Lib.hid (once_take O1.out)
        have hgI : (0 : Int) < ((g + 1 : Nat) : Int) := by omega
        generalize hG : ((g + 1 : Nat) : Int) = G at CN hgI
        clear hG
        go_wp2_with fail
        refine CN.out.mono ?_
        rintro e w' ⟨rfl, rfl⟩
        go_wp2_with fail
        refine TK.out.mono ?_
        rintro e w4 ⟨v, ds, T, rfl, hrow, hoff, ho4⟩
        obtain ⟨_, pv, cv, rfl, _, _, hlv, _⟩ := own_lies hrow
        have O4 := Lib.hid ho4; have LV := Lib.hid hlv; have OF := Lib.hid hoff
        have hlen := hoff.1
        rw [hlen]
        have DL := Lib.hid hlen
        generalize hL : cs.length = L at *
        have HCL := Lib.hid hL
        clear hrow hoff ho4 hlv hlen TK CN O1 hL
        go_wp2_with fail
        go_loopw [11, 82] (fun u i wx => ∃ k o : Nat, k ≤ L ∧ i = .int .i64 k ∧ u = .int .i64 o ∧ o ≤ 1 ∧ (k ≤ T → o = 0) ∧ Once B A cs W wx g ∧ Below w4.heap.size w4 wx) (fun _ i _ => L - (intOf i).toNat)
        case atStart => exact ⟨0, 0, Nat.zero_le _, rfl, rfl, by omega, fun _ => rfl, O4.out, Below.refl _ _⟩
        case round =>
          clear O4
          obtain ⟨k, o, hk, rfl, rfl, ho1, hoT, hoc, hbw⟩ := hrel
          have O4 := Lib.hid hoc; have BW4 := Lib.hid hbw
          have HOT := Lib.hid hoT
          clear hoc hbw hoT
          by_cases hkl : k < L
          · have hkI : (k : Int) < L := by omega
            obtain ⟨b1, o1, rfl, hlt1, hc1⟩ := (LV.out.below BW4.out).at (by rw [DL.out]; omega)
            obtain ⟨b2, o2, rfl, hlt2, hc2⟩ := (LB.out.below (by rw [hB]; exact O4.out.bel)).at (by rw [HCL.out]; omega)
            have x1 := hc1 k (by rw [DL.out]; omega)
            have x2 := hc2 k (by rw [HCL.out]; omega)
            clear hc1 hc2
            by_cases hkT : ds.getD k 0 = cs.getD k 0
            · rw [hkT] at x1
              generalize cs.getD k 0 = y at x1 x2
              clear hkT
              go_wp2
              go_quiet (fail)
              have O5 := Lib.hid (O4.out.below (drewN_belowE (Below.refl wr.heap.size wr) nq)); have BW5 := Lib.hid (drewN_belowE BW4.out nq)
              go_wp2
              go_roundw
              case rel => exact ⟨k + 1, o, by omega, by go_num, rfl, ho1, fun h => HOT.out (by omega), O5.out, BW5.out⟩
              case measure => simp [intOf]; omega
            · have hTk : k = T := by
                rcases Nat.decEq k T with h | h
                · exact absurd (OF.out.2 k h) hkT
                · exact h
              have ho0 : o = 0 := HOT.out (by omega)
              subst ho0
              have hne : (((ds.getD k 0).toNat : Int) != ((cs.getD k 0).toNat : Int)) = true := by
                simp only [bne_iff_ne, ne_eq]
                intro h
                exact hkT (UInt8.toNat_inj.1 (by omega))
              generalize ds.getD k 0 = y1 at x1 hne
              generalize cs.getD k 0 = y2 at x2 hne
              have HTK := Lib.hid hTk
              clear hkT hTk
              go_wp2
              go_quiet (fail)
              have O5 := Lib.hid (O4.out.below (drewN_belowE (Below.refl wr.heap.size wr) nq)); have BW5 := Lib.hid (drewN_belowE BW4.out nq)
              go_wp2
              go_roundw
              case rel => exact ⟨k + 1, 1, by omega, by go_num, rfl, Nat.le_refl _, fun h => by have := HTK.out; omega, O5.out, BW5.out⟩
              case measure => simp [intOf]; omega
          · obtain rfl : k = L := by omega
            have ho1I : ¬ (1 : Int) < o := by omega
            go_wp2_with fail
            go_roundg g
            case measure => omega
            case rel => exact ⟨by omega, O4.out⟩
end Go.Proofs.Ytfdiclamjgldnaa
