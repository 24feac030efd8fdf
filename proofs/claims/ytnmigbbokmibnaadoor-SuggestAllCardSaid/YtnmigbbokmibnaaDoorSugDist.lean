/- How far two texts are: suggest.Distance. -/
import Derived.Test.YtnmigbbokmibnaaDoorSugTab
import Derived.Deep.CutBlock
import Derived.Deep.DeepCutAuto
namespace Go.Proofs.YtnmigbbokmibnaaDoor
open Go Go.RowKit
set_option linter.unusedVariables false

abbrev sgOf (s : ByteArray) : List Int := Utf.sgs s s.size 0
def fnL (l : List Int) (i : Nat) : Int := l.getD i 0
/-- how far two lists of signs are -/
def farL (a b : List Int) : Nat := Sug.dp (fnL a) (fnL b) a.length b.length
def doneD (lb i k i' k' : Nat) : Prop := (i' < i ∧ k' ≤ lb) ∨ (i' = i ∧ k' < k)
theorem Tab.drewSet {w : World} {T : Nat} {D : Nat → Nat → Nat} {done : Nat → Nat → Prop} {p : Addr} {v : Value} (h : Tab (w.setCell p v) T D done) (n : Nat) : Tab ((w.drewN n).setCell p v) T D done := ⟨h.cells, h.there, h.free⟩
theorem below_drewSet {B : Nat} {a w : World} {p : Addr} {v : Value} (h : Below B a (w.setCell p v)) (n : Nat) : Below B a ((w.drewN n).setCell p v) := ⟨h.os, h.tape, h.output, h.size, h.block⟩
set_option maxHeartbeats 20000000 in
set_option maxRecDepth 1000000 in
theorem dist_is (s t : ByteArray) (w : World) (hs : s.size ≤ 63) (ht : t.size ≤ 63) (hT : Shapes w) :
    Calls Tryd.prog 18 #[.string s, .string t] w fun e w' => e = .returned (.int .i64 (farL (sgOf s) (sgOf t) : Nat)) ∧ Below w.heap.size w w' := by
  have S1 := Lib.hid (signs_is s w hs hT)
  have TT := Lib.hid hT
  have hla := Utf.sgs_len s s.size 0 (Nat.zero_le _)
  have hlb := Utf.sgs_len t t.size 0 (Nat.zero_le _)
  have ST := Lib.hid (fun W hW => signs_is t W ht hW)
  unfold sgOf
  generalize Utf.sgs s s.size 0 = a at S1 hla ⊢
  generalize Utf.sgs t t.size 0 = b at ST hlb ⊢
  have ha : a.length ≤ 63 := by omega
  have hb : b.length ≤ 63 := by omega
  obtain ⟨R, hR⟩ : ∃ R, farL a b = R := ⟨_, rfl⟩
  rw [hR]
  have HR := Lib.hid hR
  clear hla hlb hT hR
  go_enter Tryd.func18, Tryd.ntmps18
  go_wp2_with fail
  refine S1.out.mono ?_
  rintro e w1 ⟨v1, rfl, ho1, hb1⟩
  have B1 := Lib.hid hb1
  have S2 := Lib.hid (ST.out w1 (TT.out.below hb1))
  obtain ⟨_, q1, c1, rfl, _, hl1, _⟩ := own_liesI ho1
  have L1 := Lib.hid hl1
  clear ho1 hb1 hl1 S1 ST
  go_wp2_with fail
  refine S2.out.mono ?_
  rintro e w2 ⟨v2, rfl, ho2, hb2⟩
  have B2 := Lib.hid (thenBelow B1.out hb2)
  obtain ⟨_, q2, c2, rfl, _, hl2, _⟩ := own_liesI ho2
  have L2 := Lib.hid (L1.out.below hb2)
  have M2 := Lib.hid hl2
  clear ho2 hb2 hl2 S2 L1 B1
  obtain ⟨i0, Z, hi0, hz0, hzc⟩ := zeroTab
  obtain ⟨cs, hcs⟩ : ∃ cs, Z.cells = cs := ⟨_, rfl⟩
  rw [hcs] at hzc
  have HI := Lib.hid hi0; have HZ := Lib.hid hz0; have HC := Lib.hid hzc; have HS := Lib.hid hcs
  clear hi0 hz0 hzc hcs
  go_wp2_with (refine wpList_big HI.out HZ.out HS.out rfl rfl ?_)
  intro T w3 hT3 hT3b hb3
  have hTab : Tab w3 T (Sug.dp (fnL a) (fnL b)) (doneD b.length 0 0) := tab_new hT3b HC.out _ (fun i k h => by unfold doneD at h; omega)
  have T3 := Lib.hid hTab
  have B3 := Lib.hid (thenBelow B2.out hb3)
  have hTz : w2.heap.size ≤ T := hT3
  have BT3 := Lib.hid hb3
  have hz2 := B2.out.size
  clear hTab hT3b hb3 hT3 HI HZ HC HS B3
  go_wp2_with fail
  go_loopw [19] (fun i wr => ∃ (I : Nat), I ≤ a.length + 1 ∧ i = .int .i64 I ∧ Tab wr T (Sug.dp (fnL a) (fnL b)) (doneD b.length I 0) ∧ Below w2.heap.size w2 wr) (fun i _ => a.length + 1 - (intOf i).toNat)
  case atStart => exact ⟨0, Nat.zero_le _, rfl, T3.out, BT3.out⟩
  case round =>
    obtain ⟨I, hI, rfl, htab, hB⟩ := hrel
    have TB := Lib.hid htab; have BB := Lib.hid hB
    clear htab hB T3 BT3
    by_cases hIl : I < a.length + 1
    · have hIl' : (I : Int) < (a.length : Int) + 1 := by omega
      have hI65 : I < 65 := by omega
      go_wp2_with fail
      go_loopw [25] (fun k wq => ∃ (K : Nat), K ≤ b.length + 1 ∧ k = .int .i64 K ∧ Tab wq T (Sug.dp (fnL a) (fnL b)) (doneD b.length I K) ∧ Below w2.heap.size w2 wq) (fun k _ => b.length + 1 - (intOf k).toNat)
      case atStart => exact ⟨0, Nat.zero_le _, rfl, TB.out, BB.out⟩
      case round =>
        obtain ⟨K, hK, rfl, htab, hB⟩ := hrel
        have TB2 := Lib.hid htab; have BB2 := Lib.hid hB
        clear htab hB TB BB
        by_cases hKl : K < b.length + 1
        · have hKl' : (K : Int) < (b.length : Int) + 1 := by omega
          have hK65 : K < 65 := by omega
          have hth := TB2.out.there (I * 65 + K) (by omega)
          obtain ⟨uc, huc⟩ := Option.isSome_iff_exists.1 hth
          have hfr := TB2.out.free (I * 65 + K)
          clear hth
          by_cases hIK : I = 0 ∨ K = 0
          · have hz := Sug.dp_zero (fnL a) (fnL b) hIK
            have NT := fun (x : Nat) (hx : x = Sug.dp (fnL a) (fnL b) I K) => TB2.out.set (done' := doneD b.length I (K + 1)) I K x hI65 hK65 hx (fun i' k' h _ => by unfold doneD at h ⊢; omega)
            have hn2 := NT (I + K) hz.symm
            rw [show ((I + K : Nat) : Int) = (I : Int) + (K : Int) by simp] at hn2
            have N2 := Lib.hid hn2
            have B4 := Lib.hid (BB2.out.setCell (p := ⟨T, I * 65 + K, none⟩) hTz (.int .i64 ((I : Int) + (K : Int))))
            clear hn2
            clear NT hz TB2 BB2
            by_cases hI0 : I = 0
            · have hI0b : ((I : Int) == 0) = true := by simp [hI0]
              clear hIK hI0
              go_wp2_with fail
              go_roundw
              case rel => exact ⟨K + 1, by omega, by go_num, N2.out, B4.out⟩
              case measure => simp [intOf]; omega
            · have hI0b : ((I : Int) == 0) = false := by simp [hI0]
              have hK0b : ((K : Int) == 0) = true := by have : K = 0 := by omega
                                                        simp [this]
              clear hIK hI0
              go_wp2_with fail
              go_roundw
              case rel => exact ⟨K + 1, by omega, by go_num, N2.out, B4.out⟩
              case measure => simp [intOf]; omega
          · obtain ⟨P, hPI⟩ : ∃ P, I = P + 1 := ⟨I - 1, by omega⟩
            obtain ⟨Q, hQK⟩ : ∃ Q, K = Q + 1 := ⟨K - 1, by omega⟩
            have hstep := Sug.dp_step (fnL a) (fnL b) (i := I) (k := K) hIK
            unfold Sug.dp3 at hstep
            rw [show I - 1 = P by omega, show K - 1 = Q by omega] at hstep
            have cl1 := TB2.out.cells P Q (.inl ⟨by omega, by omega⟩) (by omega) (by omega)
            have cl2 := TB2.out.cells P K (.inl ⟨by omega, by omega⟩) (by omega) (by omega)
            have cl3 := TB2.out.cells I Q (.inr ⟨rfl, by omega⟩) (by omega) (by omega)
            have h1 := Sug.dp_high (fnL a) (fnL b) _ P Q (Nat.le_refl _)
            have h2 := Sug.dp_high (fnL a) (fnL b) _ P K (Nat.le_refl _)
            have h3 := Sug.dp_high (fnL a) (fnL b) _ I Q (Nat.le_refl _)
            have NT := Lib.hid (fun (x : Nat) (hx : x = Sug.dp (fnL a) (fnL b) I K) => TB2.out.set (done' := doneD b.length I (K + 1)) I K x hI65 hK65 hx (fun i' k' h _ => by unfold doneD at h ⊢; omega))
            have BT := Lib.hid (fun (x : Int) => BB2.out.setCell (p := ⟨T, I * 65 + K, none⟩) hTz (.int .i64 x))
            obtain ⟨ba, oa, rfl, _, hca⟩ := (L2.out.below BB2.out).at (by omega)
            obtain ⟨bb, ob, rfl, _, hcb⟩ := (M2.out.below BB2.out).at (by omega)
            have caP := hca P (by omega)
            have cbQ := hcb Q (by omega)
            have hPa : (P : Int) < a.length := by omega
            have hQb : (Q : Int) < b.length := by omega
            have hP65 : (P : Int) < 65 := by omega
            have hQ65 : (Q : Int) < 65 := by omega
            have hIi : (I : Int) < 65 := by omega
            have hKi : (K : Int) < 65 := by omega
            have hIm : (I : Int) - 1 = (P : Int) := by omega
            have hKm : (K : Int) - 1 = (Q : Int) := by omega
            have hI0b : ((I : Int) == 0) = false := by rw [beq_eq_false_iff_ne]; omega
            have hK0b : ((K : Int) == 0) = false := by rw [beq_eq_false_iff_ne]; omega
            have HPI := Lib.hid hPI; have HQK := Lib.hid hQK
            obtain ⟨n1, e1⟩ : ∃ n, Sug.dp (fnL a) (fnL b) P Q = n := ⟨_, rfl⟩
            obtain ⟨n2, e2⟩ : ∃ n, Sug.dp (fnL a) (fnL b) P K = n := ⟨_, rfl⟩
            obtain ⟨n3, e3⟩ : ∃ n, Sug.dp (fnL a) (fnL b) I Q = n := ⟨_, rfl⟩
            rw [e1] at cl1 h1 hstep; rw [e2] at cl2 h2 hstep; rw [e3] at cl3 h3 hstep
            have hn1 : n1 ≤ 70 := by omega
            have hn2 : n2 ≤ 70 := by omega
            have hn3 : n3 ≤ 70 := by omega
            have HCA := Lib.hid hca; have HCB := Lib.hid hcb
            obtain ⟨x, hx⟩ : ∃ x, a.getD P 0 = x := ⟨_, rfl⟩
            obtain ⟨y, hy⟩ : ∃ y, b.getD Q 0 = y := ⟨_, rfl⟩
            rw [hx] at caP; rw [hy] at cbQ
            have hx' : fnL a P = x := hx
            have hy' : fnL b Q = y := hy
            rw [hx', hy'] at hstep
            obtain ⟨c, hc⟩ : ∃ c, n1 + (if x = y then 0 else 1) = c := ⟨_, rfl⟩
            rw [hc] at hstep
            have hc7 : c ≤ 71 := by rw [← hc]; split <;> omega
            have HC := Lib.hid hc
            obtain ⟨m3, hm3⟩ : ∃ m, min (min c (n2 + 1)) (n3 + 1) = m := ⟨_, rfl⟩
            rw [hm3] at hstep
            have hm3b : m3 ≤ 71 := by omega
            have hmi : min (min (c : Int) ((n2 : Int) + 1)) ((n3 : Int) + 1) = (m3 : Int) := by omega
            have HST := Lib.hid hstep
            have HX := Lib.hid hx'; have HY := Lib.hid hy'
            clear e1 e2 e3 h1 h2 h3 hstep hIK hca hcb hx hy hx' hy' hc hm3 hPI hQK
            go_upto_region 12 with fail
            go_cut [58] (fun v wx => v = .bool (x != y) ∧ ∃ n, wx = wr.drewN n)
            case first =>
              go_quiet (fail)
              go_wp2_with fail
              go_meet
              case rel => exact ⟨rfl, _, rfl⟩
            case rest =>
              obtain ⟨rfl, nn, rfl⟩ := hcut
              go_upto_if 58 with fail
              go_cut [10] (fun v wx => v = .int .i64 ((c : Nat) : Int) ∧ wx = wr.drewN nn)
              case first =>
                by_cases hxy : x = y
                · have hb : (x != y) = false := by simp [hxy]
                  have hcc : n1 = c := by have := HC.out; rw [if_pos hxy] at this; omega
                  subst hcc
                  clear hxy
                  go_wp2_with fail
                  go_meet
                  case rel => exact ⟨rfl, rfl⟩
                · have hb : (x != y) = true := by simp [hxy]
                  have hcc : c = n1 + 1 := by have := HC.out; rw [if_neg hxy] at this; omega
                  subst hcc
                  clear hxy
                  go_wp2_with fail
                  go_meet
                  case rel => exact ⟨by simp, rfl⟩
              case rest =>
                obtain ⟨rfl, rfl⟩ := hcut
                go_upto_region 14 with fail
                go_cut [11] (fun v wx => v = .int .i64 ((m3 : Nat) : Int) ∧ ∃ n, wx = wr.drewN n)
                case first =>
                  go_quiet (fail)
                  go_wp2_with fail
                  all_goals
                    go_meet
                    case rel => exact ⟨by first | rfl | (congr 1; omega), by first | exact ⟨_, rfl⟩ | exact ⟨_, World.drewN_drewN _ _ _⟩⟩
                case rest =>
                  obtain ⟨rfl, n4, rfl⟩ := hcut
                  clear hmi
                  have SW : Hid (Sug.swaps (fnL a) (fnL b) I K ↔ 1 < I ∧ 1 < K ∧ x = fnL b (K - 2) ∧ fnL a (I - 2) = y) := by
                    show Sug.swaps (fnL a) (fnL b) I K ↔ 1 < I ∧ 1 < K ∧ x = fnL b (K - 2) ∧ fnL a (I - 2) = y
                    have e1 : I - 1 = P := by have := HPI.out; omega
                    have e2 : K - 1 = Q := by have := HQK.out; omega
                    unfold Sug.swaps
                    rw [e1, e2, HX.out, HY.out]
                  obtain ⟨sw, hsw⟩ : ∃ sw, decide (Sug.swaps (fnL a) (fnL b) I K) = sw := ⟨_, rfl⟩
                  have HSW := Lib.hid hsw
                  clear hsw
                  go_upto_region 15 with fail
                  go_cut [108] (fun v wx => v = .bool sw ∧ ∃ n, wx = wr.drewN n)
                  case first =>
                    by_cases hP0 : 1 < I
                    · have hI1 : (I : Int) > 1 := by omega
                      have hI2 : decide (1 < (I : Int)) = true := decide_eq_true (by omega)
                      by_cases hQ0 : 1 < K
                      · have hK1 : (K : Int) > 1 := by omega
                        have hK2 : decide (1 < (K : Int)) = true := decide_eq_true (by omega)
                        obtain ⟨P2, hP2⟩ : ∃ P2, I = P2 + 2 := ⟨I - 2, by omega⟩
                        obtain ⟨Q2, hQ2⟩ : ∃ Q2, K = Q2 + 2 := ⟨K - 2, by omega⟩
                        have ca2 := HCA.out P2 (by omega)
                        have cb2 := HCB.out Q2 (by omega)
                        have hIm2 : (I : Int) - 2 = (P2 : Int) := by omega
                        have hKm2 : (K : Int) - 2 = (Q2 : Int) := by omega
                        have hP2a : (P2 : Int) < a.length := by omega
                        have hQ2b : (Q2 : Int) < b.length := by omega
                        have SW2 : Hid (Sug.swaps (fnL a) (fnL b) I K ↔ x = b.getD Q2 0 ∧ a.getD P2 0 = y) := by
                          show Sug.swaps (fnL a) (fnL b) I K ↔ x = b.getD Q2 0 ∧ a.getD P2 0 = y
                          rw [SW.out, show K - 2 = Q2 by omega, show I - 2 = P2 by omega]
                          exact ⟨fun h => h.2.2, fun h => ⟨hP0, hQ0, h⟩⟩
                        generalize a.getD P2 0 = x2 at ca2 SW2
                        generalize b.getD Q2 0 = y2 at cb2 SW2
                        clear hP2 hQ2 hP0 hQ0
                        by_cases hq1 : x = y2
                        · have hb1 : (x == y2) = true := by simp [hq1]
                          by_cases hq2 : x2 = y
                          · have hb2 : (x2 == y) = true := by simp [hq2]
                            have hs : sw = true := by rw [← HSW.out]; exact decide_eq_true (SW2.out.2 ⟨hq1, hq2⟩)
                            have HS := Lib.hid hs
                            clear hs hq1 hq2 SW2
                            clear HSW SW
                            go_quiet (fail)
                            go_wp2_with fail
                            go_meet
                            case rel => exact ⟨by rw [HS.out], by first | exact ⟨_, rfl⟩ | exact ⟨_, World.drewN_drewN _ _ _⟩⟩
                          · have hb2 : (x2 == y) = false := by simp [hq2]
                            have hs : sw = false := by rw [← HSW.out]; exact decide_eq_false (fun h => hq2 (SW2.out.1 h).2)
                            have HS := Lib.hid hs
                            clear hs hq1 hq2 SW2
                            clear HSW SW
                            go_quiet (fail)
                            go_wp2_with fail
                            go_meet
                            case rel => exact ⟨by rw [HS.out], by first | exact ⟨_, rfl⟩ | exact ⟨_, World.drewN_drewN _ _ _⟩⟩
                        · have hb1 : (x == y2) = false := by simp [hq1]
                          have hs : sw = false := by rw [← HSW.out]; exact decide_eq_false (fun h => hq1 (SW2.out.1 h).1)
                          have HS := Lib.hid hs
                          clear hs hq1 SW2
                          clear HSW SW
                          go_quiet (fail)
                          go_wp2_with fail
                          go_meet
                          case rel => exact ⟨by rw [HS.out], by first | exact ⟨_, rfl⟩ | exact ⟨_, World.drewN_drewN _ _ _⟩⟩
                      · have hK1 : ¬ (K : Int) > 1 := by omega
                        have hK2 : decide (1 < (K : Int)) = false := decide_eq_false (by omega)
                        have hs : sw = false := by rw [← HSW.out]; exact decide_eq_false (fun h => hQ0 (SW.out.1 h).2.1)
                        have HS := Lib.hid hs
                        clear hs hP0 hQ0
                        clear HSW SW
                        go_quiet (fail)
                        go_wp2_with fail
                        go_meet
                        case rel => exact ⟨by rw [HS.out], by first | exact ⟨_, rfl⟩ | exact ⟨_, World.drewN_drewN _ _ _⟩⟩
                    · have hI1 : ¬ (I : Int) > 1 := by omega
                      have hI2 : decide (1 < (I : Int)) = false := decide_eq_false (by omega)
                      have hs : sw = false := by rw [← HSW.out]; exact decide_eq_false (fun h => hP0 (SW.out.1 h).1)
                      have HS := Lib.hid hs
                      clear hs hP0
                      clear HSW SW
                      go_quiet (fail)
                      go_wp2_with fail
                      go_meet
                      case rel => exact ⟨by rw [HS.out], by first | exact ⟨_, rfl⟩ | exact ⟨_, World.drewN_drewN _ _ _⟩⟩
                  case rest =>
                    obtain ⟨rfl, n5, rfl⟩ := hcut
                    obtain ⟨r3, hr3⟩ : ∃ r, Sug.dp (fnL a) (fnL b) I K = r := ⟨_, rfl⟩
                    have N2 := Lib.hid (NT.out r3 hr3.symm)
                    have B4 := Lib.hid (BT.out ((r3 : Nat) : Int))
                    have HR3 := Lib.hid hr3
                    clear hr3
                    go_upto_if 108 with fail
                    go_cut [11] (fun v wx => v = .int .i64 ((r3 : Nat) : Int) ∧ wx = wr.drewN n5)
                    case first =>
                      cases sw with
                      | false =>
                        have hm : m3 = r3 := by
                          have := HST.out
                          rw [if_neg (of_decide_eq_false HSW.out), HR3.out] at this
                          exact this.symm
                        subst hm
                        go_wp2_with fail
                        go_meet
                        case rel => exact ⟨rfl, rfl⟩
                      | true =>
                        have hs := of_decide_eq_true HSW.out
                        have hs2 := SW.out.1 hs
                        obtain ⟨P2, hP2⟩ : ∃ P2, I = P2 + 2 := ⟨I - 2, by omega⟩
                        obtain ⟨Q2, hQ2⟩ : ∃ Q2, K = Q2 + 2 := ⟨K - 2, by omega⟩
                        have cl4 := TB2.out.cells P2 Q2 (.inl ⟨by omega, by omega⟩) (by omega) (by omega)
                        have h4 := Sug.dp_high (fnL a) (fnL b) _ P2 Q2 (Nat.le_refl _)
                        have hr := HST.out
                        rw [if_pos hs, HR3.out, show I - 2 = P2 by omega, show K - 2 = Q2 by omega] at hr
                        obtain ⟨n6, e6⟩ : ∃ n, Sug.dp (fnL a) (fnL b) P2 Q2 = n := ⟨_, rfl⟩
                        rw [e6] at cl4 h4 hr
                        have hn6 : n6 ≤ 70 := by omega
                        have hIm2 : (I : Int) - 2 = (P2 : Int) := by omega
                        have hKm2 : (K : Int) - 2 = (Q2 : Int) := by omega
                        have hP265 : (P2 : Int) < 65 := by omega
                        have hQ265 : (Q2 : Int) < 65 := by omega
                        have hmi : min (m3 : Int) ((n6 : Int) + 1) = (r3 : Int) := by omega
                        clear hs hs2 hr e6 h4 hP2 hQ2
                        go_wp2_with fail
                        all_goals
                          go_meet
                          case rel => exact ⟨by first | rfl | (congr 1; omega), rfl⟩
                    case rest =>
                      obtain ⟨rfl, rfl⟩ := hcut
                      clear SW HSW HST
                      go_wp2_with fail
                      go_roundw
                      case rel => exact ⟨K + 1, by omega, by go_num, N2.out.drewSet _, below_drewSet B4.out _⟩
                      case measure => simp [intOf]; omega
        · obtain rfl : K = b.length + 1 := by omega
          have hKl' : ¬ (((b.length + 1 : Nat)) : Int) < (b.length : Int) + 1 := by omega
          have N2 : Hid (Tab wr T (Sug.dp (fnL a) (fnL b)) (doneD b.length (I + 1) 0)) := by
            refine ⟨fun i' k' h hi' hk' => TB2.out.cells i' k' (by unfold doneD at h ⊢; omega) hi' hk', TB2.out.there, TB2.out.free⟩
          go_wp2_with fail
          go_roundw
          case rel => exact ⟨I + 1, by omega, by go_num, N2.out, BB2.out⟩
          case measure => simp [intOf]; omega
    · obtain rfl : I = a.length + 1 := by omega
      have hIl' : ¬ (((a.length + 1 : Nat)) : Int) < (a.length : Int) + 1 := by omega
      have cR := TB.out.cells a.length b.length (.inl ⟨by omega, Nat.le_refl _⟩) (by omega) (by omega)
      rw [show Sug.dp (fnL a) (fnL b) a.length b.length = R from HR.out] at cR
      go_wp2_with fail
      go_ret
      exact ⟨rfl, thenBelow B2.out BB.out⟩
end Go.Proofs.YtnmigbbokmibnaaDoor
