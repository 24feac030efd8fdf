/- The statement AuditLooks, proved for every input that its row reads: part 46 of 54. -/
import Derived.Test.YtkpldjiloinaoaaDoorPackAuditLooks42
import Derived.Test.YtkpldjiloinaoaaDoorPackAuditLooks44
import Derived.Deep.CutBlock
import Derived.Deep.DeepCutAuto
import Derived.Test.YtkpldjiloinaoaaDoorPackAuditLooks35
import Derived.Test.YtkpldjiloinaoaaDoorPackAuditLooks45
import Derived.Test.YtkpldjiloinaoaaDoorPackAuditLooks9
/- The document's Text of troubles. -/
namespace Go.Proofs.YtkpldjiloinaoaaDoor
open Go Go.RowKit
set_option linter.unusedVariables false
set_option maxRecDepth 1000000

def tB (l : List UInt8) : ByteArray := ⟨l.toArray⟩
theorem tB_app (a b : List UInt8) : tB (a ++ b) = tB a ++ tB b := by
  apply ByteArray.ext
  rw [ByteArray.data_append]
  simp [tB]
theorem tB_size (a : List UInt8) : (tB a).size = a.length := by simp [tB, ByteArray.size]
set_option maxHeartbeats 1000000 in
theorem refDig36_is (i : Int) (h : -9223372036854775808 ≤ i ∧ i ≤ 9223372036854775807) (w : World) : Calls Tryd.prog 23 #[.int .i64 i] w (DigR w (tB (Lib.itoa i))) := by
  obtain ⟨s, hs⟩ : ∃ s, tB (Lib.itoa i) = s := ⟨_, rfl⟩
  rw [hs]
  by_cases hm : i = -9223372036854775808
  · have HS : Hid (s = minB) := Lib.hid (by rw [← hs, hm]; exact itoB_min)
    clear hs
    subst hm
    go_enter Tryd.func23, Tryd.ntmps23
    go_wp2
    go_ret
    exact ⟨by rw [HS.out]; rfl, Below.refl _ _⟩
  · have DG : Hid (∀ V : World, Calls Tryd.prog 39 #[.int .i64 i] V (DigR V s)) := Lib.hid fun V => by rw [← hs]; exact refDigits_is i (by omega) h.2 V
    have hne : (i == -9223372036854775808) = false := by simpa using hm
    clear hs
    go_enter Tryd.func23, Tryd.ntmps23
    go_wp2_with fail
    refine (DG.out w).mono ?_
    rintro e w2 ⟨rfl, hb⟩
    have B := Lib.hid hb
    clear hb
    go_wp2
    go_ret
    exact ⟨rfl, B.out⟩
def wordsV : Array Value := (wordsB.map fun l => Value.string ⟨l.toArray⟩).toArray
theorem wordsV_at (n : Nat) (h : n < 9) : wordsV[n]? = some (.string ⟨(wordsB.getD n []).toArray⟩) := by
  match n, h with
  | 0, _ => rfl
  | 1, _ => rfl
  | 2, _ => rfl
  | 3, _ => rfl
  | 4, _ => rfl
  | 5, _ => rfl
  | 6, _ => rfl
  | 7, _ => rfl
  | 8, _ => rfl
set_option maxHeartbeats 1000000 in
theorem refTextG_is (p : Option Addr) (c : Nat) (T : List Tr) (w : World) (hT : TrAt w p T) (hn : T.length ≤ 1000) (hok : ∀ t ∈ T, OkT t) : Calls Tryd.prog 12 #[.slice p T.length c] w (TextR w T) := by
  have HT := Lib.hid hT; have HO := Lib.hid hok
  have ba := below_alloc w (.cells wordsV 9)
  have na := heap_alloc_new w (.cells wordsV 9)
  have B0 := Lib.hid ba; have N0 := Lib.hid na
  clear hT hok ba na
  go_enter Tryd.func12, Tryd.ntmps12
  go_upto_region 2 with fail
  change Code.wp _ _ _ _ (w.alloc (.cells wordsV 9))
  generalize w.alloc (.cells wordsV 9) = w0 at B0 N0 ⊢
  generalize hGW : w.heap.size = GW at N0 ⊢
  have GWH := Lib.hid hGW
  clear hGW
  go_wp2
  go_loopw [4, 11] (fun v i wr => ∃ k : Nat, k ≤ T.length ∧ i = .int .i64 k ∧ v = .string (tB (textT (T.take k))) ∧ Below w0.heap.size w0 wr) (fun _ i _ => T.length - (RowKit.intOf i).toNat)
  case atStart => exact ⟨0, Nat.zero_le _, rfl, rfl, Below.refl _ _⟩
  case round =>
    obtain ⟨k, hk, rfl, rfl, hb⟩ := hrel
    have BR := Lib.hid hb
    clear hb
    by_cases hkl : k < T.length
    · have hkl' : (k : Int) < T.length := by omega
      have TK : Hid (tB (textT (T.take (k + 1))) = tB (textT (T.take k)) ++ tB (lineT T[k])) := Lib.hid (by rw [List.take_succ_eq_append_getElem hkl, textT_snoc, tB_app])
      have OT := Lib.hid (HO.out _ (List.getElem_mem hkl))
      have hl : (tB (textT (T.take k))).size ≤ 50000 := by
        rw [tB_size]
        have := textT_len (T.take k) (fun t ht => HO.out t (List.mem_of_mem_take ht))
        rw [List.length_take] at this; omega
      obtain ⟨b, o, rfl, hq⟩ := ((HT.out.below B0.out).below BR.out).at hkl
      obtain ⟨⟨tk, tr, tn⟩, hy⟩ : ∃ y, T[k] = y := ⟨_, rfl⟩
      rw [hy] at hq TK OT
      have c0 : wr.cell? ⟨b, o + k * 3, none⟩ = some (.int .i64 tk) := hq 0 _ rfl
      have c1 : wr.cell? ⟨b, o + k * 3 + 1, none⟩ = some (.int .i64 tr) := hq 1 _ rfl
      have c2 : wr.cell? ⟨b, o + k * 3 + 2, none⟩ = some (.int .i64 tn) := hq 2 _ rfl
      have D1 := Lib.hid (refDig36_is tr OT.out.1); have D2 := Lib.hid (refDig36_is tn OT.out.2)
      have z1 : (tB (Lib.itoa tr)).size ≤ 20 := by rw [tB_size]; exact itoa_len tr OT.out.1
      have z2 : (tB (Lib.itoa tn)).size ≤ 20 := by rw [tB_size]; exact itoa_len tn OT.out.2
      have z3 : (wordC tk).size ≤ 7 := by rw [wordC, ← tB, tB_size]; exact wordL_len tk
      have LN : Hid (tB (lineT (tk, tr, tn)) = wordC tk ++ ⟨#[32]⟩ ++ tB (Lib.itoa tr) ++ ⟨#[46]⟩ ++ tB (Lib.itoa tn) ++ ⟨#[10]⟩) := Lib.hid (by
        rw [lineT, tB_app, tB_app, tB_app, tB_app, tB_app]; rfl)
      clear hy hq OT
      generalize tB (textT (T.take k)) = S0 at TK hl
      generalize tB (Lib.itoa tr) = S1 at D1 z1 LN
      generalize tB (Lib.itoa tn) = S2 at D2 z2 LN
      have hwb : ∀ n : Nat, n < 9 → 0 < n → tk = n → wordC tk = ⟨(wordsB.getD n []).toArray⟩ := fun n hn h0 e => by subst e; rw [wordC, wordL, if_neg (by omega), Int.toNat_natCast]
      have hwq : ¬ (0 < tk ∧ tk < 9) → wordC tk = ⟨#[63]⟩ := fun h => by
        rw [wordC, wordL]
        by_cases h2 : tk < 0 ∨ 9 ≤ tk
        · rw [if_pos h2]
        · have : tk = 0 := by omega
          subst this; rfl
      have WB := Lib.hid hwb; have WQ := Lib.hid hwq
      have ba := below_alloc wr (.cells #[.int .i64 tk, .int .i64 tr, .int .i64 tn] 39)
      have na := heap_alloc_new wr (.cells #[.int .i64 tk, .int .i64 tr, .int .i64 tn] 39)
      have B6 := Lib.hid (thenBelow BR.out ba); have N6 := Lib.hid na
      clear ba na hwb hwq
      go_upto_region 7 with fail
      clear c0 c1 c2 BR
      generalize wr.alloc (.cells #[.int .i64 tk, .int .i64 tr, .int .i64 tn] 39) = w6 at B6 N6 ⊢
      generalize wr.heap.size = G at N6 ⊢
      have k0 : w6.cell? ⟨G, 0, none⟩ = some (.int .i64 tk) := cell_of_row _ G 0 _ _ _ N6.out
      have NW := Lib.hid ((B6.out.block GW (Array.getElem?_eq_some_iff.1 N0.out).1).trans N0.out)
      go_cut [22] (fun v wx => v = .bool (decide (0 < tk ∧ tk < 9)) ∧ wx = w6)
      case first =>
        clear NW B6 N6 D1 D2 WB WQ TK LN HT HO B0 N0
        by_cases h0 : 0 < tk
        · have h1 : tk > 0 := h0
          by_cases h9 : tk < 9
          · go_wp2
            go_meet
            exact ⟨congrArg Value.bool (decide_eq_true (p := 0 < tk ∧ tk < 9) ⟨h0, h9⟩).symm, rfl⟩
          · go_wp2
            go_meet
            exact ⟨congrArg Value.bool (decide_eq_false (p := 0 < tk ∧ tk < 9) (by omega)).symm, rfl⟩
        · have h1 : ¬ tk > 0 := h0
          go_wp2
          go_meet
          exact ⟨congrArg Value.bool (decide_eq_false (p := 0 < tk ∧ tk < 9) (by omega)).symm, rfl⟩
      case rest =>
      obtain ⟨rfl, rfl⟩ := hcut
      go_upto_if 22 with fail
      go_cut [7] (fun v wx => v = .string (wordC tk) ∧ wx = wc)
      case first =>
        by_cases h : 0 < tk ∧ tk < 9
        · obtain ⟨n, rfl⟩ : ∃ n : Nat, tk = n := ⟨tk.toNat, by omega⟩
          have hd : decide (0 < (n : Int) ∧ (n : Int) < 9) = true := decide_eq_true h
          rw [hd]
          have hn9 : n < 9 := by omega
          have hn91 : (n : Int) < 9 := by omega
          have cw : wc.cell? ⟨GW, n, none⟩ = some (.string ⟨(wordsB.getD n []).toArray⟩) := (cell_of_row _ GW n _ _ _ NW.out).trans (wordsV_at n hn9)
          have e := Lib.hid (WB.out n hn9 (by omega) rfl)
          generalize (⟨(wordsB.getD n []).toArray⟩ : ByteArray) = Z at cw e
          clear NW B6 N6 D1 D2 WB WQ TK LN HT HO B0 N0 hd
          go_wp2
          go_meet
          exact ⟨by rw [e.out], rfl⟩
        · have hd : decide (0 < tk ∧ tk < 9) = false := decide_eq_false h
          rw [hd]
          have e := Lib.hid (WQ.out h)
          clear NW B6 N6 D1 D2 WB WQ TK LN HT HO B0 N0 hd h k0
          go_wp2
          go_meet
          exact ⟨by rw [e.out], rfl⟩
      case rest =>
      obtain ⟨rfl, rfl⟩ := hcut
      clear WB WQ NW k0
      generalize wordC tk = W at LN z3
      go_wp2_with fail
      have m0 : wc.drew.heap[G]? = some (.cells #[.int .i64 tk, .int .i64 tr, .int .i64 tn] 39) := N6.out
      refine rg_last (by kernel_rfl) rfl (S := fun U => U.heap[G]? = some (.cells #[.int .i64 tk, .int .i64 tr, .int .i64 tn] 39)) ?_
      refine rgd_pure 0 (some 28) rfl rfl (.string S0) (by kernel_rfl) (by kernel_rfl) (by kernel_rfl) (fun _ _ _ _ h => h) (by kernel_rfl) (fun w => by kernel_rfl) m0 ?_
      refine rgd_pure 1 (some 29) rfl rfl (.string W) (by kernel_rfl) (by kernel_rfl) (by kernel_rfl) (fun _ _ _ _ h => h) (by kernel_rfl) (fun w => by kernel_rfl) m0 ?_
      refine rgd_pure 2 (some 30) rfl rfl (.string (S0 ++ W)) (by kernel_rfl) (by kernel_rfl) (by kernel_rfl) (fun _ _ _ _ h => h) (by kernel_rfl) (fun w => exec_addS _ _ _ _ rfl (S0) (W) (by kernel_rfl) (by kernel_rfl) (by have e1 : (⟨#[32]⟩ : ByteArray).size = 1 := rfl; have e2 : (⟨#[46]⟩ : ByteArray).size = 1 := rfl; have e3 : (⟨#[10]⟩ : ByteArray).size = 1 := rfl; (try simp only [ByteArray.size_append]); omega) w) m0 ?_
      refine rgd_pure 3 (some 31) rfl rfl (.string (S0 ++ W ++ (⟨#[32]⟩ : ByteArray))) (by kernel_rfl) (by kernel_rfl) (by kernel_rfl) (fun _ _ _ _ h => h) (by kernel_rfl) (fun w => exec_addS _ _ _ _ rfl (S0 ++ W) ((⟨#[32]⟩ : ByteArray)) (by kernel_rfl) (by kernel_rfl) (by have e1 : (⟨#[32]⟩ : ByteArray).size = 1 := rfl; have e2 : (⟨#[46]⟩ : ByteArray).size = 1 := rfl; have e3 : (⟨#[10]⟩ : ByteArray).size = 1 := rfl; (try simp only [ByteArray.size_append]); omega) w) m0 ?_
      refine rgd_pure 4 (some 32) rfl rfl (.pointer (some ⟨G, 1, none⟩)) (by kernel_rfl) (by kernel_rfl) (by kernel_rfl) (fun _ _ _ _ h => h) (by kernel_rfl) (fun w => by kernel_rfl) m0 ?_
      refine rgd_pure 5 (some 33) rfl rfl (.pointer (some ⟨G, 1, none⟩)) (by kernel_rfl) (by kernel_rfl) (by kernel_rfl) (fun _ _ _ _ h => h) (by kernel_rfl) (fun w => by kernel_rfl) m0 ?_
      refine rgd_pureS 6 (some 34) rfl rfl (.int .i64 tr) (by kernel_rfl) (by kernel_rfl) (by kernel_rfl) (fun _ _ _ _ h => h) (by kernel_rfl) (fun U hU => exec_load1 _ _ rfl Tryd.underlying3 rfl ⟨G, 1, none⟩ _ (by kernel_rfl) (cell_of_row _ G 1 _ _ _ hU)) m0 ?_
      refine rgd_pure 10 (some 38) rfl rfl (.pointer (some ⟨G, 1, none⟩)) (by kernel_rfl) (by kernel_rfl) (by kernel_rfl) (fun _ _ _ _ h => h) (by kernel_rfl) (fun w => by kernel_rfl) m0 ?_
      refine rgd_pure 11 (some 39) rfl rfl (.pointer (some ⟨G, 2, none⟩)) (by kernel_rfl) (by kernel_rfl) (by kernel_rfl) (fun _ _ _ _ h => h) (by kernel_rfl) (fun w => by kernel_rfl) m0 ?_
      refine rgd_pureS 12 (some 40) rfl rfl (.int .i64 tn) (by kernel_rfl) (by kernel_rfl) (by kernel_rfl) (fun _ _ _ _ h => h) (by kernel_rfl) (fun U hU => exec_load1 _ _ rfl Tryd.underlying3 rfl ⟨G, 2, none⟩ _ (by kernel_rfl) (cell_of_row _ G 2 _ _ _ hU)) m0 ?_
      refine rgd_call 7 (some 35) (by kernel_rfl) rfl rfl (by kernel_rfl) 23 (#[.int .i64 tr]) (by kernel_rfl) (D1.out _) ?_
      rintro _ V1 ⟨rfl, b1⟩
      have m1 : V1.heap[G]? = some (.cells #[.int .i64 tk, .int .i64 tr, .int .i64 tn] 39) := (b1.block G (Array.getElem?_eq_some_iff.1 m0).1).trans m0
      refine ⟨_, rfl, m1, ?_⟩
      refine rgd_pure 8 (some 36) rfl rfl (.string (S0 ++ W ++ (⟨#[32]⟩ : ByteArray) ++ S1)) (by kernel_rfl) (by kernel_rfl) (by kernel_rfl) (fun _ _ _ _ h => h) (by kernel_rfl) (fun w => exec_addS _ _ _ _ rfl (S0 ++ W ++ (⟨#[32]⟩ : ByteArray)) (S1) (by kernel_rfl) (by kernel_rfl) (by have e1 : (⟨#[32]⟩ : ByteArray).size = 1 := rfl; have e2 : (⟨#[46]⟩ : ByteArray).size = 1 := rfl; have e3 : (⟨#[10]⟩ : ByteArray).size = 1 := rfl; (try simp only [ByteArray.size_append]); omega) w) m1 ?_
      refine rgd_pure 9 (some 37) rfl rfl (.string (S0 ++ W ++ (⟨#[32]⟩ : ByteArray) ++ S1 ++ (⟨#[46]⟩ : ByteArray))) (by kernel_rfl) (by kernel_rfl) (by kernel_rfl) (fun _ _ _ _ h => h) (by kernel_rfl) (fun w => exec_addS _ _ _ _ rfl (S0 ++ W ++ (⟨#[32]⟩ : ByteArray) ++ S1) ((⟨#[46]⟩ : ByteArray)) (by kernel_rfl) (by kernel_rfl) (by have e1 : (⟨#[32]⟩ : ByteArray).size = 1 := rfl; have e2 : (⟨#[46]⟩ : ByteArray).size = 1 := rfl; have e3 : (⟨#[10]⟩ : ByteArray).size = 1 := rfl; (try simp only [ByteArray.size_append]); omega) w) m1 ?_
      refine rgd_call 13 (some 41) (by kernel_rfl) rfl rfl (by kernel_rfl) 23 (#[.int .i64 tn]) (by kernel_rfl) (D2.out _) ?_
      rintro _ V2 ⟨rfl, b2⟩
      have m2 : V2.heap[G]? = some (.cells #[.int .i64 tk, .int .i64 tr, .int .i64 tn] 39) := (b2.block G (Array.getElem?_eq_some_iff.1 m1).1).trans m1
      refine ⟨_, rfl, m2, ?_⟩
      refine rgd_pure 14 (some 42) rfl rfl (.string (S0 ++ W ++ (⟨#[32]⟩ : ByteArray) ++ S1 ++ (⟨#[46]⟩ : ByteArray) ++ S2)) (by kernel_rfl) (by kernel_rfl) (by kernel_rfl) (fun _ _ _ _ h => h) (by kernel_rfl) (fun w => exec_addS _ _ _ _ rfl (S0 ++ W ++ (⟨#[32]⟩ : ByteArray) ++ S1 ++ (⟨#[46]⟩ : ByteArray)) (S2) (by kernel_rfl) (by kernel_rfl) (by have e1 : (⟨#[32]⟩ : ByteArray).size = 1 := rfl; have e2 : (⟨#[46]⟩ : ByteArray).size = 1 := rfl; have e3 : (⟨#[10]⟩ : ByteArray).size = 1 := rfl; (try simp only [ByteArray.size_append]); omega) w) m2 ?_
      refine rgd_pure 15 (some 43) rfl rfl (.string (S0 ++ W ++ (⟨#[32]⟩ : ByteArray) ++ S1 ++ (⟨#[46]⟩ : ByteArray) ++ S2 ++ (⟨#[10]⟩ : ByteArray))) (by kernel_rfl) (by kernel_rfl) (by kernel_rfl) (fun _ _ _ _ h => h) (by kernel_rfl) (fun w => exec_addS _ _ _ _ rfl (S0 ++ W ++ (⟨#[32]⟩ : ByteArray) ++ S1 ++ (⟨#[46]⟩ : ByteArray) ++ S2) ((⟨#[10]⟩ : ByteArray)) (by kernel_rfl) (by kernel_rfl) (by have e1 : (⟨#[32]⟩ : ByteArray).size = 1 := rfl; have e2 : (⟨#[46]⟩ : ByteArray).size = 1 := rfl; have e3 : (⟨#[10]⟩ : ByteArray).size = 1 := rfl; (try simp only [ByteArray.size_append]); omega) w) m2 ?_
      refine rgd_pure 16 (some 4) rfl rfl (.string (S0 ++ W ++ (⟨#[32]⟩ : ByteArray) ++ S1 ++ (⟨#[46]⟩ : ByteArray) ++ S2 ++ (⟨#[10]⟩ : ByteArray))) (by kernel_rfl) (by kernel_rfl) (by kernel_rfl) (fun _ _ _ _ h => h) (by kernel_rfl) (fun w => by kernel_rfl) m2 ?_
      have BF := Lib.hid ((to_drew B6.out).trans ((b1.mono B6.out.size).trans (b2.mono (Nat.le_trans B6.out.size b1.size))))
      clear m0 m1 m2 b1 b2 D1 D2 B6 N6
      refine wpAnyH_done (by kernel_rfl) ?_ _
      have key : ∀ X Y : Act, X = Y → ∀ K : Act → World → Prop, K Y V2 → K X V2 := fun X Y e K h => e ▸ h
      refine key _ { tmps := #[.slice (some ⟨b, o, none⟩) T.length c, undef, .string ⟨#[]⟩, .slice (some ⟨GW, 0, none⟩) 9 9, .string (S0 ++ W ++ (⟨#[32]⟩ : ByteArray) ++ S1 ++ (⟨#[46]⟩ : ByteArray) ++ S2 ++ (⟨#[10]⟩ : ByteArray)), undef, .pointer (some ⟨G, 0, none⟩), .string W, .slice (some ⟨GW, 0, none⟩) 9 9, .slice (some ⟨b, o, none⟩) T.length c, .int .i64 T.length, .int .i64 k, u12, u13, u14, u15, u16, u17, u18, u19, u20, u21, u22, u23, u24, u25, u26, u27, .string S0, .string W, .string (S0 ++ W), .string (S0 ++ W ++ (⟨#[32]⟩ : ByteArray)), .pointer (some ⟨G, 1, none⟩), .pointer (some ⟨G, 1, none⟩), .int .i64 tr, .string S1, .string (S0 ++ W ++ (⟨#[32]⟩ : ByteArray) ++ S1), .string (S0 ++ W ++ (⟨#[32]⟩ : ByteArray) ++ S1 ++ (⟨#[46]⟩ : ByteArray)), .pointer (some ⟨G, 1, none⟩), .pointer (some ⟨G, 2, none⟩), .int .i64 tn, .string S2, .string (S0 ++ W ++ (⟨#[32]⟩ : ByteArray) ++ S1 ++ (⟨#[46]⟩ : ByteArray) ++ S2), .string (S0 ++ W ++ (⟨#[32]⟩ : ByteArray) ++ S1 ++ (⟨#[46]⟩ : ByteArray) ++ S2 ++ (⟨#[10]⟩ : ByteArray)), u44, undef], defers := [] } (by kernel_rfl) _ ?_
      simp only [Exit.then, Exit.inBlock]
      go_wp2
      go_roundw
      case rel => exact ⟨k + 1, by omega, by go_num, by rw [TK.out, LN.out]; simp only [ByteArray.append_assoc], BF.out⟩
      case measure => simp [intOf]; omega
    · obtain rfl : k = T.length := by omega
      have hkl' : ¬ ((T.length : Nat) : Int) < T.length := by omega
      rw [List.take_length]
      go_wp2
      go_ret
      exact ⟨rfl, thenBelow B0.out BR.out⟩
end Go.Proofs.YtkpldjiloinaoaaDoor
/- The walk of AuditLooks. -/
namespace Go.Proofs.YtkpldjiloinaoaaDoor
open Go Go.RowKit
set_option linter.unusedVariables false
set_option maxRecDepth 1000000

set_option maxHeartbeats 4000000 in
theorem auditLooks_walk (F : Nat → Int) (q : Option Addr) (d : Nat) (L : List Wr) (p : Option Addr) (c : Nat) (E : List EvP) (fl : Nat → Int) (tp : Option Addr) (tc : Nat) (T : List Tr) (W : World) (hw : WrsAt W q L) (hE : EvsAt W p E) (hcap : E.length ≤ c) (hTr : TrAt W tp T) (hOk : ∀ t ∈ T, OkT t) (hT : Shapes W) (hWd : Words W) (hWa : WordsA W) (hPw : Pow W) :
    Calls Tryd.prog 3 #[.agg (scs F (.slice q L.length d)), .agg (pcs (.slice p E.length c) fl), .slice tp T.length tc] W (Yes W) := by
  have HW := Lib.hid hw; have HE := Lib.hid hE; have HT := Lib.hid hT; have HD := Lib.hid hWd; have HR := Lib.hid hTr; have HO := Lib.hid hOk; have HWA := Lib.hid hWa; have HP := Lib.hid hPw
  clear hw hE hT hWd hTr hOk hWa hPw
  have AWK : Hid (∀ V : World, Below W.heap.size W V → Calls Tryd.prog 6 #[] V (YesA V)) := Lib.hid fun V hV => awake36 V (HT.out.below hV) (HD.out.later hV)
  clear HD
  go_enter Tryd.func3, Tryd.ntmps3
  go_wp2_with (refine wpList_gbox rfl _ rfl (scs F (.slice q L.length d)) rfl ?_)
  intro g3 w1 l2 h2 hb1
  have S1 : Hid (Sx w1 g3 F (.slice q L.length d)) := Lib.hid h2
  have B1 := Lib.hid hb1
  clear h2 hb1
  go_wp2_with (refine wpList_gbox rfl _ rfl (pcs (.slice p E.length c) fl) rfl ?_)
  intro g4 w2 l3 h3 hb2
  have P2 : Hid (Px w2 g4 (.slice p E.length c) fl) := Lib.hid h3
  have S2 := Lib.hid (S1.out.later hb2); have B2 := Lib.hid (thenBelow B1.out hb2)
  have SW := Lib.hid (S2.out.whole)
  clear h3 hb2 S1 B1
  go_wp2_with (refine wpList_gload (t := 26) rfl _ rfl g3 0 rfl _ SW.out _ Tryd.underlying26 rfl (sizeStl _ _) ?_)
  refine (smallS_is F q d L w2 (HW.out.below B2.out)).mono ?_
  rintro e w3 ⟨b9, rfl, hb9, hb3⟩
  have S3 := Lib.hid (S2.out.later hb3); have P3 := Lib.hid (P2.out.later hb3); have B3 := Lib.hid (thenBelow B2.out hb3)
  clear hb3 S2 P2 B2 SW
  cases b9 with
  | false =>
    clear hb9
    have AW := Lib.hid (AWK.out w3 B3.out)
    go_wp2_with fail
    refine AW.out.mono ?_
    rintro e w99 ⟨rfl, hb99⟩
    have B99 := Lib.hid (thenBelow B3.out hb99)
    clear hb99 AW
    go_wp2
    go_ret
    exact ⟨rfl, B99.out⟩
  | true =>
  have SM : L.length ≤ 120 := hb9 rfl
  clear hb9
  have k0 := P3.out.slot
  have b3 := below_alloc w3 (.cells #[.slice p E.length c] 27)
  have n3 := heap_alloc_new w3 (.cells #[.slice p E.length c] 27)
  have E3 := Lib.hid (HE.out.below (thenBelow B3.out b3))
  have M3 := Lib.hid (And.intro (S3.out.later b3) (And.intro (P3.out.later b3) (thenBelow B3.out b3)))
  have FW : Hid (Calls Tryd.prog 5 #[.slice (some ⟨w3.heap.size, 0, none⟩) 1 1] (w3.alloc (.cells #[.slice p E.length c] 27)) (FewR (w3.alloc (.cells #[.slice p E.length c] 27)) [⟨p, c, E⟩])) :=
    Lib.hid (fewE_is w3.heap.size 1 [⟨p, c, E⟩] _ (fun i hi => by
      obtain rfl : i = 0 := by simpa using hi
      exact ⟨(cell_of_row _ _ 0 _ _ _ n3).trans rfl, E3.out⟩) (by simp))
  clear b3 n3 S3 P3 B3
  go_wp2_with fail
  generalize w3.alloc (.cells #[.slice p E.length c] 27) = w4 at M3 E3 FW ⊢
  refine FW.out.mono ?_
  rintro e w5 ⟨fw, rfl, hfw, hb5⟩
  have S5 := Lib.hid (M3.out.1.later hb5); have P5 := Lib.hid (M3.out.2.1.later hb5); have B5 := Lib.hid (thenBelow M3.out.2.2 hb5)
  clear FW hb5 M3 E3 k0
  cases fw with
  | false =>
    clear hfw
    have AW := Lib.hid (AWK.out w5 B5.out)
    go_wp2_with fail
    refine AW.out.mono ?_
    rintro e w99 ⟨rfl, hb99⟩
    have B99 := Lib.hid (thenBelow B5.out hb99)
    clear hb99 AW
    go_wp2
    go_ret
    exact ⟨rfl, B99.out⟩
  | true =>
  have h80 : E.length ≤ 80 := (hfw rfl 0 (by simp)).1
  have HG : Hid (∀ x ∈ E, x.e.gone.length ≤ 1000) := Lib.hid fun x hx => by have := (hfw rfl 0 (by simp)).2 x hx; omega
  clear hfw
  by_cases h60 : T.length > 60
  · have h61 : (T.length : Int) > 60 := by omega
    have AW := Lib.hid (AWK.out w5 B5.out)
    clear HG
    go_wp2_with fail
    refine AW.out.mono ?_
    rintro e w99 ⟨rfl, hb99⟩
    have B99 := Lib.hid (thenBelow B5.out hb99)
    clear hb99 AW
    go_wp2
    go_ret
    exact ⟨rfl, B99.out⟩
  have h61 : ¬ (T.length : Int) > 60 := by omega
  obtain ⟨Z, hZ⟩ : ∃ Z, lookT F L fl E = Z := ⟨_, rfl⟩
  have zl : Z.length ≤ 1000 := by
    rw [← hZ, lookT, List.length_append]
    have h1 := headT_len F L fl; have h2 := evsT_len F (dotsW L) E []
    omega
  have LK : Hid (∀ V : World, Below W.heap.size W V → Calls Tryd.prog 7 #[.agg (scs F (.slice q L.length d)), .agg (pcs (.slice p E.length c) fl)] V (TrR V Z)) := Lib.hid fun V hV => by rw [← hZ]; exact lookG_is F q d L p c E fl V (HW.out.below hV) (HE.out.below hV) (HT.out.below hV) (by omega) (by omega) HG.out
  have RL : Hid (∀ V : World, Below W.heap.size W V → Calls Tryd.prog 8 #[.agg (scs F (.slice q L.length d)), .agg (pcs (.slice p E.length c) fl)] V (TrR V Z)) := Lib.hid fun V hV => by rw [← hZ]; exact refLookG_is F q d L p c E fl V (HW.out.below hV) (HE.out.below hV) hcap (by omega) (by omega) HG.out
  have FI : Hid (∀ V : World, Below W.heap.size W V → Calls Tryd.prog 10 #[.agg (scs F (.slice q L.length d)), .agg (pcs (.slice p E.length c) fl)] V (RetBool V (decide (Z.length = 0)))) := Lib.hid fun V hV => by rw [← hZ]; exact fine_is F q d L p c E fl V (HW.out.below hV) (HE.out.below hV) (HT.out.below hV) (by omega) (by omega) HG.out
  have TX : Hid (∀ V : World, Below W.heap.size W V → Calls Tryd.prog 11 #[.slice tp T.length tc] V (TextR V T)) := Lib.hid fun V hV => textG_is tp tc T V (HR.out.below hV) (by omega) HO.out (HWA.out.later hV) (HP.out.later hV)
  have RT : Hid (∀ V : World, Below W.heap.size W V → Calls Tryd.prog 12 #[.slice tp T.length tc] V (TextR V T)) := Lib.hid fun V hV => refTextG_is tp tc T V (HR.out.below hV) (by omega) HO.out
  have EQ : Hid (∀ (V : World) (p1 q1 : Option Addr) (c1 d1 : Nat), TrAt V p1 Z → TrAt V q1 Z → Calls Tryd.prog 9 #[.slice p1 Z.length c1, .slice q1 Z.length d1] V (RetBool V true)) := Lib.hid fun V p1 q1 c1 d1 h1 h2 => equalT_is p1 q1 c1 d1 Z V h1 h2 (by omega)
  clear hZ HW HE HT HG HR HO HWA HP
  go_wp2_with fail
  rename_i K3 hK3
  have m0 : Sx w5.drew g3 F (.slice q L.length d) ∧ Px w5.drew g4 (.slice p E.length c) fl ∧ Below W.heap.size W w5.drew := ⟨S5.out.later (w := w5) (to_drew (Below.refl _ _)), P5.out.later (w := w5) (to_drew (Below.refl _ _)), to_drew B5.out⟩
  refine rg_calm (by kernel_rfl) rfl (S := fun U => Sx U g3 F (.slice q L.length d) ∧ Px U g4 (.slice p E.length c) fl ∧ Below W.heap.size W U) ?_
  refine rgd_pureS 0 (some 25) rfl rfl (.agg (scs F (.slice q L.length d))) (by kernel_rfl) (by kernel_rfl) (by kernel_rfl) (fun _ _ _ _ h => h) (by kernel_rfl) (fun U hU => exec_gload 26 _ rfl g3 0 (by kernel_rfl) _ hU.1.whole Tryd.underlying26 rfl (sizeStl _ _)) m0 ?_
  refine rgd_pureS 1 (some 26) rfl rfl (.agg (pcs (.slice p E.length c) fl)) (by kernel_rfl) (by kernel_rfl) (by kernel_rfl) (fun _ _ _ _ h => h) (by kernel_rfl) (fun U hU => exec_gload 29 _ rfl g4 0 (by kernel_rfl) _ hU.2.1.whole Tryd.underlying29 rfl (sizePl _ _)) m0 ?_
  refine rgd_pureS 3 (some 28) rfl rfl (.agg (scs F (.slice q L.length d))) (by kernel_rfl) (by kernel_rfl) (by kernel_rfl) (fun _ _ _ _ h => h) (by kernel_rfl) (fun U hU => exec_gload 26 _ rfl g3 0 (by kernel_rfl) _ hU.1.whole Tryd.underlying26 rfl (sizeStl _ _)) m0 ?_
  refine rgd_pureS 4 (some 29) rfl rfl (.agg (pcs (.slice p E.length c) fl)) (by kernel_rfl) (by kernel_rfl) (by kernel_rfl) (fun _ _ _ _ h => h) (by kernel_rfl) (fun U hU => exec_gload 29 _ rfl g4 0 (by kernel_rfl) _ hU.2.1.whole Tryd.underlying29 rfl (sizePl _ _)) m0 ?_
  refine rgd_call 2 (some 27) (by kernel_rfl) rfl rfl (by kernel_rfl) 7 (#[.agg (scs F (.slice q L.length d)), .agg (pcs (.slice p E.length c) fl)]) (by kernel_rfl) (LK.out _ m0.2.2) ?_
  rintro _ V1 ⟨v1, rfl, od, hb1⟩
  have m1 : Sx V1 g3 F (.slice q L.length d) ∧ Px V1 g4 (.slice p E.length c) fl ∧ Below W.heap.size W V1 := ⟨m0.1.later hb1, m0.2.1.later hb1, thenBelow m0.2.2 hb1⟩
  refine ⟨_, rfl, m1, ?_⟩
  refine rgd_call 5 (some 30) (by kernel_rfl) rfl rfl (by kernel_rfl) 8 (#[.agg (scs F (.slice q L.length d)), .agg (pcs (.slice p E.length c) fl)]) (by kernel_rfl) (RL.out _ m1.2.2) ?_
  rintro _ V2 ⟨v2, rfl, O2, hb2⟩
  have m2 : Sx V2 g3 F (.slice q L.length d) ∧ Px V2 g4 (.slice p E.length c) fl ∧ Below W.heap.size W V2 := ⟨m1.1.later hb2, m1.2.1.later hb2, thenBelow m1.2.2 hb2⟩
  have O1 := own_later od hb2
  refine ⟨_, rfl, m2, ?_⟩
  refine rgd_pure 6 (some 7) rfl rfl (v1) (by kernel_rfl) (by kernel_rfl) (by kernel_rfl) (fun _ _ _ _ h => h) (by kernel_rfl) (fun w => by kernel_rfl) m2 ?_
  refine rgd_pure 7 (some 8) rfl rfl (v2) (by kernel_rfl) (by kernel_rfl) (by kernel_rfl) (fun _ _ _ _ h => h) (by kernel_rfl) (fun w => by kernel_rfl) m2 ?_
  refine wpAnyH_done (by kernel_rfl) ?_ _
  have key : ∀ X Y : Act, X = Y → ∀ K : Act → World → Prop, K Y V2 → K X V2 := fun X Y e K h => e ▸ h
  refine key _ { tmps := #[.agg (scs F (.slice q L.length d)), .agg (pcs (.slice p E.length c) fl), .slice tp T.length tc, .pointer (some ⟨g3, 0, none⟩), .pointer (some ⟨g4, 0, none⟩), undef, .bool false, v1, v2, .agg (scs F (.slice q L.length d)), .bool true, .bool false, .bool false, .pointer (some ⟨g4, 0, none⟩), .slice p E.length c, .slice (some ⟨w3.heap.size, 0, none⟩) 1 1, .bool true, .bool false, .bool false, .bool false, .slice tp T.length tc, .int .i64 T.length, .bool (decide (60 < (T.length : Int))), .bool (decide (60 < (T.length : Int))), undef, .agg (scs F (.slice q L.length d)), .agg (pcs (.slice p E.length c) fl), v1, .agg (scs F (.slice q L.length d)), .agg (pcs (.slice p E.length c) fl), v2, undef, undef, undef, undef, undef, undef, undef, undef, undef, undef, undef, undef, undef, undef, undef, undef, undef, undef, undef, undef, undef, undef], defers := [] } (by kernel_rfl) _ ?_
  simp only [Exit.then]
  refine hK3 _ _ ?_
  clear hK3 key
  obtain ⟨p1, c1, hv1, t1⟩ := own_tr O1
  obtain ⟨p2, c2, hv2, t2⟩ := own_tr O2
  subst hv1; subst hv2
  have EV := Lib.hid (EQ.out V2 p1 p2 c1 c2 t1 t2)
  have S9 := Lib.hid m2.1; have P9 := Lib.hid m2.2.1; have B9 := Lib.hid m2.2.2
  clear O1 O2 t1 t2 m0 m1 m2 LK RL EQ od hb1 hb2
  obtain ⟨NZ, hNZ⟩ : ∃ n, Z.length = n := ⟨_, rfl⟩
  rw [hNZ] at EV FI zl ⊢
  clear hNZ
  have SW := Lib.hid S9.out.whole; have PW := Lib.hid P9.out.whole
  go_wp2_with fail
  refine EV.out.mono ?_
  rintro e w10 ⟨rfl, hb10⟩
  have B10 := Lib.hid (thenBelow B9.out hb10)
  have SW := Lib.hid (S9.out.later hb10).whole; have PW := Lib.hid (P9.out.later hb10).whole
  clear hb10 EV S9 P9 B9
  dsimp only
  go_wp2_with (first | refine wpList_gloadG (t := 26) (by rfl) _ rfl g3 0 rfl _ SW.out _ Tryd.underlying26 rfl (sizeStl _ _) ?_ | refine wpList_gloadG (t := 29) (by rfl) _ rfl g4 0 rfl _ PW.out _ Tryd.underlying29 rfl (sizePl _ _) ?_)
  refine (FI.out w10 B10.out).mono ?_
  rintro e w11 ⟨rfl, hb11⟩
  have B11 := Lib.hid (thenBelow B10.out hb11)
  clear hb11 FI SW PW B10
  have TX := Lib.hid (TX.out w11 B11.out)
  obtain ⟨tx, htx⟩ : ∃ s : ByteArray, (⟨(textT T).toArray⟩ : ByteArray) = s := ⟨_, rfl⟩
  have TXE : Hid ((⟨(textT T).toArray⟩ : ByteArray) = tx) := Lib.hid htx
  clear htx
  dsimp only
  by_cases hN0 : NZ = 0
  · subst hN0
    rw [show decide ((0 : Nat) = 0) = true from rfl]
    go_wp2_with fail
    refine TX.out.mono ?_
    rintro e w12 ⟨rfl, hb12⟩
    have B12 := Lib.hid (thenBelow B11.out hb12)
    have RT := Lib.hid (RT.out w12 B12.out)
    rw [TXE.out]
    clear hb12 B11
    dsimp only
    go_wp2_with fail
    refine RT.out.mono ?_
    rintro e w13 ⟨rfl, hb13⟩
    have B13 := Lib.hid (thenBelow B12.out hb13)
    have AW := Lib.hid (AWK.out w13 B13.out)
    rw [TXE.out]
    clear hb13 B12 RT
    dsimp only
    go_wp2_with fail
    refine AW.out.mono ?_
    rintro e w99 ⟨rfl, hb99⟩
    have B99 := Lib.hid (thenBelow B13.out hb99)
    clear hb99 AW
    dsimp only
    go_wp2
    go_ret
    exact ⟨rfl, B99.out⟩
  · have hN1 : ¬ (NZ : Int) = 0 := by omega
    have hN2 : ((NZ : Int) == 0) = false := by simpa using hN0
    rw [show decide (NZ = 0) = false from decide_eq_false hN0]
    go_wp2_with fail
    refine TX.out.mono ?_
    rintro e w12 ⟨rfl, hb12⟩
    have B12 := Lib.hid (thenBelow B11.out hb12)
    have RT := Lib.hid (RT.out w12 B12.out)
    rw [TXE.out]
    clear hb12 B11
    dsimp only
    go_wp2_with fail
    refine RT.out.mono ?_
    rintro e w13 ⟨rfl, hb13⟩
    have B13 := Lib.hid (thenBelow B12.out hb13)
    have AW := Lib.hid (AWK.out w13 B13.out)
    rw [TXE.out]
    clear hb13 B12 RT
    dsimp only
    go_wp2_with fail
    refine AW.out.mono ?_
    rintro e w99 ⟨rfl, hb99⟩
    have B99 := Lib.hid (thenBelow B13.out hb99)
    clear hb99 AW
    dsimp only
    go_wp2
    go_ret
    exact ⟨rfl, B99.out⟩

end Go.Proofs.YtkpldjiloinaoaaDoor
