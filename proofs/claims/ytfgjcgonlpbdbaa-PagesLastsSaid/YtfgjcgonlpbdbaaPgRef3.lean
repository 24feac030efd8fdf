/- The document's device: Crash. -/
import Derived.Test.YtfgjcgonlpbdbaaPgRef2
import Derived.Test.YtfgjcgonlpbdbaaMemInts
import Derived.Deep.LoopGhost
import Derived.Deep.DeepCutAuto
import Derived.Laws.Concat
namespace Go.Proofs.Ytfgjcgonlpbdbaa
open Go Go.RowKit
set_option linter.unusedVariables false

/-- whether a list has it -/
def stayL (ks : List Int) (i : Int) : Bool := ks.any (fun x => x == i)
theorem stayL_nil (i : Int) : stayL [] i = false := rfl
theorem stayL_snoc (ks : List Int) (x i : Int) : stayL (ks ++ [x]) i = (stayL ks i || x == i) := by unfold stayL; simp
/-- the first bytes of one text, the others of another one -/
def cutS (x y : ByteArray) (K : Nat) : ByteArray := x.extract 0 K ++ y.extract K y.size
def crC (now had : Nat → ByteArray) (is : Nat → Bool) (ks : List Int) (torn : Int) (K : Nat) (i : Nat) : ByteArray :=
  if is i = true ∧ (i : Int) = torn then cutS (now i) (had i) K else if is i = true ∧ stayL ks i = true then now i else had i
theorem crC_size (now had : Nat → ByteArray) (is : Nat → Bool) (ks : List Int) (torn : Int) (K : Nat) (i : Nat) (hK : K ≤ 128) (h1 : (now i).size = 128) (h2 : (had i).size = 128) : (crC now had is ks torn K i).size = 128 := by
  unfold crC
  split
  · unfold cutS; rw [ByteArray.size_append, ByteArray.size_extract, ByteArray.size_extract]; omega
  · split
    · exact h1
    · exact h2
/-- the pages behind a crash so far -/
def crS (f C : Nat → ByteArray) (k : Nat) : Nat → ByteArray := fun i => if i < k then C i else f i
theorem crS_step (f C : Nat → ByteArray) (k : Nat) : updS (crS f C k) k (C k) = crS f C (k + 1) := by
  funext i
  unfold updS crS
  by_cases e : i = k
  · subst e; rw [if_pos rfl, if_pos (by omega)]
  · rw [if_neg e]
    by_cases h : i < k
    · rw [if_pos h, if_pos (by omega)]
    · rw [if_neg h, if_neg (by omega)]
theorem crS_zero (f C : Nat → ByteArray) : crS f C 0 = f := by funext i; unfold crS; rw [if_neg (by omega)]
theorem crS_at (f C : Nat → ByteArray) (k : Nat) : crS f C k k = f k := by unfold crS; rw [if_neg (by omega)]
theorem syncI_at (is : Nat → Bool) (k : Nat) : syncI is k k = is k := by unfold syncI; rw [if_neg (by omega)]
def clampK (cut : Int) : Nat := if cut < 0 then 0 else if cut ≤ 128 then cut.toNat else 128
theorem clampK_le (cut : Int) : clampK cut ≤ 128 := by unfold clampK; split <;> (try split) <;> omega
theorem exec_cutTo {P : Program} {o : Oper} {a : Act} (t : TypeId) (x y : Operand) (ho : o.op = .slice t x none (some y) none) (ht : P.underlying t = some .string) (s : ByteArray) (K : Nat) (hx : a.eval x = .string s) (hy : a.eval y = .int .i64 (K : Int)) (hK : (K : Int) ≤ (s.size : Int)) (w : World) :
    (execOp a.eval o).run P w = .ok (.value (.string (s.extract 0 K))) w := by
  unfold execOp
  simp only [ho, hx, hy, Option.map_some, Option.map_none]
  refine run_value_of ?_
  rw [run_sliceAt_string (h := ht), run_slice_string_h (ht := ht) (h0 := by omega) (h2 := by omega)]
  rfl
theorem exec_cutFrom {P : Program} {o : Oper} {a : Act} (t : TypeId) (x y : Operand) (ho : o.op = .slice t x (some y) none none) (ht : P.underlying t = some .string) (s : ByteArray) (K : Nat) (hx : a.eval x = .string s) (hy : a.eval y = .int .i64 (K : Int)) (hK : (K : Int) ≤ (s.size : Int)) (w : World) :
    (execOp a.eval o).run P w = .ok (.value (.string (s.extract K s.size))) w := by
  unfold execOp
  simp only [ho, hx, hy, Option.map_some, Option.map_none]
  refine run_value_of ?_
  rw [run_sliceAt_string (h := ht), run_slice_string_l (ht := ht) (h0 := by omega) (h1 := by omega)]
  rfl
theorem exec_addS {P : Program} {o : Oper} {a : Act} (t yt : TypeId) (x y : Operand) (ho : o.op = .binOp .add t x y yt) (u v : ByteArray) (hx : a.eval x = .string u) (hy : a.eval y = .string v) (hs : u.size + v.size ≤ 9223372036854775807) (w : World) :
    (execOp a.eval o).run P w = .ok (.value (.string (u ++ v))) w := by
  have h := run_string_add_sum (P := P) w u v hs
  unfold execOp
  simp only [ho, hx, hy]
  simp [eqGuard, binOp, h]
/-- what the document's Crash comes to -/
def RCrashed (T : Nat) (w : World) (A a b d ca cb cd m : Nat) (now had : Nat → ByteArray) (is : Nat → Bool) (ks : List Int) (torn : Int) (K : Nat) (e : Ending) (w' : World) : Prop :=
  e = .returned (.tuple #[]) ∧ RDk w' A a b d ca cb cd m (crS now (crC now had is ks torn K) m) (crS had (crC now had is ks torn K) m) (syncI is m) (-1) false ∧ Bes4 A a b d w w'
set_option maxHeartbeats 8000000 in
set_option maxRecDepth 100000 in
theorem refCrash_is (T A a b d ca cb cd m : Nat) (now had : Nat → ByteArray) (is : Nat → Bool) (left : Int) (off : Bool) (q : Option Addr) (kc : Nat) (ks : List Int) (torn cut : Int) (w : World) (h : RDk w A a b d ca cb cd m now had is left off) (hz : ∀ i, i < m → (now i).size = 128 ∧ (had i).size = 128)
    (hk : LiesI w q ks) (hkl : ks.length ≤ 9223372036854775807) (hq : ks ≠ [] → ∀ x o, q = some ⟨x, o, none⟩ → x ≠ A ∧ x ≠ a ∧ x ≠ b ∧ x ≠ d) (hT : T ≤ A ∧ T ≤ a ∧ T ≤ b ∧ T ≤ d) (hTw : T ≤ w.heap.size) :
    Calls Try.prog 25 #[.pointer (some ⟨A, 0, none⟩), .slice q ks.length kc, .int .i64 torn, .int .i64 cut] w (RCrashed T w A a b d ca cb cd m now had is ks torn (clampK cut)) := by
  obtain ⟨C, hC⟩ : ∃ C, C = crC now had is ks torn (clampK cut) := ⟨_, rfl⟩
  have HCut : Hid (RCrashed T w A a b d ca cb cd m now had is ks torn (clampK cut) = fun e w' => e = .returned (.tuple #[]) ∧ RDk w' A a b d ca cb cd m (crS now C m) (crS had C m) (syncI is m) (-1) false ∧ Bes4 A a b d w w') := by
    show _ = _
    rw [hC]; rfl
  rw [HCut.out]
  have HC := Lib.hid (fun i => congrFun hC i)
  have HKL := clampK_le cut
  have HKE := Lib.hid (show clampK cut = if cut < 0 then 0 else if cut ≤ 128 then cut.toNat else 128 from rfl)
  generalize clampK cut = K at HC HKL HKE
  have H := Lib.hid h; have HZ := Lib.hid hz; have HKS := Lib.hid hk; have HQ := Lib.hid hq; have HT := Lib.hid hT
  have hmS := h.small
  clear h hz hk hq hT hC HCut
  go_enter Try.func25, Try.ntmps25
  go_upto_region 0 with fail
  go_cut [3] (fun v wx => v = .int .i64 (K : Int) ∧ wx = w)
  case first =>
    by_cases h1 : cut < 0
    · have e : K = 0 := by rw [HKE.out, if_pos h1]
      clear HKE
      go_wp2
      go_meet
      exact ⟨by rw [e]; rfl, rfl⟩
    · by_cases h2 : cut ≤ 128
      · have e : (K : Int) = cut := by rw [HKE.out, if_neg h1, if_pos h2]; omega
        have e2 := Lib.hid e
        clear e HKE
        go_wp2
        go_meet
        exact ⟨by rw [e2.out], rfl⟩
      · have e : K = 128 := by rw [HKE.out, if_neg h1, if_neg h2]
        have e2 := Lib.hid e
        have h3 : 128 < cut := by omega
        clear e HKE
        go_wp2
        go_meet
        exact ⟨by rw [e2.out]; rfl, rfl⟩
  case rest =>
    obtain ⟨rfl, rfl⟩ := hcut
    obtain ⟨c0, c1, c2, c3, c4⟩ := rd_cells H.out.obj
    go_wp2
    go_loopg [21] m (fun g i wr => ∃ k : Nat, k ≤ m ∧ g = m - k ∧ i = .int .i64 k ∧ RDk wr A a b d ca cb cd m (crS now C k) (crS had C k) (syncI is k) left off ∧ Bes4 A a b d wc wr)
    case atStart => exact ⟨0, by omega, by omega, rfl, by rw [crS_zero, crS_zero, syncI_zero]; exact H.out, Bes4.refl A a b d _⟩
    case round =>
      obtain ⟨k, hk, hg, rfl, hdk, hbw⟩ := hrel
      have DK := Lib.hid hdk; have BW := Lib.hid hbw
      have LK : Hid (LiesI wr q ks) := by
        show LiesI wr q ks
        intro h0
        obtain ⟨x, o, e1, e2, hc⟩ := HKS.out.at (List.length_pos_iff.2 h0)
        obtain ⟨n1, n2, n3, n4⟩ := HQ.out h0 x o e1
        exact ⟨x, o, e1, fun j hj => by rw [World.cell?_of_block (hbw.block x e2 n1 n2 n3 n4)]; exact hc j hj⟩
      clear hdk hbw c0 c1 c2 c3 c4
      obtain ⟨c0, c1, c2, c3, c4⟩ := rd_cells DK.out.obj
      by_cases hlt : k < m
      · have hkI : (k : Int) < m := by omega
        go_wp2_with fail
        go_loopg [9, 26] ks.length (fun g2 st j wx => ∃ x : Nat, x ≤ ks.length ∧ g2 = ks.length - x ∧ st = .bool (stayL (ks.take x) k) ∧ j = .int .i64 x ∧ wx = wr)
        case atStart => exact ⟨0, by omega, by omega, rfl, rfl, rfl⟩
        case round =>
          obtain ⟨x, hx, hg2, rfl, rfl, rfl⟩ := hrel
          by_cases hxl : x < ks.length
          · have hxI : (x : Int) < ks.length := by omega
            have hstep : stayL (ks.take (x + 1)) k = (stayL (ks.take x) k || ks.getD x 0 == (k : Int)) := by
              rw [List.take_succ_eq_append_getElem hxl, stayL_snoc, List.getD_eq_getElem?_getD, List.getElem?_eq_getElem hxl]; rfl
            have HSt := Lib.hid hstep
            clear hstep
            obtain ⟨p, o, rfl, _, hcl⟩ := LK.out.at (by omega)
            have hck := hcl x hxl
            generalize ks.getD x 0 = y at hck HSt
            clear hcl
            cases hst : stayL (ks.take x) k with
            | true =>
              rw [hst] at HSt
              have HS2 := Lib.hid HSt.out
              clear HSt hst
              go_wp2_with fail
              go_roundg (ks.length - (x + 1))
              case measure => omega
              case rel => exact ⟨x + 1, by omega, rfl, by rw [HS2.out, Bool.true_or], by go_num, rfl⟩
            | false =>
              rw [hst] at HSt
              have HS2 := Lib.hid HSt.out
              clear HSt hst
              by_cases hy : y = (k : Int)
              · subst hy
                go_wp2_with fail
                go_roundg (ks.length - (x + 1))
                case measure => omega
                case rel => exact ⟨x + 1, by omega, rfl, by rw [HS2.out]; simp, by go_num, rfl⟩
              · go_wp2_with fail
                go_roundg (ks.length - (x + 1))
                case measure => omega
                case rel => exact ⟨x + 1, by omega, rfl, by rw [HS2.out]; simp [hy], by go_num, rfl⟩
          · obtain rfl : x = ks.length := by omega
            have hxI : ¬ (ks.length : Int) < ks.length := by omega
            rw [List.take_length]
            have cn0 := (DK.out.cn k hlt).1; have ch0 := (DK.out.ch k hlt).1; have cs0 := (DK.out.cs k hlt).1
            rw [crS_at] at cn0 ch0
            rw [syncI_at] at cs0
            have HCk := HC.out k
            unfold crC at HCk
            obtain ⟨z1, z2⟩ := HZ.out k hlt
            cases hst : stayL ks k with
            | true =>
              cases his : is k with
              | true =>
                by_cases ht : (k : Int) = torn
                · rw [his, hst, if_pos ⟨rfl, ht⟩] at HCk; unfold cutS at HCk
                  rw [his] at cs0
                  subst ht
                  have hz1 : (K : Int) ≤ ((now k).size : Int) := by omega
                  have hz2 : (K : Int) ≤ ((had k).size : Int) := by omega
                  have hz3 : ((now k).extract 0 K).size + ((had k).extract K (had k).size).size ≤ 9223372036854775807 := by rw [ByteArray.size_extract, ByteArray.size_extract]; omega
                  have Z1 := Lib.hid z1; have Z2 := Lib.hid z2
                  clear z1 z2
                  have hCk := Lib.hid HCk
                  clear HCk his hst
                  go_wp2_with fail
                  have O0 : wr.drew.heap[A]? = some (rdObj a b d ca cb cd m left off) ∧ wr.drew.cell? ⟨a, 0 + k, none⟩ = some (.string (now k)) ∧ wr.drew.cell? ⟨b, 0 + k, none⟩ = some (.string (had k)) := ⟨DK.out.obj, by rw [Nat.zero_add]; exact cn0, by rw [Nat.zero_add]; exact ch0⟩
                  refine rg_start (n := 20) (S := fun w' => w'.heap[A]? = some (rdObj a b d ca cb cd m left off) ∧ w'.cell? ⟨a, 0 + k, none⟩ = some (.string (now k)) ∧ w'.cell? ⟨b, 0 + k, none⟩ = some (.string (had k))) (by kernel_rfl) rfl O0 ?_
                  refine rgd_pure 0 (some 73) rfl rfl (.pointer (some ⟨A, 0, none⟩)) (by kernel_rfl) (by kernel_rfl) (by kernel_rfl) (fun _ _ _ _ h => h) (by kernel_rfl) (fun _ => by kernel_rfl) O0 ?_
                  refine rgd_pure 1 (some 74) rfl rfl (.pointer (some ⟨A, 0, none⟩)) (by kernel_rfl) (by kernel_rfl) (by kernel_rfl) (fun _ _ _ _ h => h) (by kernel_rfl) (fun _ => by kernel_rfl) O0 ?_
                  refine rgd_pure 2 (some 75) rfl rfl (.pointer (some ⟨A, 0, none⟩)) (by kernel_rfl) (by kernel_rfl) (by kernel_rfl) (fun _ _ _ _ h => h) (by kernel_rfl) (fun _ => by kernel_rfl) O0 ?_
                  refine rgd_load 3 (some 76) rfl rfl (by kernel_rfl) (by kernel_rfl) (by kernel_rfl) (fun _ _ _ _ h => h) (by kernel_rfl) _ _ rfl Try.underlying62 rfl ⟨A, 0, none⟩ (.slice (some ⟨a, 0, none⟩) m ca) (by kernel_rfl) (fun w h => (rd_cells h.1).1) O0 ?_
                  refine rgd_pure 4 (some 77) rfl rfl (.int .i64 (k : Int)) (by kernel_rfl) (by kernel_rfl) (by kernel_rfl) (fun _ _ _ _ h => h) (by kernel_rfl) (fun _ => by kernel_rfl) O0 ?_
                  refine rgd_index 5 (some 78) rfl rfl (by kernel_rfl) (by kernel_rfl) (by kernel_rfl) (fun _ _ _ _ h => h) (by kernel_rfl) _ _ _ rfl Try.underlying62 sizeStrE a 0 m ca k (by kernel_rfl) (by kernel_rfl) hlt O0 ?_
                  refine rgd_load 6 (some 79) rfl rfl (by kernel_rfl) (by kernel_rfl) (by kernel_rfl) (fun _ _ _ _ h => h) (by kernel_rfl) _ _ rfl Try.underlying9 rfl ⟨a, 0 + k, none⟩ (.string (now k)) (by kernel_rfl) (fun w h => h.2.1) O0 ?_
                  refine rgd_pure 7 (some 80) rfl rfl (.int .i64 (K : Int)) (by kernel_rfl) (by kernel_rfl) (by kernel_rfl) (fun _ _ _ _ h => h) (by kernel_rfl) (fun _ => by kernel_rfl) O0 ?_
                  refine rgd_pure 8 (some 81) rfl rfl (.string ((now k).extract 0 K)) (by kernel_rfl) (by kernel_rfl) (by kernel_rfl) (fun _ _ _ _ h => h) (by kernel_rfl) (exec_cutTo _ _ _ rfl Try.underlying9 (now k) K (by kernel_rfl) (by kernel_rfl) hz1) O0 ?_
                  refine rgd_pure 9 (some 82) rfl rfl (.pointer (some ⟨A, 0, none⟩)) (by kernel_rfl) (by kernel_rfl) (by kernel_rfl) (fun _ _ _ _ h => h) (by kernel_rfl) (fun _ => by kernel_rfl) O0 ?_
                  refine rgd_pure 10 (some 83) rfl rfl (.pointer (some ⟨A, 0, none⟩)) (by kernel_rfl) (by kernel_rfl) (by kernel_rfl) (fun _ _ _ _ h => h) (by kernel_rfl) (fun _ => by kernel_rfl) O0 ?_
                  refine rgd_pure 11 (some 84) rfl rfl (.pointer (some ⟨A, 1, none⟩)) (by kernel_rfl) (by kernel_rfl) (by kernel_rfl) (fun _ _ _ _ h => h) (by kernel_rfl) (fun _ => by kernel_rfl) O0 ?_
                  refine rgd_load 12 (some 85) rfl rfl (by kernel_rfl) (by kernel_rfl) (by kernel_rfl) (fun _ _ _ _ h => h) (by kernel_rfl) _ _ rfl Try.underlying62 rfl ⟨A, 1, none⟩ (.slice (some ⟨b, 0, none⟩) m cb) (by kernel_rfl) (fun w h => (rd_cells h.1).2.1) O0 ?_
                  refine rgd_pure 13 (some 86) rfl rfl (.int .i64 (k : Int)) (by kernel_rfl) (by kernel_rfl) (by kernel_rfl) (fun _ _ _ _ h => h) (by kernel_rfl) (fun _ => by kernel_rfl) O0 ?_
                  refine rgd_index 14 (some 87) rfl rfl (by kernel_rfl) (by kernel_rfl) (by kernel_rfl) (fun _ _ _ _ h => h) (by kernel_rfl) _ _ _ rfl Try.underlying62 sizeStrE b 0 m cb k (by kernel_rfl) (by kernel_rfl) hlt O0 ?_
                  refine rgd_load 15 (some 88) rfl rfl (by kernel_rfl) (by kernel_rfl) (by kernel_rfl) (fun _ _ _ _ h => h) (by kernel_rfl) _ _ rfl Try.underlying9 rfl ⟨b, 0 + k, none⟩ (.string (had k)) (by kernel_rfl) (fun w h => h.2.2) O0 ?_
                  refine rgd_pure 16 (some 89) rfl rfl (.int .i64 (K : Int)) (by kernel_rfl) (by kernel_rfl) (by kernel_rfl) (fun _ _ _ _ h => h) (by kernel_rfl) (fun _ => by kernel_rfl) O0 ?_
                  refine rgd_pure 17 (some 90) rfl rfl (.string ((had k).extract K (had k).size)) (by kernel_rfl) (by kernel_rfl) (by kernel_rfl) (fun _ _ _ _ h => h) (by kernel_rfl) (exec_cutFrom _ _ _ rfl Try.underlying9 (had k) K (by kernel_rfl) (by kernel_rfl) hz2) O0 ?_
                  refine rgd_pure 18 (some 91) rfl rfl (.string ((now k).extract 0 K ++ (had k).extract K (had k).size)) (by kernel_rfl) (by kernel_rfl) (by kernel_rfl) (fun _ _ _ _ h => h) (by kernel_rfl) (exec_addS _ _ _ _ rfl _ _ (by kernel_rfl) (by kernel_rfl) hz3) O0 ?_
                  refine rgd_pure 19 (some 12) rfl rfl (.string ((now k).extract 0 K ++ (had k).extract K (had k).size)) (by kernel_rfl) (by kernel_rfl) (by kernel_rfl) (fun _ _ _ _ h => h) (by kernel_rfl) (fun _ => by kernel_rfl) O0 ?_
                  refine wpAnyH_done (by kernel_rfl) ?_ _
                  simp only [Act.put, List.setIfInBounds_toArray, List.set_cons_zero, List.set_cons_succ]
                  rw [← hCk.out]
                  have DW : Hid (RDk wr.drew A a b d ca cb cd m (crS now C k) (crS had C k) (syncI is k) left off) := DK.out.below (Below.refl wr.heap.size wr).drew
                  have BW1 : Hid (Bes4 A a b d wc wr.drew) := BW.out.drew
                  clear O0 c0 c1 c2 c3 c4 cn0 ch0 cs0 DK BW LK hCk Z1 Z2 hz1 hz2 hz3
                  generalize wr.drew = w0 at DW BW1 ⊢
                  obtain ⟨c0, c1, c2, c3, c4⟩ := rd_cells DW.out.obj
                  obtain ⟨n1, n2⟩ := DW.out.cn k hlt
                  go_upto_region 16 with fail
                  have D1 := Lib.hid (DW.out.setNow k hlt (C k)); have B1 := Lib.hid (BW1.out.setCell (by simp) (.string (C k)) (p := ⟨a, k, none⟩))
                  rw [crS_step] at D1
                  clear c0 c1 c2 c3 c4 n1 n2 DW BW1
                  generalize w0.setCell ⟨a, k, none⟩ (.string (C k)) = w1 at D1 B1 ⊢
                  obtain ⟨c0, c1, c2, c3, c4⟩ := rd_cells D1.out.obj
                  obtain ⟨n1, n2⟩ := D1.out.ch k hlt
                  go_upto_region 17 with fail
                  have D2 := Lib.hid (D1.out.setHad k hlt (C k)); have B2 := Lib.hid (B1.out.setCell (by simp) (.string (C k)) (p := ⟨b, k, none⟩))
                  rw [crS_step] at D2
                  clear c0 c1 c2 c3 c4 n1 n2 D1 B1
                  generalize w1.setCell ⟨b, k, none⟩ (.string (C k)) = w2 at D2 B2 ⊢
                  obtain ⟨c0, c1, c2, c3, c4⟩ := rd_cells D2.out.obj
                  obtain ⟨n1, n2⟩ := D2.out.cs k hlt
                  go_upto_region 18 with fail
                  have D3 := Lib.hid (D2.out.setIs k hlt false); have B3 := Lib.hid (B2.out.setCell (by simp) (.bool false) (p := ⟨d, k, none⟩))
                  rw [syncI_step] at D3
                  clear c0 c1 c2 c3 c4 n1 n2 D2 B2
                  generalize w2.setCell ⟨d, k, none⟩ (.bool false) = w3 at D3 B3 ⊢
                  go_wp2_with fail
                  go_roundg (m - (k + 1))
                  case measure => omega
                  case rel => exact ⟨k + 1, by omega, rfl, by go_num, D3.out, B3.out⟩
                · rw [his, hst, if_neg (by simp [ht]), if_pos ⟨rfl, rfl⟩] at HCk
                  rw [his] at cs0
                  have hCk := Lib.hid HCk
                  clear HCk his hst
                  go_upto_region 15 with fail
                  rw [← hCk.out]
                  have DW : Hid (RDk wr A a b d ca cb cd m (crS now C k) (crS had C k) (syncI is k) left off) := DK.out
                  have BW1 : Hid (Bes4 A a b d wc wr) := BW.out
                  clear c0 c1 c2 c3 c4 cn0 ch0 cs0 DK BW LK hCk z1 z2
                  generalize wr = w0 at DW BW1 ⊢
                  obtain ⟨c0, c1, c2, c3, c4⟩ := rd_cells DW.out.obj
                  obtain ⟨n1, n2⟩ := DW.out.cn k hlt
                  go_upto_region 16 with fail
                  have D1 := Lib.hid (DW.out.setNow k hlt (C k)); have B1 := Lib.hid (BW1.out.setCell (by simp) (.string (C k)) (p := ⟨a, k, none⟩))
                  rw [crS_step] at D1
                  clear c0 c1 c2 c3 c4 n1 n2 DW BW1
                  generalize w0.setCell ⟨a, k, none⟩ (.string (C k)) = w1 at D1 B1 ⊢
                  obtain ⟨c0, c1, c2, c3, c4⟩ := rd_cells D1.out.obj
                  obtain ⟨n1, n2⟩ := D1.out.ch k hlt
                  go_upto_region 17 with fail
                  have D2 := Lib.hid (D1.out.setHad k hlt (C k)); have B2 := Lib.hid (B1.out.setCell (by simp) (.string (C k)) (p := ⟨b, k, none⟩))
                  rw [crS_step] at D2
                  clear c0 c1 c2 c3 c4 n1 n2 D1 B1
                  generalize w1.setCell ⟨b, k, none⟩ (.string (C k)) = w2 at D2 B2 ⊢
                  obtain ⟨c0, c1, c2, c3, c4⟩ := rd_cells D2.out.obj
                  obtain ⟨n1, n2⟩ := D2.out.cs k hlt
                  go_upto_region 18 with fail
                  have D3 := Lib.hid (D2.out.setIs k hlt false); have B3 := Lib.hid (B2.out.setCell (by simp) (.bool false) (p := ⟨d, k, none⟩))
                  rw [syncI_step] at D3
                  clear c0 c1 c2 c3 c4 n1 n2 D2 B2
                  generalize w2.setCell ⟨d, k, none⟩ (.bool false) = w3 at D3 B3 ⊢
                  go_wp2_with fail
                  go_roundg (m - (k + 1))
                  case measure => omega
                  case rel => exact ⟨k + 1, by omega, rfl, by go_num, D3.out, B3.out⟩
              | false =>
                by_cases ht : (k : Int) = torn
                · rw [his, hst, if_neg (by simp), if_neg (by simp)] at HCk
                  rw [his] at cs0
                  subst ht
                  have hCk := Lib.hid HCk
                  clear HCk his hst
                  go_upto_region 15 with fail
                  rw [← hCk.out]
                  have DW : Hid (RDk wr A a b d ca cb cd m (crS now C k) (crS had C k) (syncI is k) left off) := DK.out
                  have BW1 : Hid (Bes4 A a b d wc wr) := BW.out
                  clear c0 c1 c2 c3 c4 cn0 ch0 cs0 DK BW LK hCk z1 z2
                  generalize wr = w0 at DW BW1 ⊢
                  obtain ⟨c0, c1, c2, c3, c4⟩ := rd_cells DW.out.obj
                  obtain ⟨n1, n2⟩ := DW.out.cn k hlt
                  go_upto_region 16 with fail
                  have D1 := Lib.hid (DW.out.setNow k hlt (C k)); have B1 := Lib.hid (BW1.out.setCell (by simp) (.string (C k)) (p := ⟨a, k, none⟩))
                  rw [crS_step] at D1
                  clear c0 c1 c2 c3 c4 n1 n2 DW BW1
                  generalize w0.setCell ⟨a, k, none⟩ (.string (C k)) = w1 at D1 B1 ⊢
                  obtain ⟨c0, c1, c2, c3, c4⟩ := rd_cells D1.out.obj
                  obtain ⟨n1, n2⟩ := D1.out.ch k hlt
                  go_upto_region 17 with fail
                  have D2 := Lib.hid (D1.out.setHad k hlt (C k)); have B2 := Lib.hid (B1.out.setCell (by simp) (.string (C k)) (p := ⟨b, k, none⟩))
                  rw [crS_step] at D2
                  clear c0 c1 c2 c3 c4 n1 n2 D1 B1
                  generalize w1.setCell ⟨b, k, none⟩ (.string (C k)) = w2 at D2 B2 ⊢
                  obtain ⟨c0, c1, c2, c3, c4⟩ := rd_cells D2.out.obj
                  obtain ⟨n1, n2⟩ := D2.out.cs k hlt
                  go_upto_region 18 with fail
                  have D3 := Lib.hid (D2.out.setIs k hlt false); have B3 := Lib.hid (B2.out.setCell (by simp) (.bool false) (p := ⟨d, k, none⟩))
                  rw [syncI_step] at D3
                  clear c0 c1 c2 c3 c4 n1 n2 D2 B2
                  generalize w2.setCell ⟨d, k, none⟩ (.bool false) = w3 at D3 B3 ⊢
                  go_wp2_with fail
                  go_roundg (m - (k + 1))
                  case measure => omega
                  case rel => exact ⟨k + 1, by omega, rfl, by go_num, D3.out, B3.out⟩
                · rw [his, hst, if_neg (by simp), if_neg (by simp)] at HCk
                  rw [his] at cs0
                  have hCk := Lib.hid HCk
                  clear HCk his hst
                  go_upto_region 15 with fail
                  rw [← hCk.out]
                  have DW : Hid (RDk wr A a b d ca cb cd m (crS now C k) (crS had C k) (syncI is k) left off) := DK.out
                  have BW1 : Hid (Bes4 A a b d wc wr) := BW.out
                  clear c0 c1 c2 c3 c4 cn0 ch0 cs0 DK BW LK hCk z1 z2
                  generalize wr = w0 at DW BW1 ⊢
                  obtain ⟨c0, c1, c2, c3, c4⟩ := rd_cells DW.out.obj
                  obtain ⟨n1, n2⟩ := DW.out.cn k hlt
                  go_upto_region 16 with fail
                  have D1 := Lib.hid (DW.out.setNow k hlt (C k)); have B1 := Lib.hid (BW1.out.setCell (by simp) (.string (C k)) (p := ⟨a, k, none⟩))
                  rw [crS_step] at D1
                  clear c0 c1 c2 c3 c4 n1 n2 DW BW1
                  generalize w0.setCell ⟨a, k, none⟩ (.string (C k)) = w1 at D1 B1 ⊢
                  obtain ⟨c0, c1, c2, c3, c4⟩ := rd_cells D1.out.obj
                  obtain ⟨n1, n2⟩ := D1.out.ch k hlt
                  go_upto_region 17 with fail
                  have D2 := Lib.hid (D1.out.setHad k hlt (C k)); have B2 := Lib.hid (B1.out.setCell (by simp) (.string (C k)) (p := ⟨b, k, none⟩))
                  rw [crS_step] at D2
                  clear c0 c1 c2 c3 c4 n1 n2 D1 B1
                  generalize w1.setCell ⟨b, k, none⟩ (.string (C k)) = w2 at D2 B2 ⊢
                  obtain ⟨c0, c1, c2, c3, c4⟩ := rd_cells D2.out.obj
                  obtain ⟨n1, n2⟩ := D2.out.cs k hlt
                  go_upto_region 18 with fail
                  have D3 := Lib.hid (D2.out.setIs k hlt false); have B3 := Lib.hid (B2.out.setCell (by simp) (.bool false) (p := ⟨d, k, none⟩))
                  rw [syncI_step] at D3
                  clear c0 c1 c2 c3 c4 n1 n2 D2 B2
                  generalize w2.setCell ⟨d, k, none⟩ (.bool false) = w3 at D3 B3 ⊢
                  go_wp2_with fail
                  go_roundg (m - (k + 1))
                  case measure => omega
                  case rel => exact ⟨k + 1, by omega, rfl, by go_num, D3.out, B3.out⟩
            | false =>
              cases his : is k with
              | true =>
                by_cases ht : (k : Int) = torn
                · rw [his, hst, if_pos ⟨rfl, ht⟩] at HCk; unfold cutS at HCk
                  rw [his] at cs0
                  subst ht
                  have hz1 : (K : Int) ≤ ((now k).size : Int) := by omega
                  have hz2 : (K : Int) ≤ ((had k).size : Int) := by omega
                  have hz3 : ((now k).extract 0 K).size + ((had k).extract K (had k).size).size ≤ 9223372036854775807 := by rw [ByteArray.size_extract, ByteArray.size_extract]; omega
                  have Z1 := Lib.hid z1; have Z2 := Lib.hid z2
                  clear z1 z2
                  have hCk := Lib.hid HCk
                  clear HCk his hst
                  go_wp2_with fail
                  have O0 : wr.drew.heap[A]? = some (rdObj a b d ca cb cd m left off) ∧ wr.drew.cell? ⟨a, 0 + k, none⟩ = some (.string (now k)) ∧ wr.drew.cell? ⟨b, 0 + k, none⟩ = some (.string (had k)) := ⟨DK.out.obj, by rw [Nat.zero_add]; exact cn0, by rw [Nat.zero_add]; exact ch0⟩
                  refine rg_start (n := 20) (S := fun w' => w'.heap[A]? = some (rdObj a b d ca cb cd m left off) ∧ w'.cell? ⟨a, 0 + k, none⟩ = some (.string (now k)) ∧ w'.cell? ⟨b, 0 + k, none⟩ = some (.string (had k))) (by kernel_rfl) rfl O0 ?_
                  refine rgd_pure 0 (some 73) rfl rfl (.pointer (some ⟨A, 0, none⟩)) (by kernel_rfl) (by kernel_rfl) (by kernel_rfl) (fun _ _ _ _ h => h) (by kernel_rfl) (fun _ => by kernel_rfl) O0 ?_
                  refine rgd_pure 1 (some 74) rfl rfl (.pointer (some ⟨A, 0, none⟩)) (by kernel_rfl) (by kernel_rfl) (by kernel_rfl) (fun _ _ _ _ h => h) (by kernel_rfl) (fun _ => by kernel_rfl) O0 ?_
                  refine rgd_pure 2 (some 75) rfl rfl (.pointer (some ⟨A, 0, none⟩)) (by kernel_rfl) (by kernel_rfl) (by kernel_rfl) (fun _ _ _ _ h => h) (by kernel_rfl) (fun _ => by kernel_rfl) O0 ?_
                  refine rgd_load 3 (some 76) rfl rfl (by kernel_rfl) (by kernel_rfl) (by kernel_rfl) (fun _ _ _ _ h => h) (by kernel_rfl) _ _ rfl Try.underlying62 rfl ⟨A, 0, none⟩ (.slice (some ⟨a, 0, none⟩) m ca) (by kernel_rfl) (fun w h => (rd_cells h.1).1) O0 ?_
                  refine rgd_pure 4 (some 77) rfl rfl (.int .i64 (k : Int)) (by kernel_rfl) (by kernel_rfl) (by kernel_rfl) (fun _ _ _ _ h => h) (by kernel_rfl) (fun _ => by kernel_rfl) O0 ?_
                  refine rgd_index 5 (some 78) rfl rfl (by kernel_rfl) (by kernel_rfl) (by kernel_rfl) (fun _ _ _ _ h => h) (by kernel_rfl) _ _ _ rfl Try.underlying62 sizeStrE a 0 m ca k (by kernel_rfl) (by kernel_rfl) hlt O0 ?_
                  refine rgd_load 6 (some 79) rfl rfl (by kernel_rfl) (by kernel_rfl) (by kernel_rfl) (fun _ _ _ _ h => h) (by kernel_rfl) _ _ rfl Try.underlying9 rfl ⟨a, 0 + k, none⟩ (.string (now k)) (by kernel_rfl) (fun w h => h.2.1) O0 ?_
                  refine rgd_pure 7 (some 80) rfl rfl (.int .i64 (K : Int)) (by kernel_rfl) (by kernel_rfl) (by kernel_rfl) (fun _ _ _ _ h => h) (by kernel_rfl) (fun _ => by kernel_rfl) O0 ?_
                  refine rgd_pure 8 (some 81) rfl rfl (.string ((now k).extract 0 K)) (by kernel_rfl) (by kernel_rfl) (by kernel_rfl) (fun _ _ _ _ h => h) (by kernel_rfl) (exec_cutTo _ _ _ rfl Try.underlying9 (now k) K (by kernel_rfl) (by kernel_rfl) hz1) O0 ?_
                  refine rgd_pure 9 (some 82) rfl rfl (.pointer (some ⟨A, 0, none⟩)) (by kernel_rfl) (by kernel_rfl) (by kernel_rfl) (fun _ _ _ _ h => h) (by kernel_rfl) (fun _ => by kernel_rfl) O0 ?_
                  refine rgd_pure 10 (some 83) rfl rfl (.pointer (some ⟨A, 0, none⟩)) (by kernel_rfl) (by kernel_rfl) (by kernel_rfl) (fun _ _ _ _ h => h) (by kernel_rfl) (fun _ => by kernel_rfl) O0 ?_
                  refine rgd_pure 11 (some 84) rfl rfl (.pointer (some ⟨A, 1, none⟩)) (by kernel_rfl) (by kernel_rfl) (by kernel_rfl) (fun _ _ _ _ h => h) (by kernel_rfl) (fun _ => by kernel_rfl) O0 ?_
                  refine rgd_load 12 (some 85) rfl rfl (by kernel_rfl) (by kernel_rfl) (by kernel_rfl) (fun _ _ _ _ h => h) (by kernel_rfl) _ _ rfl Try.underlying62 rfl ⟨A, 1, none⟩ (.slice (some ⟨b, 0, none⟩) m cb) (by kernel_rfl) (fun w h => (rd_cells h.1).2.1) O0 ?_
                  refine rgd_pure 13 (some 86) rfl rfl (.int .i64 (k : Int)) (by kernel_rfl) (by kernel_rfl) (by kernel_rfl) (fun _ _ _ _ h => h) (by kernel_rfl) (fun _ => by kernel_rfl) O0 ?_
                  refine rgd_index 14 (some 87) rfl rfl (by kernel_rfl) (by kernel_rfl) (by kernel_rfl) (fun _ _ _ _ h => h) (by kernel_rfl) _ _ _ rfl Try.underlying62 sizeStrE b 0 m cb k (by kernel_rfl) (by kernel_rfl) hlt O0 ?_
                  refine rgd_load 15 (some 88) rfl rfl (by kernel_rfl) (by kernel_rfl) (by kernel_rfl) (fun _ _ _ _ h => h) (by kernel_rfl) _ _ rfl Try.underlying9 rfl ⟨b, 0 + k, none⟩ (.string (had k)) (by kernel_rfl) (fun w h => h.2.2) O0 ?_
                  refine rgd_pure 16 (some 89) rfl rfl (.int .i64 (K : Int)) (by kernel_rfl) (by kernel_rfl) (by kernel_rfl) (fun _ _ _ _ h => h) (by kernel_rfl) (fun _ => by kernel_rfl) O0 ?_
                  refine rgd_pure 17 (some 90) rfl rfl (.string ((had k).extract K (had k).size)) (by kernel_rfl) (by kernel_rfl) (by kernel_rfl) (fun _ _ _ _ h => h) (by kernel_rfl) (exec_cutFrom _ _ _ rfl Try.underlying9 (had k) K (by kernel_rfl) (by kernel_rfl) hz2) O0 ?_
                  refine rgd_pure 18 (some 91) rfl rfl (.string ((now k).extract 0 K ++ (had k).extract K (had k).size)) (by kernel_rfl) (by kernel_rfl) (by kernel_rfl) (fun _ _ _ _ h => h) (by kernel_rfl) (exec_addS _ _ _ _ rfl _ _ (by kernel_rfl) (by kernel_rfl) hz3) O0 ?_
                  refine rgd_pure 19 (some 12) rfl rfl (.string ((now k).extract 0 K ++ (had k).extract K (had k).size)) (by kernel_rfl) (by kernel_rfl) (by kernel_rfl) (fun _ _ _ _ h => h) (by kernel_rfl) (fun _ => by kernel_rfl) O0 ?_
                  refine wpAnyH_done (by kernel_rfl) ?_ _
                  simp only [Act.put, List.setIfInBounds_toArray, List.set_cons_zero, List.set_cons_succ]
                  rw [← hCk.out]
                  have DW : Hid (RDk wr.drew A a b d ca cb cd m (crS now C k) (crS had C k) (syncI is k) left off) := DK.out.below (Below.refl wr.heap.size wr).drew
                  have BW1 : Hid (Bes4 A a b d wc wr.drew) := BW.out.drew
                  clear O0 c0 c1 c2 c3 c4 cn0 ch0 cs0 DK BW LK hCk Z1 Z2 hz1 hz2 hz3
                  generalize wr.drew = w0 at DW BW1 ⊢
                  obtain ⟨c0, c1, c2, c3, c4⟩ := rd_cells DW.out.obj
                  obtain ⟨n1, n2⟩ := DW.out.cn k hlt
                  go_upto_region 16 with fail
                  have D1 := Lib.hid (DW.out.setNow k hlt (C k)); have B1 := Lib.hid (BW1.out.setCell (by simp) (.string (C k)) (p := ⟨a, k, none⟩))
                  rw [crS_step] at D1
                  clear c0 c1 c2 c3 c4 n1 n2 DW BW1
                  generalize w0.setCell ⟨a, k, none⟩ (.string (C k)) = w1 at D1 B1 ⊢
                  obtain ⟨c0, c1, c2, c3, c4⟩ := rd_cells D1.out.obj
                  obtain ⟨n1, n2⟩ := D1.out.ch k hlt
                  go_upto_region 17 with fail
                  have D2 := Lib.hid (D1.out.setHad k hlt (C k)); have B2 := Lib.hid (B1.out.setCell (by simp) (.string (C k)) (p := ⟨b, k, none⟩))
                  rw [crS_step] at D2
                  clear c0 c1 c2 c3 c4 n1 n2 D1 B1
                  generalize w1.setCell ⟨b, k, none⟩ (.string (C k)) = w2 at D2 B2 ⊢
                  obtain ⟨c0, c1, c2, c3, c4⟩ := rd_cells D2.out.obj
                  obtain ⟨n1, n2⟩ := D2.out.cs k hlt
                  go_upto_region 18 with fail
                  have D3 := Lib.hid (D2.out.setIs k hlt false); have B3 := Lib.hid (B2.out.setCell (by simp) (.bool false) (p := ⟨d, k, none⟩))
                  rw [syncI_step] at D3
                  clear c0 c1 c2 c3 c4 n1 n2 D2 B2
                  generalize w2.setCell ⟨d, k, none⟩ (.bool false) = w3 at D3 B3 ⊢
                  go_wp2_with fail
                  go_roundg (m - (k + 1))
                  case measure => omega
                  case rel => exact ⟨k + 1, by omega, rfl, by go_num, D3.out, B3.out⟩
                · rw [his, hst, if_neg (by simp [ht]), if_neg (by simp)] at HCk
                  rw [his] at cs0
                  have hCk := Lib.hid HCk
                  clear HCk his hst
                  go_upto_region 15 with fail
                  rw [← hCk.out]
                  have DW : Hid (RDk wr A a b d ca cb cd m (crS now C k) (crS had C k) (syncI is k) left off) := DK.out
                  have BW1 : Hid (Bes4 A a b d wc wr) := BW.out
                  clear c0 c1 c2 c3 c4 cn0 ch0 cs0 DK BW LK hCk z1 z2
                  generalize wr = w0 at DW BW1 ⊢
                  obtain ⟨c0, c1, c2, c3, c4⟩ := rd_cells DW.out.obj
                  obtain ⟨n1, n2⟩ := DW.out.cn k hlt
                  go_upto_region 16 with fail
                  have D1 := Lib.hid (DW.out.setNow k hlt (C k)); have B1 := Lib.hid (BW1.out.setCell (by simp) (.string (C k)) (p := ⟨a, k, none⟩))
                  rw [crS_step] at D1
                  clear c0 c1 c2 c3 c4 n1 n2 DW BW1
                  generalize w0.setCell ⟨a, k, none⟩ (.string (C k)) = w1 at D1 B1 ⊢
                  obtain ⟨c0, c1, c2, c3, c4⟩ := rd_cells D1.out.obj
                  obtain ⟨n1, n2⟩ := D1.out.ch k hlt
                  go_upto_region 17 with fail
                  have D2 := Lib.hid (D1.out.setHad k hlt (C k)); have B2 := Lib.hid (B1.out.setCell (by simp) (.string (C k)) (p := ⟨b, k, none⟩))
                  rw [crS_step] at D2
                  clear c0 c1 c2 c3 c4 n1 n2 D1 B1
                  generalize w1.setCell ⟨b, k, none⟩ (.string (C k)) = w2 at D2 B2 ⊢
                  obtain ⟨c0, c1, c2, c3, c4⟩ := rd_cells D2.out.obj
                  obtain ⟨n1, n2⟩ := D2.out.cs k hlt
                  go_upto_region 18 with fail
                  have D3 := Lib.hid (D2.out.setIs k hlt false); have B3 := Lib.hid (B2.out.setCell (by simp) (.bool false) (p := ⟨d, k, none⟩))
                  rw [syncI_step] at D3
                  clear c0 c1 c2 c3 c4 n1 n2 D2 B2
                  generalize w2.setCell ⟨d, k, none⟩ (.bool false) = w3 at D3 B3 ⊢
                  go_wp2_with fail
                  go_roundg (m - (k + 1))
                  case measure => omega
                  case rel => exact ⟨k + 1, by omega, rfl, by go_num, D3.out, B3.out⟩
              | false =>
                by_cases ht : (k : Int) = torn
                · rw [his, hst, if_neg (by simp), if_neg (by simp)] at HCk
                  rw [his] at cs0
                  subst ht
                  have hCk := Lib.hid HCk
                  clear HCk his hst
                  go_upto_region 15 with fail
                  rw [← hCk.out]
                  have DW : Hid (RDk wr A a b d ca cb cd m (crS now C k) (crS had C k) (syncI is k) left off) := DK.out
                  have BW1 : Hid (Bes4 A a b d wc wr) := BW.out
                  clear c0 c1 c2 c3 c4 cn0 ch0 cs0 DK BW LK hCk z1 z2
                  generalize wr = w0 at DW BW1 ⊢
                  obtain ⟨c0, c1, c2, c3, c4⟩ := rd_cells DW.out.obj
                  obtain ⟨n1, n2⟩ := DW.out.cn k hlt
                  go_upto_region 16 with fail
                  have D1 := Lib.hid (DW.out.setNow k hlt (C k)); have B1 := Lib.hid (BW1.out.setCell (by simp) (.string (C k)) (p := ⟨a, k, none⟩))
                  rw [crS_step] at D1
                  clear c0 c1 c2 c3 c4 n1 n2 DW BW1
                  generalize w0.setCell ⟨a, k, none⟩ (.string (C k)) = w1 at D1 B1 ⊢
                  obtain ⟨c0, c1, c2, c3, c4⟩ := rd_cells D1.out.obj
                  obtain ⟨n1, n2⟩ := D1.out.ch k hlt
                  go_upto_region 17 with fail
                  have D2 := Lib.hid (D1.out.setHad k hlt (C k)); have B2 := Lib.hid (B1.out.setCell (by simp) (.string (C k)) (p := ⟨b, k, none⟩))
                  rw [crS_step] at D2
                  clear c0 c1 c2 c3 c4 n1 n2 D1 B1
                  generalize w1.setCell ⟨b, k, none⟩ (.string (C k)) = w2 at D2 B2 ⊢
                  obtain ⟨c0, c1, c2, c3, c4⟩ := rd_cells D2.out.obj
                  obtain ⟨n1, n2⟩ := D2.out.cs k hlt
                  go_upto_region 18 with fail
                  have D3 := Lib.hid (D2.out.setIs k hlt false); have B3 := Lib.hid (B2.out.setCell (by simp) (.bool false) (p := ⟨d, k, none⟩))
                  rw [syncI_step] at D3
                  clear c0 c1 c2 c3 c4 n1 n2 D2 B2
                  generalize w2.setCell ⟨d, k, none⟩ (.bool false) = w3 at D3 B3 ⊢
                  go_wp2_with fail
                  go_roundg (m - (k + 1))
                  case measure => omega
                  case rel => exact ⟨k + 1, by omega, rfl, by go_num, D3.out, B3.out⟩
                · rw [his, hst, if_neg (by simp), if_neg (by simp)] at HCk
                  rw [his] at cs0
                  have hCk := Lib.hid HCk
                  clear HCk his hst
                  go_upto_region 15 with fail
                  rw [← hCk.out]
                  have DW : Hid (RDk wr A a b d ca cb cd m (crS now C k) (crS had C k) (syncI is k) left off) := DK.out
                  have BW1 : Hid (Bes4 A a b d wc wr) := BW.out
                  clear c0 c1 c2 c3 c4 cn0 ch0 cs0 DK BW LK hCk z1 z2
                  generalize wr = w0 at DW BW1 ⊢
                  obtain ⟨c0, c1, c2, c3, c4⟩ := rd_cells DW.out.obj
                  obtain ⟨n1, n2⟩ := DW.out.cn k hlt
                  go_upto_region 16 with fail
                  have D1 := Lib.hid (DW.out.setNow k hlt (C k)); have B1 := Lib.hid (BW1.out.setCell (by simp) (.string (C k)) (p := ⟨a, k, none⟩))
                  rw [crS_step] at D1
                  clear c0 c1 c2 c3 c4 n1 n2 DW BW1
                  generalize w0.setCell ⟨a, k, none⟩ (.string (C k)) = w1 at D1 B1 ⊢
                  obtain ⟨c0, c1, c2, c3, c4⟩ := rd_cells D1.out.obj
                  obtain ⟨n1, n2⟩ := D1.out.ch k hlt
                  go_upto_region 17 with fail
                  have D2 := Lib.hid (D1.out.setHad k hlt (C k)); have B2 := Lib.hid (B1.out.setCell (by simp) (.string (C k)) (p := ⟨b, k, none⟩))
                  rw [crS_step] at D2
                  clear c0 c1 c2 c3 c4 n1 n2 D1 B1
                  generalize w1.setCell ⟨b, k, none⟩ (.string (C k)) = w2 at D2 B2 ⊢
                  obtain ⟨c0, c1, c2, c3, c4⟩ := rd_cells D2.out.obj
                  obtain ⟨n1, n2⟩ := D2.out.cs k hlt
                  go_upto_region 18 with fail
                  have D3 := Lib.hid (D2.out.setIs k hlt false); have B3 := Lib.hid (B2.out.setCell (by simp) (.bool false) (p := ⟨d, k, none⟩))
                  rw [syncI_step] at D3
                  clear c0 c1 c2 c3 c4 n1 n2 D2 B2
                  generalize w2.setCell ⟨d, k, none⟩ (.bool false) = w3 at D3 B3 ⊢
                  go_wp2_with fail
                  go_roundg (m - (k + 1))
                  case measure => omega
                  case rel => exact ⟨k + 1, by omega, rfl, by go_num, D3.out, B3.out⟩
      · obtain rfl : k = m := by omega
        have hkI : ¬ (k : Int) < k := by omega
        have f3 := rd_frozen DK.out.obj 3
        go_upto_region 20 with fail
        have D1 := Lib.hid (DK.out.setLeft (-1) (by omega)); have B1 := Lib.hid (BW.out.setCell (by simp) (.int .i64 (-1)) (p := ⟨A, 3, none⟩))
        clear c0 c1 c2 c3 c4 f3 DK BW LK
        generalize wr.setCell ⟨A, 3, none⟩ (.int .i64 (-1)) = w1 at D1 B1 ⊢
        obtain ⟨c0, c1, c2, c3, c4⟩ := rd_cells D1.out.obj
        have f4 := rd_frozen D1.out.obj 4
        have D2 := Lib.hid (D1.out.setOff false); have B2 := Lib.hid (B1.out.setCell (by simp) (.bool false) (p := ⟨A, 4, none⟩))
        clear D1 B1
        go_wp2
        exact bodyPost_end (v := .tuple #[]) (by kernel_rfl) (by kernel_rfl) ⟨rfl, D2.out, B2.out⟩
end Go.Proofs.Ytfgjcgonlpbdbaa
