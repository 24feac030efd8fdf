/- The document's device: Write, Sync. -/
import Derived.Test.YtfgjcgonlpbdbaaPgRef
namespace Go.Proofs.Ytfgjcgonlpbdbaa
open Go Go.RowKit
set_option linter.unusedVariables false

theorem exec_storeS {P : Program} {o : Oper} {a : Act} {w : World} (t : TypeId) (x y : Operand) (ho : o.op = .store t x y) (hsz : ∀ w : World, (sizeOf t).run P w = .ok 1 w) (p : Addr) (v : ByteArray) (old : Value) (hx : a.eval x = .pointer (some p)) (hy : a.eval y = .string v)
    (hc : w.cell? p = some old) (hf : w.frozen? p = false) : (execOp a.eval o).run P w = .ok .skip (w.setCell p (.string v)) := by
  unfold execOp
  simp only [ho, hx, hy]
  have hs := hsz w
  go_simp
theorem sizeStr (w : World) : (sizeOf 9).run Try.prog w = .ok 1 w := by kernel_rfl
theorem sizeStrE (w : World) : (sizeOf (Try.prog.elem 62)).run Try.prog w = .ok 1 w := by kernel_rfl
/-- what the document's Write comes to, where it is not refused -/
def RWrote (T : Nat) (w : World) (A a b d ca cb cd m : Nat) (now had : Nat → ByteArray) (is : Nat → Bool) (l1 : Int) (i : Nat) (l : List UInt8) (e : Ending) (w' : World) : Prop :=
  e = .returned (.int .i64 0) ∧ RDk w' A a b d ca cb cd m (updS now i (pageS l)) had (updB is i true) l1 false ∧ Bes4 A a b d w w'
set_option maxHeartbeats 4000000 in
set_option maxRecDepth 100000 in
theorem refWrite_go (T A a b d ca cb cd m : Nat) (now had : Nat → ByteArray) (is : Nat → Bool) (left : Int) (off : Bool) (i : Nat) (p : Option Addr) (c : Nat) (l : List UInt8) (w : World) (h : RDk w A a b d ca cb cd m now had is left off) (had0 : actD off left = false) (hi : i < m) (hl : Lies w p l) (hp : l ≠ [] → ∀ x o, p = some ⟨x, o, none⟩ → x ≠ A ∧ x ≠ a ∧ x ≠ b ∧ x ≠ d) (hlen : l.length ≤ 128) (hT : T ≤ A ∧ T ≤ a ∧ T ≤ d) (hTw : T ≤ w.heap.size) :
    Calls Try.prog 27 #[.pointer (some ⟨A, 0, none⟩), .int .i64 (i : Int), .slice p l.length c] w (RWrote T w A a b d ca cb cd m now had is (actF off left) i l) := by
  have AC := refAct_all T A a b d ca cb cd m now had is left off w h hT.1 hTw
  unfold RActed at AC
  rw [had0] at AC
  simp only [Bool.false_eq_true, if_false] at AC
  generalize actF off left = l1 at AC ⊢
  have ACT := Lib.hid AC
  obtain ⟨c0, c1, c2, c3, c4⟩ := rd_cells h.obj
  have hi1 : ¬ (i : Int) < 0 := by omega
  have hi2 : ¬ (i : Int) ≥ (m : Int) := by omega
  have hi3 : ¬ (l.length : Int) > 128 := by omega
  have HL := Lib.hid hl; have HP := Lib.hid hp; have HT := Lib.hid hT
  clear h hl hp hT AC had0
  go_enter Try.func27, Try.ntmps27
  go_wp2_with fail
  refine ACT.out.mono ?_
  rintro e w2 ⟨rfl, hd2, hb2⟩
  have D2 := Lib.hid hd2; have B2 := Lib.hid hb2
  have L2 : Hid (Lies w2 p l) := by
    show Lies w2 p l
    intro h0
    obtain ⟨x, o, e, hxl, hc⟩ := HL.out.at (List.length_pos_iff.2 h0)
    obtain ⟨n1, n2, n3, n4⟩ := HP.out h0 x o e
    exact ⟨x, o, e, fun j hj => by rw [World.cell?_of_block (hb2.block x hxl n1 n2 n3 n4)]; exact hc j hj⟩
  clear hd2 hb2 ACT c0 c1 c2 c3 c4
  go_wp2_with fail
  have D0 := D2.out.below (Below.refl w2.heap.size w2).drew
  have O0 := D0.obj
  have L0 : Lies w2.drew p l := L2.out.drew
  have D1 : RDk (w2.drew.setCell ⟨a, 0 + i, none⟩ (.string (pageS l))) A a b d ca cb cd m (updS now i (pageS l)) had is l1 false := by rw [Nat.zero_add]; exact D0.setNow i hi _
  have B3 : Bes4 A a b d w (w2.drew.setCell ⟨a, 0 + i, none⟩ (.string (pageS l))) := B2.out.drew.setCell (by simp) _
  refine rg_start (n := 9) (S := fun w' => w'.heap[A]? = some (rdObj a b d ca cb cd m l1 false)) (by kernel_rfl) rfl O0 ?_
  refine rgd_pure 0 (some 29) rfl rfl (.pointer (some ⟨A, 0, none⟩)) (by kernel_rfl) (by kernel_rfl) (by kernel_rfl) (fun _ _ _ _ h => h) (by kernel_rfl) (fun _ => by kernel_rfl) O0 ?_
  refine rgd_pure 1 (some 30) rfl rfl (.pointer (some ⟨A, 0, none⟩)) (by kernel_rfl) (by kernel_rfl) (by kernel_rfl) (fun _ _ _ _ h => h) (by kernel_rfl) (fun _ => by kernel_rfl) O0 ?_
  refine rgd_pure 2 (some 31) rfl rfl (.pointer (some ⟨A, 0, none⟩)) (by kernel_rfl) (by kernel_rfl) (by kernel_rfl) (fun _ _ _ _ h => h) (by kernel_rfl) (fun _ => by kernel_rfl) O0 ?_
  refine rgd_load 3 (some 32) rfl rfl (by kernel_rfl) (by kernel_rfl) (by kernel_rfl) (fun _ _ _ _ h => h) (by kernel_rfl) _ _ rfl Try.underlying62 rfl ⟨A, 0, none⟩ (.slice (some ⟨a, 0, none⟩) m ca) (by kernel_rfl) (fun w h => (rd_cells h).1) O0 ?_
  refine rgd_pure 4 (some 33) rfl rfl (.int .i64 (i : Int)) (by kernel_rfl) (by kernel_rfl) (by kernel_rfl) (fun _ _ _ _ h => h) (by kernel_rfl) (fun _ => by kernel_rfl) O0 ?_
  refine rgd_pure 5 (some 34) rfl rfl (.slice p l.length c) (by kernel_rfl) (by kernel_rfl) (by kernel_rfl) (fun _ _ _ _ h => h) (by kernel_rfl) (fun _ => by kernel_rfl) O0 ?_
  refine rg_call 6 (by kernel_rfl) rfl (by kernel_rfl) 18 #[.slice p l.length c] (by kernel_rfl) (refPage_is p c l _ L0 (by omega)) ?_
  rintro e w' ⟨rfl, rfl⟩
  refine ⟨_, rfl, O0, ?_⟩
  refine rgd_index 7 (some 36) rfl rfl (by kernel_rfl) (by kernel_rfl) (by kernel_rfl) (fun _ _ _ _ h => h) (by kernel_rfl) _ _ _ rfl Try.underlying62 sizeStrE a 0 m ca i (by kernel_rfl) (by kernel_rfl) hi O0 ?_
  refine rg_do 8 (by kernel_rfl) rfl (by kernel_rfl) (w2.drew.setCell ⟨a, 0 + i, none⟩ (.string (pageS l))) (exec_storeS _ _ _ rfl sizeStr ⟨a, 0 + i, none⟩ (pageS l) (.string (now i)) (by kernel_rfl) (by kernel_rfl) (by rw [Nat.zero_add]; exact (D0.cn i hi).1) (by rw [Nat.zero_add]; exact (D0.cn i hi).2)) D1.obj ?_
  refine wpAnyH_done (by kernel_rfl) ?_ _
  generalize w2.drew.setCell ⟨a, 0 + i, none⟩ (.string (pageS l)) = w3 at D1 B3 ⊢
  obtain ⟨c0, c1, c2, c3, c4⟩ := rd_cells D1.obj
  obtain ⟨cs, fs⟩ := D1.cs i hi
  have R : Hid (RWrote T w A a b d ca cb cd m now had is l1 i l (.returned (.int .i64 0)) (w3.setCell ⟨d, i, none⟩ (.bool true))) := ⟨rfl, D1.setIs i hi true, B3.setCell (by simp) _⟩
  clear O0 D0 L0 D2 L2 B2 D1 B3
  simp only [Act.put, List.setIfInBounds_toArray, List.set_cons_zero, List.set_cons_succ]
  go_wp2
  exact bodyPost_ret (v := .int .i64 0) (by kernel_rfl) (by kernel_rfl) R.out
/-- what the document's Sync comes to, where power is on -/
def syncH (now had : Nat → ByteArray) (k : Nat) : Nat → ByteArray := fun i => if i < k then now i else had i
def syncI (is : Nat → Bool) (k : Nat) : Nat → Bool := fun i => if i < k then false else is i
theorem syncH_step (now had : Nat → ByteArray) (k : Nat) : updS (syncH now had k) k (now k) = syncH now had (k + 1) := by
  funext i
  unfold updS syncH
  by_cases e : i = k
  · subst e; rw [if_pos rfl, if_pos (by omega)]
  · rw [if_neg e]
    by_cases h : i < k
    · rw [if_pos h, if_pos (by omega)]
    · rw [if_neg h, if_neg (by omega)]
theorem syncI_step (is : Nat → Bool) (k : Nat) : updB (syncI is k) k false = syncI is (k + 1) := by
  funext i
  unfold updB syncI
  by_cases e : i = k
  · subst e; rw [if_pos rfl, if_pos (by omega)]
  · rw [if_neg e]
    by_cases h : i < k
    · rw [if_pos h, if_pos (by omega)]
    · rw [if_neg h, if_neg (by omega)]
theorem syncH_zero (now had : Nat → ByteArray) : syncH now had 0 = had := by funext i; unfold syncH; rw [if_neg (by omega)]
theorem syncI_zero (is : Nat → Bool) : syncI is 0 = is := by funext i; unfold syncI; rw [if_neg (by omega)]
def RSynced (T : Nat) (w : World) (A a b d ca cb cd m : Nat) (now had : Nat → ByteArray) (is : Nat → Bool) (l1 : Int) (e : Ending) (w' : World) : Prop :=
  e = .returned (.int .i64 0) ∧ RDk w' A a b d ca cb cd m now (syncH now had m) (syncI is m) l1 false ∧ Bes4 A a b d w w'
set_option maxHeartbeats 4000000 in
set_option maxRecDepth 100000 in
theorem refSync_go (T A a b d ca cb cd m : Nat) (now had : Nat → ByteArray) (is : Nat → Bool) (left : Int) (off : Bool) (w : World) (h : RDk w A a b d ca cb cd m now had is left off) (had0 : actD off left = false) (hT : T ≤ A ∧ T ≤ b ∧ T ≤ d) (hTw : T ≤ w.heap.size) :
    Calls Try.prog 24 #[.pointer (some ⟨A, 0, none⟩)] w (RSynced T w A a b d ca cb cd m now had is (actF off left)) := by
  have AC := refAct_all T A a b d ca cb cd m now had is left off w h hT.1 hTw
  unfold RActed at AC
  rw [had0] at AC
  simp only [Bool.false_eq_true, if_false] at AC
  generalize actF off left = l1 at AC ⊢
  have ACT := Lib.hid AC
  have HT := Lib.hid hT
  have hm := h.small
  clear h hT AC had0
  go_enter Try.func24, Try.ntmps24
  go_wp2_with fail
  refine ACT.out.mono ?_
  rintro e w2 ⟨rfl, hd2, hb2⟩
  have D2 := Lib.hid hd2; have B2 := Lib.hid hb2
  obtain ⟨c0, c1, c2, c3, c4⟩ := rd_cells hd2.obj
  clear hd2 hb2 ACT
  go_wp2
  go_loopw [15] (fun i wr => ∃ k : Nat, k ≤ m ∧ i = .int .i64 k ∧ RDk wr A a b d ca cb cd m now (syncH now had k) (syncI is k) l1 false ∧ Bes4 A a b d w wr) (fun i _ => m - (intOf i).toNat)
  case atStart => exact ⟨0, by omega, rfl, by rw [syncH_zero, syncI_zero]; exact D2.out, B2.out⟩
  case round =>
    obtain ⟨k, hk, rfl, hdk, hbw⟩ := hrel
    have DK := Lib.hid hdk; have BW := Lib.hid hbw
    clear hdk hbw D2 B2 c0 c1 c2 c3 c4
    by_cases hlt : k < m
    · have hkI : (k : Int) < m := by omega
      have HS := Lib.hid (syncH_step now had k); have HI := Lib.hid (syncI_step is k)
      go_wp2_with fail
      have D0 := DK.out.below (Below.refl wr.heap.size wr).drew
      generalize syncH now had k = hadk at D0 HS
      generalize syncI is k = isk at D0 HI
      have D1 : RDk (wr.drew.setCell ⟨b, 0 + k, none⟩ (.string (now k))) A a b d ca cb cd m now (updS hadk k (now k)) isk l1 false := by rw [Nat.zero_add]; exact D0.setHad k hlt _
      have B3 : Bes4 A a b d w (wr.drew.setCell ⟨b, 0 + k, none⟩ (.string (now k))) := BW.out.drew.setCell (by simp) _
      have O0 : wr.drew.heap[A]? = some (rdObj a b d ca cb cd m l1 false) ∧ wr.drew.cell? ⟨a, 0 + k, none⟩ = some (.string (now k)) := ⟨D0.obj, by rw [Nat.zero_add]; exact (D0.cn k hlt).1⟩
      have O1 : (wr.drew.setCell ⟨b, 0 + k, none⟩ (.string (now k))).heap[A]? = some (rdObj a b d ca cb cd m l1 false) ∧ (wr.drew.setCell ⟨b, 0 + k, none⟩ (.string (now k))).cell? ⟨a, 0 + k, none⟩ = some (.string (now k)) := ⟨D1.obj, by have q := (D1.cn k hlt).1; rw [← Nat.zero_add k] at q; simpa using q⟩
      refine rg_start (n := 14) (S := fun w' => w'.heap[A]? = some (rdObj a b d ca cb cd m l1 false) ∧ w'.cell? ⟨a, 0 + k, none⟩ = some (.string (now k))) (by kernel_rfl) rfl O0 ?_
      refine rgd_pure 0 (some 18) rfl rfl (.pointer (some ⟨A, 0, none⟩)) (by kernel_rfl) (by kernel_rfl) (by kernel_rfl) (fun _ _ _ _ h => h) (by kernel_rfl) (fun _ => by kernel_rfl) O0 ?_
      refine rgd_pure 1 (some 19) rfl rfl (.pointer (some ⟨A, 0, none⟩)) (by kernel_rfl) (by kernel_rfl) (by kernel_rfl) (fun _ _ _ _ h => h) (by kernel_rfl) (fun _ => by kernel_rfl) O0 ?_
      refine rgd_pure 2 (some 20) rfl rfl (.pointer (some ⟨A, 1, none⟩)) (by kernel_rfl) (by kernel_rfl) (by kernel_rfl) (fun _ _ _ _ h => h) (by kernel_rfl) (fun _ => by kernel_rfl) O0 ?_
      refine rgd_load 3 (some 21) rfl rfl (by kernel_rfl) (by kernel_rfl) (by kernel_rfl) (fun _ _ _ _ h => h) (by kernel_rfl) _ _ rfl Try.underlying62 rfl ⟨A, 1, none⟩ (.slice (some ⟨b, 0, none⟩) m cb) (by kernel_rfl) (fun w h => (rd_cells h.1).2.1) O0 ?_
      refine rgd_pure 4 (some 22) rfl rfl (.int .i64 (k : Int)) (by kernel_rfl) (by kernel_rfl) (by kernel_rfl) (fun _ _ _ _ h => h) (by kernel_rfl) (fun _ => by kernel_rfl) O0 ?_
      refine rgd_pure 5 (some 23) rfl rfl (.pointer (some ⟨A, 0, none⟩)) (by kernel_rfl) (by kernel_rfl) (by kernel_rfl) (fun _ _ _ _ h => h) (by kernel_rfl) (fun _ => by kernel_rfl) O0 ?_
      refine rgd_pure 6 (some 24) rfl rfl (.pointer (some ⟨A, 0, none⟩)) (by kernel_rfl) (by kernel_rfl) (by kernel_rfl) (fun _ _ _ _ h => h) (by kernel_rfl) (fun _ => by kernel_rfl) O0 ?_
      refine rgd_pure 7 (some 25) rfl rfl (.pointer (some ⟨A, 0, none⟩)) (by kernel_rfl) (by kernel_rfl) (by kernel_rfl) (fun _ _ _ _ h => h) (by kernel_rfl) (fun _ => by kernel_rfl) O0 ?_
      refine rgd_load 8 (some 26) rfl rfl (by kernel_rfl) (by kernel_rfl) (by kernel_rfl) (fun _ _ _ _ h => h) (by kernel_rfl) _ _ rfl Try.underlying62 rfl ⟨A, 0, none⟩ (.slice (some ⟨a, 0, none⟩) m ca) (by kernel_rfl) (fun w h => (rd_cells h.1).1) O0 ?_
      refine rgd_pure 9 (some 27) rfl rfl (.int .i64 (k : Int)) (by kernel_rfl) (by kernel_rfl) (by kernel_rfl) (fun _ _ _ _ h => h) (by kernel_rfl) (fun _ => by kernel_rfl) O0 ?_
      refine rgd_index 10 (some 28) rfl rfl (by kernel_rfl) (by kernel_rfl) (by kernel_rfl) (fun _ _ _ _ h => h) (by kernel_rfl) _ _ _ rfl Try.underlying62 sizeStrE a 0 m ca k (by kernel_rfl) (by kernel_rfl) hlt O0 ?_
      refine rgd_load 11 (some 29) rfl rfl (by kernel_rfl) (by kernel_rfl) (by kernel_rfl) (fun _ _ _ _ h => h) (by kernel_rfl) _ _ rfl Try.underlying9 rfl ⟨a, 0 + k, none⟩ (.string (now k)) (by kernel_rfl) (fun w h => h.2) O0 ?_
      refine rgd_index 12 (some 30) rfl rfl (by kernel_rfl) (by kernel_rfl) (by kernel_rfl) (fun _ _ _ _ h => h) (by kernel_rfl) _ _ _ rfl Try.underlying62 sizeStrE b 0 m cb k (by kernel_rfl) (by kernel_rfl) hlt O0 ?_
      refine rg_do 13 (by kernel_rfl) rfl (by kernel_rfl) (wr.drew.setCell ⟨b, 0 + k, none⟩ (.string (now k))) (exec_storeS _ _ _ rfl sizeStr ⟨b, 0 + k, none⟩ (now k) (.string (hadk k)) (by kernel_rfl) (by kernel_rfl) (by rw [Nat.zero_add]; exact (D0.ch k hlt).1) (by rw [Nat.zero_add]; exact (D0.ch k hlt).2)) O1 ?_
      refine wpAnyH_done (by kernel_rfl) ?_ _
      generalize wr.drew.setCell ⟨b, 0 + k, none⟩ (.string (now k)) = w3 at D1 B3 ⊢
      obtain ⟨c0, c1, c2, c3, c4⟩ := rd_cells D1.obj
      obtain ⟨cs, fs⟩ := D1.cs k hlt
      have D4 := Lib.hid (D1.setIs k hlt false); have B4 := Lib.hid (B3.setCell (by simp) (.bool false) (p := ⟨d, k, none⟩))
      rw [HS.out, HI.out] at D4
      clear O0 O1 D0 D1 B3 DK BW
      simp only [Act.put, List.setIfInBounds_toArray, List.set_cons_zero, List.set_cons_succ]
      go_wp2
      go_roundw
      case rel => exact ⟨k + 1, by omega, by go_num, D4.out, B4.out⟩
      case measure => simp [intOf]; omega
    · obtain rfl : k = m := by omega
      have hkI : ¬ ((k : Int) < k) := by omega
      go_wp2
      exact bodyPost_ret (v := .int .i64 0) (by kernel_rfl) (by kernel_rfl) ⟨rfl, DK.out, BW.out⟩
end Go.Proofs.Ytfgjcgonlpbdbaa
