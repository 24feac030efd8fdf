/- The statement WireDecodes, proved for every input that its row reads: part 39 of 54. -/
import Derived.Test.YtapmbankpbiglaaGreatDoorPackWireDecodes35
import Derived.Test.YtapmbankpbiglaaGreatDoorPackWireDecodes9
/- The document's reader of any bytes: Fail, any, Num. -/
namespace Go.Proofs.YtapmbankpbiglaaGreatDoor
open Go Go.RowKit
set_option linter.unusedVariables false

section
variable {P : Program} {o : Oper} {a : Act}
theorem exec_eqlF (t yt : TypeId) (x y : Operand) (ho : o.op = .binOp .eql t x y yt) (X Y : Int) (hne : X ≠ Y) (hx : a.eval x = .int .i64 X) (hy : a.eval y = .int .i64 Y) (w : World) :
    (execOp a.eval o).run P w = .ok (.value (.bool false)) w := by
  unfold execOp
  simp only [ho, hx, hy]
  have : (X == Y) = false := by simpa using hne
  go_simp
theorem exec_neq0 (t yt : TypeId) (x y : Operand) (ho : o.op = .binOp .neq t x y yt) (n : Nat) (v : Bool) (hv : v = !decide (n = 0)) (hx : a.eval x = .int .u8 (n : Int)) (hy : a.eval y = .int .u8 0) (w : World) :
    (execOp a.eval o).run P w = .ok (.value (.bool v)) w := by
  subst hv
  unfold execOp
  simp only [ho, hx, hy]
  by_cases h : n = 0
  · subst h; go_simp
  · have h1 : ((n : Int) == 0) = false := by simp; omega
    have h2 : ((n : Int) != 0) = true := by simp; omega
    have h3 : (!decide (n = 0)) = true := by simp [h]
    rw [h3]
    go_simp
theorem exec_and8 (t yt : TypeId) (x y : Operand) (ho : o.op = .binOp .and t x y yt) (X Y : Nat) (hX : X < 256) (hY : Y < 256) (hx : a.eval x = .int .u8 (X : Int)) (hy : a.eval y = .int .u8 (Y : Int)) (w : World) :
    (execOp a.eval o).run P w = .ok (.value (.int .u8 ((X &&& Y : Nat) : Int))) w := by
  rw [← u8_and_nat X Y hX hY]
  unfold execOp
  simp only [ho, hx, hy]
  rfl
theorem exec_shr8 (t yt : TypeId) (x y : Operand) (ho : o.op = .binOp .shr t x y yt) (k : Nat) (hk : k ≤ 8) (hx : a.eval x = .int .u8 128) (hy : a.eval y = .int .i64 (k : Int)) (w : World) :
    (execOp a.eval o).run P w = .ok (.value (.int .u8 ((128 / 2 ^ k : Nat) : Int))) w := by
  have s : Sem.run P (Op.shift BinOp.shr IntKind.u8 128 IntKind.i64 (k : Int)) w = .ok (.int .u8 ((128 / 2 ^ k : Nat) : Int)) w := by
    unfold Op.shift
    rw [if_neg (by omega)]
    have e2 : min k IntKind.u8.bits = k := by simp [IntKind.bits]; omega
    simp only [Int.toNat_natCast, e2]
    rw [Sem.run_pure]
    have : (128 : Int).fdiv (2 ^ k) = ((128 / 2 ^ k : Nat) : Int) := by
      rw [show ((2 : Int) ^ k) = ((2 ^ k : Nat) : Int) from by simp, Int.fdiv_eq_ediv_of_nonneg _ (Int.natCast_nonneg _)]; simp
    simp only [this]
  unfold execOp
  simp only [ho, hx, hy]
  exact run_value_of s
theorem exec_shr64 (t yt : TypeId) (x y : Operand) (ho : o.op = .binOp .shr t x y yt) (X k : Nat) (hk : k ≤ 64) (hx : a.eval x = .int .u64 (X : Int)) (hy : a.eval y = .int .i64 (k : Int)) (w : World) :
    (execOp a.eval o).run P w = .ok (.value (.int .u64 ((X / 2 ^ k : Nat) : Int))) w := by
  have s := shr_nat P X k hk w
  unfold execOp
  simp only [ho, hx, hy]
  exact run_value_of s
theorem exec_rem64 (t yt : TypeId) (x y : Operand) (ho : o.op = .binOp .rem t x y yt) (X Y : Nat) (hY : Y < 256) (hY0 : 0 < Y) (hx : a.eval x = .int .u64 (X : Int)) (hy : a.eval y = .int .u64 (Y : Int)) (w : World) :
    (execOp a.eval o).run P w = .ok (.value (.int .u64 ((X % Y : Nat) : Int))) w := by
  have h0 : ¬ (Y : Int) = 0 := by omega
  have h1 : (X : Int).tmod (Y : Int) = ((X % Y : Nat) : Int) := by rw [Int.tmod_eq_emod_of_nonneg (by omega)]; simp
  unfold execOp
  simp only [ho, hx, hy]
  go_simp
  omega
end
end Go.Proofs.YtapmbankpbiglaaGreatDoor
/- The document's reader of any bytes: Fail, any, Num. -/
namespace Go.Proofs.YtapmbankpbiglaaGreatDoor
open Go Go.RowKit
set_option linter.unusedVariables false

theorem sizeU8 (w : World) : (sizeOf (Tryz.prog.elem 22)).run Tryz.prog w = .ok 1 w := by kernel_rfl
def rObj (v : Value) (e : Nat) : Obj := .cells #[v, .int .i64 (e : Int)] 49 (0, 0)
/-- the document's reader at A; its bytes lie between lo and it -/
def RRd (w : World) (A lo : Nat) (s : Cod.S) : Prop :=
  ∃ p c, w.heap[A]? = some (rObj (.slice p s.1.length c) s.2) ∧ s.1.length ≤ c ∧ Cod.Ok s ∧ (p = none ∧ s.1 = [] ∨ ∃ b o, p = some ⟨b, o, none⟩ ∧ Cells w b o s.1 ∧ lo ≤ b ∧ b < A)
theorem RRd.lt {w : World} {A lo : Nat} {s : Cod.S} (h : RRd w A lo s) : A < w.heap.size := by
  obtain ⟨p, c, h, _⟩ := h
  exact (Array.getElem?_eq_some_iff.1 h).1
theorem r_cells {w : World} {A e : Nat} {v : Value} (h : w.heap[A]? = some (rObj v e)) : w.cell? ⟨A, 0, none⟩ = some v ∧ w.cell? ⟨A, 1, none⟩ = some (.int .i64 (e : Int)) := by
  unfold rObj at h
  exact ⟨by rw [cell_of_row w A 0 _ _ _ h]; rfl, by rw [cell_of_row w A 1 _ _ _ h]; rfl⟩
theorem r_frozen {w : World} {A e : Nat} {v : Value} (h : w.heap[A]? = some (rObj v e)) (i : Nat) : w.frozen? ⟨A, i, none⟩ = false := by
  unfold rObj at h; exact frozen_of_row w A i _ _ h
/-- whatever turns but the reader and its bytes leaves it -/
theorem RRd.kept {w w' : World} {A lo : Nat} {s : Cod.S} (h : RRd w A lo s) (hA : w'.heap[A]? = w.heap[A]?) (hb : ∀ b, lo ≤ b → b < A → w'.heap[b]? = w.heap[b]?) : RRd w' A lo s := by
  obtain ⟨p, c, h1, h2, h3, h4⟩ := h
  refine ⟨p, c, hA.trans h1, h2, h3, ?_⟩
  rcases h4 with h4 | ⟨b, o, e, hc, h5, h6⟩
  · exact .inl h4
  · exact .inr ⟨b, o, e, fun i hi => by rw [World.cell?_of_block (w := w) (hb b h5 h6)]; exact hc i hi, h5, h6⟩
theorem RRd.below {w w' : World} {A lo : Nat} {s : Cod.S} (h : RRd w A lo s) (hb : Below w.heap.size w w') : RRd w' A lo s :=
  h.kept (hb.block A h.lt) (fun b _ h2 => hb.block b (by have := h.lt; omega))
theorem RRd.under {w w' : World} {A lo T : Nat} {s : Cod.S} (h : RRd w A lo s) (hT : A < T) (hb : Below T w w') : RRd w' A lo s :=
  h.kept (hb.block A hT) (fun b _ h2 => hb.block b (by omega))
theorem RRd.other {w w' : World} {A lo B : Nat} {s : Cod.S} (h : RRd w A lo s) (hg : w.grownBy w' (some B)) (hB : B < lo) (hlo : lo ≤ A) : RRd w' A lo s :=
  h.kept (hg.block A h.lt (fun e => by have := Option.some.inj e; omega)) (fun b h1 h2 => hg.block b (by have := h.lt; omega) (fun e => by have := Option.some.inj e; omega))
def GotR (w : World) (A lo : Nat) (v : Value) (s : Cod.S) (e : Ending) (w' : World) : Prop := e = .returned v ∧ RRd w' A lo s ∧ w.grownBy w' (some A)
theorem r_fail {w : World} {A e c : Nat} {v : Value} (h : w.heap[A]? = some (rObj v e)) : ((w.setCell ⟨A, 1, none⟩ (.int .i64 (c : Int))).setCell ⟨A, 0, none⟩ (.slice none 0 0)).heap[A]? = some (rObj (.slice none 0 0) c) := by
  unfold rObj at h ⊢
  have h1 := heap_setCell_same w A 1 _ _ (.int .i64 (c : Int)) h
  rw [heap_setCell_same _ A 0 _ _ (.slice none 0 0) h1]
  rfl
theorem r_set {w : World} {A e : Nat} {v : Value} (u : Value) (h : w.heap[A]? = some (rObj v e)) : (w.setCell ⟨A, 0, none⟩ u).heap[A]? = some (rObj u e) := by
  unfold rObj at h ⊢
  rw [heap_setCell_same w A 0 _ _ u h]
  rfl
set_option maxHeartbeats 1000000 in
theorem refFail_any (A lo c : Nat) (s : Cod.S) (w : World) (h : RRd w A lo s) (hc : 0 < c) :
    Calls Tryz.prog 40 #[.pointer (some ⟨A, 0, none⟩), .int .i64 (c : Int)] w (GotR w A lo (.tuple #[]) (Cod.failS c s)) := by
  obtain ⟨l, e⟩ := s
  have H := Lib.hid h
  obtain ⟨p, cc, h1, _⟩ := h
  obtain ⟨c0, c1⟩ := r_cells h1
  simp only at c0 c1 h1
  by_cases he : e = 0
  · subst he
    rw [Cod.failS_zero]
    have hc' : ¬ (c : Int) = 0 := by omega
    have F := Lib.hid (fail_grown w A c)
    have M := Lib.hid (r_fail (c := c) h1)
    have f0 := r_frozen h1 0
    have f1 := r_frozen h1 1
    clear h1
    go_enter Tryz.func40, Tryz.ntmps40
    go_wp2
    exact bodyPost_ret (results_none rfl _ _ _) rfl ⟨rfl, ⟨none, 0, M.out, Nat.le_refl _, fun _ => rfl, .inl ⟨rfl, rfl⟩⟩, F.out⟩
  · rw [show Cod.failS c (l, e) = (l, e) from if_neg he]
    have he' : ¬ (e : Int) = 0 := by omega
    clear h1
    go_enter Tryz.func40, Tryz.ntmps40
    go_wp2
    exact bodyPost_ret (results_none rfl _ _ _) rfl ⟨rfl, H.out, grownA_refl _ _⟩
/-- cut behind the first n -/
theorem rrd_cut {w : World} {A lo b o c n b' o' c' m : Nat} {l : List UInt8} (h : w.heap[A]? = some (rObj (.slice (some ⟨b, o, none⟩) l.length c) 0)) (hm : m = (l.drop n).length) (hc : Cells w b' o' (l.drop n)) (hle : (l.drop n).length ≤ c') (h1 : lo ≤ b') (h2 : b' < A) :
    RRd (w.setCell ⟨A, 0, none⟩ (.slice (some ⟨b', o', none⟩) m c')) A lo (l.drop n, 0) := by
  subst hm
  refine ⟨_, c', r_set _ h, hle, fun e => absurd rfl e, .inr ⟨b', o', rfl, fun i hi => ?_, h1, h2⟩⟩
  rw [World.cell?_of_block (w := w) (Below.heap_setCell w ⟨A, 0, none⟩ _ b' (by show b' ≠ A; omega))]
  exact hc i hi

theorem shr_128 (P : Program) (k : Nat) (hk : k ≤ 8) (w : World) : Sem.run P (Op.shift BinOp.shr IntKind.u8 128 IntKind.i64 (k : Int)) w = .ok (.int .u8 ((128 / 2 ^ k : Nat) : Int)) w := by
  unfold Op.shift
  rw [if_neg (by omega)]
  have e2 : min k IntKind.u8.bits = k := by simp [IntKind.bits]; omega
  simp only [Int.toNat_natCast, e2]
  rw [Sem.run_pure]
  have : (128 : Int).fdiv (2 ^ k) = ((128 / 2 ^ k : Nat) : Int) := by
    rw [show ((2 : Int) ^ k) = ((2 ^ k : Nat) : Int) from by simp, Int.fdiv_eq_ediv_of_nonneg _ (Int.natCast_nonneg _)]; simp
  simp only [this]
set_option maxHeartbeats 4000000 in
set_option maxRecDepth 100000 in
theorem refNumber_all (A lo : Nat) (s : Cod.S) (w : World) (h : RRd w A lo s) (hl : s.1.length ≤ 140737488355328) :
    Calls Tryz.prog 39 #[.pointer (some ⟨A, 0, none⟩)] w (GotR w A lo (.int .u64 (Cod.anyS s).1) (Cod.anyS s).2) := by
  obtain ⟨l, e⟩ := s
  match l, h, hl with
  | [], h, hl =>
    have F := Lib.hid (refFail_any A lo 4 _ w h (by omega))
    have hA : Cod.anyS (([] : List UInt8), e) = (0, Cod.failS 4 ([], e)) := by
      unfold Cod.anyS
      by_cases he : e = 0
      · subst he; rfl
      · rw [if_neg he, show Cod.failS 4 (([] : List UInt8), e) = ([], e) from if_neg he]
    rw [hA]
    obtain ⟨p, c, h1, _⟩ := h
    obtain ⟨c0, c1⟩ := r_cells h1
    simp only [List.length_nil] at c0
    clear h1 hA
    go_enter Tryz.func39, Tryz.ntmps39
    go_wp2_with fail
    refine F.out.mono ?_
    rintro e w1 ⟨rfl, h1, h2⟩
    have H1 := Lib.hid h1; have H2 := Lib.hid h2
    clear h1 h2 F
    go_wp2
    go_ret
    exact ⟨rfl, H1.out, H2.out⟩
  | b :: t, h, hl =>
    obtain ⟨p, c, h1, hlc, hok, h4⟩ := h
    have he : e = 0 := by
      rcases Nat.eq_zero_or_pos e with h | h
      · exact h
      · have : (b :: t) = [] := hok (by show e ≠ 0; omega)
        cases this
    subst he
    rcases h4 with ⟨_, h4⟩ | ⟨b0, o0, rfl, hcs, hlo, hbA⟩
    · cases h4
    have hA : Cod.anyS (b :: t, 0) = Cod.next (b :: t) := by unfold Cod.anyS; rw [if_pos rfl]
    rw [hA]
    clear hA hok
    obtain ⟨c0, c1⟩ := r_cells h1
    simp only [List.length_cons] at c0 hlc hl
    have cb0 : w.cell? ⟨b0, o0, none⟩ = some (.int .u8 (b.toNat : Int)) := by have := hcs 0 (by simp); simpa using this
    have RR : Hid (RRd w A lo (b :: t, 0)) := ⟨_, c, h1, hlc, fun e => absurd rfl e, .inr ⟨b0, o0, rfl, hcs, hlo, hbA⟩⟩
    have H1 := Lib.hid h1; have CS := Lib.hid hcs
    have hb := b.toNat_lt
    have h8 := Cod.ones_le b.toNat
    have hft := Cod.frst_tab ⟨b.toNat, hb⟩
    have hbt := fun (i : Nat) (hi : i < 8) => Cod.bit_tab ⟨b.toNat, hb⟩ ⟨i, hi⟩
    simp only at hft hbt
    have hfs := fun j (hj : j ≤ Cod.ones b.toNat) => Cod.fold_small b t j hj
    have hnx : Cod.next (b :: t) = if t.length < Cod.ones b.toNat then (0, [], 4) else if Cod.bh (Cod.fold (Cod.frst b.toNat) (t.take (Cod.ones b.toNat))) = Cod.ones b.toNat then (Cod.fold (Cod.frst b.toNat) (t.take (Cod.ones b.toNat)), t.drop (Cod.ones b.toNat), 0) else (0, [], 3) := rfl
    generalize Cod.ones b.toNat = K at *
    generalize Cod.frst b.toNat = f0 at *
    have NX := Lib.hid hnx; have FS := Lib.hid hfs; have FT := Lib.hid hft; have BT := Lib.hid hbt
    clear hnx hfs hft hbt hcs h1
    have f0z := r_frozen H1.out 0
    go_enter Tryz.func39, Tryz.ntmps39
    go_wp2
    go_loopw [3, 15] (fun k i wr => ∃ j : Nat, j ≤ 8 ∧ i = .int .i64 j ∧ k = .int .i64 (min j K : Nat) ∧ Below w.heap.size w wr ∧ wr.heap = w.heap) (fun _ i _ => 8 - (intOf i).toNat)
    case atStart => exact ⟨0, Nat.zero_le _, rfl, by simp, Below.refl _ _, rfl⟩
    case round =>
      obtain ⟨j, hj, rfl, rfl, hbw, hhp⟩ := hrel
      have BW := Lib.hid hbw; have HP := Lib.hid hhp
      have hcw : ∀ p : Addr, wr.cell? p = w.cell? p := fun p => by unfold World.cell?; rw [HP.out]
      have ca0 : wr.cell? ⟨A, 0, none⟩ = some (.slice (some ⟨b0, o0, none⟩) (t.length + 1) c) := (hcw _).trans c0
      have cbw : wr.cell? ⟨b0, o0, none⟩ = some (.int .u8 (b.toNat : Int)) := (hcw _).trans cb0
      have CW := Lib.hid hcw
      clear hbw hhp hcw
      by_cases hj8 : j < 8
      · have hj8' : (j : Int) < 8 := by omega
        by_cases hjK : j ≤ K
        · rw [Nat.min_eq_left hjK]
          have hv := BT.out j hj8 hjK
          have h128 : 128 / 2 ^ j < 256 := Nat.lt_of_le_of_lt (Nat.div_le_self _ _) (by omega)
          have hnz := u8_and_nat b.toNat (128 / 2 ^ j) hb h128
          rw [show ((128 / 2 ^ j : Nat) : Int) = (128 : Int) / 2 ^ j from by simp] at hnz
          have s1 := fun w => shr_128 Tryz.prog j (by omega) w
          have h00 : (0 : Int) < (t.length : Int) + 1 := by omega
          clear h128
          by_cases hq : j < K
          · have ht : (bits BinOp.and IntKind.u8 (b.toNat : Int) (128 / 2 ^ j) != 0) = true := by
              have h1 := hv.2 hq
              rw [hnz, bne_iff_ne]
              omega
            clear hv hnz
            go_wp2
            go_quiet (fail)
            have B2 : Hid (Below w.heap.size w (wr.drewN nq)) := below_drewN BW.out _
            have P2 : Hid ((wr.drewN nq).heap = w.heap) := HP.out
            generalize wr.drewN nq = w2 at B2 P2 ⊢
            clear ca0 cbw s1
            go_wp2
            go_roundw
            case rel => exact ⟨j + 1, by omega, by go_num, by (rw [Nat.min_eq_left (by omega)]; go_num), B2.out, P2.out⟩
            case measure => simp [intOf]; omega
          · obtain rfl : j = K := by omega
            have ht : (bits BinOp.and IntKind.u8 (b.toNat : Int) (128 / 2 ^ j) != 0) = false := by
              have h1 : b.toNat &&& 128 / 2 ^ j = 0 := by
                by_cases hz : (b.toNat &&& (128 / 2 ^ j)) = 0
                · exact hz
                · exact absurd (hv.1 hz) hq
              rw [hnz, h1]; rfl
            clear hv hnz
            go_wp2
            go_quiet (fail)
            have B2 : Hid (Below w.heap.size w (wr.drewN nq)) := below_drewN BW.out _
            have P2 : Hid ((wr.drewN nq).heap = w.heap) := HP.out
            generalize wr.drewN nq = w2 at B2 P2 ⊢
            clear ca0 cbw s1
            go_wp2
            go_roundw
            case rel => exact ⟨j + 1, by omega, by go_num, by rw [Nat.min_eq_right (by omega)], B2.out, P2.out⟩
            case measure => simp [intOf]; omega
        · rw [Nat.min_eq_right (by omega)]
          obtain ⟨k, hk⟩ : ∃ k, k = K := ⟨_, rfl⟩
          rw [← hk] at hjK ⊢
          have HK := Lib.hid hk
          have hf1 : ((k : Int) == (j : Int)) = false := by simp; omega
          have hf2 : decide ((k : Int) = (j : Int)) = false := by simp; omega
          clear hk
          go_wp2
          go_quiet (fail)
          have B2 : Hid (Below w.heap.size w (wr.drewN nq)) := below_drewN BW.out _
          have P2 : Hid ((wr.drewN nq).heap = w.heap) := HP.out
          generalize wr.drewN nq = w2 at B2 P2 ⊢
          clear ca0 cbw
          go_wp2
          go_roundw
          case rel => exact ⟨j + 1, by omega, by go_num, by (rw [Nat.min_eq_right (by have := HK.out; omega), HK.out]), B2.out, P2.out⟩
          case measure => simp [intOf]; omega
      · obtain rfl : j = 8 := by omega
        rw [Nat.min_eq_right h8]
        have ca0 : wr.cell? ⟨A, 0, none⟩ = some (.slice (some ⟨b0, o0, none⟩) (t.length + 1) c) := (CW.out _).trans c0
        have cbw : wr.cell? ⟨b0, o0, none⟩ = some (.int .u8 (b.toNat : Int)) := (CW.out _).trans cb0
        by_cases hkt : t.length < K
        · rw [if_pos hkt] at NX
          have hlt' : (t.length : Int) < (K : Int) := by omega
          have F := Lib.hid (refFail_any A lo 4 _ wr (RR.out.below BW.out) (by omega))
          rw [Cod.failS_zero] at F
          have G8 : Hid (w.grownBy wr (some A)) := ⟨BW.out.os, BW.out.tape, BW.out.output, BW.out.size, fun i hi _ => BW.out.block i hi⟩
          clear hkt
          go_wp2_with fail
          refine F.out.mono ?_
          rintro e w4 ⟨rfl, h4, g4⟩
          have H4 := Lib.hid h4; have G4 := Lib.hid (grown_trans G8.out g4)
          clear h4 g4 F
          go_wp2
          go_ret
          rw [NX.out]
          exact ⟨rfl, H4.out, G4.out⟩
        · rw [if_neg hkt] at NX
          have hlt' : ¬ (t.length : Int) < (K : Int) := by omega
          have KT : Hid (K ≤ t.length) := by show K ≤ t.length; omega
          by_cases hK8 : K < 8
          · have hK8' : (K : Int) < 8 := by omega
            have h128 : 128 / 2 ^ K < 256 := Nat.lt_of_le_of_lt (Nat.div_le_self _ _) (by omega)
            have hpos : 0 < 128 / 2 ^ K := by
              have : 2 ^ K ≤ 2 ^ 7 := Nat.pow_le_pow_right (by omega) (by omega)
              exact Nat.div_pos (by omega) (Nat.pow_pos (by omega))
            have hf := (FT.out.2.1 hK8).symm
            clear hkt
            have s2 := fun w => shr_nat Tryz.prog 128 K (by omega) w
            have h00 : (0 : Int) < (t.length : Int) + 1 := by omega
            have hzd : ¬ ((128 : Int) / 2 ^ K = 0) := by
              rw [show (128 : Int) / 2 ^ K = ((128 / 2 ^ K : Nat) : Int) from by simp]; omega
            have hmd : (b.toNat : Int).tmod ((128 : Int) / 2 ^ K) = (f0 : Int) := by
              rw [show (128 : Int) / 2 ^ K = ((128 / 2 ^ K : Nat) : Int) from by simp, Int.tmod_eq_emod_of_nonneg (by omega), ← hf]; simp
            have hmd2 : (b.toNat : Int) % ((128 : Int) / 2 ^ K) = (f0 : Int) := by
              rw [show (128 : Int) / 2 ^ K = ((128 / 2 ^ K : Nat) : Int) from by simp, ← hf]; simp
            have hu8 : IntKind.u64.wrap (b.toNat : Int) = (b.toNat : Int) := by
              simp [IntKind.wrap, IntKind.bits, IntKind.signed]; omega
            clear hf hpos h128
            go_wp2
            go_quiet (fail)
            have BZ : Hid (Below w.heap.size w (wr.drewN nq)) := below_drewN BW.out _
            have PZ : Hid ((wr.drewN nq).heap = w.heap) := HP.out
            generalize wr.drewN nq = wz at BZ PZ ⊢
            clear ca0 cbw s2 hzd hmd hmd2 hu8
            have e0 : (f0 : Int) = ((Cod.fold f0 (t.take 0) : Nat) : Int) := rfl
            rw [e0]
            clear e0
            have CA : Hid (wz.cell? ⟨A, 0, none⟩ = some (.slice (some ⟨b0, o0, none⟩) (t.length + 1) c)) := by show wz.cell? _ = _; unfold World.cell?; rw [PZ.out]; exact c0
            have CC : Hid (∀ i, i < t.length → wz.cell? ⟨b0, o0 + (i + 1), none⟩ = some (.int .u8 ((t.getD i 0).toNat : Int))) := fun i hi => by
              have := CS.out (i + 1) (by simp; omega)
              unfold World.cell? at this ⊢
              rw [PZ.out]
              simpa using this
            have RZ := Lib.hid (RR.out.below BZ.out)
            have GZ : Hid (w.grownBy wz (some A)) := ⟨BZ.out.os, BZ.out.tape, BZ.out.output, BZ.out.size, fun i hi _ => BZ.out.block i hi⟩
            have CH : Hid (wz.heap[A]? = some (rObj (.slice (some ⟨b0, o0, none⟩) (t.length + 1) c) 0)) := by show wz.heap[A]? = _; rw [PZ.out]; exact H1.out
            have fz : wz.frozen? ⟨A, 0, none⟩ = false := r_frozen CH.out 0
            go_wp2
            go_loop [5, 59] (fun u i => ∃ j : Nat, j ≤ K ∧ i = .int .i64 j ∧ u = .int .u64 (Cod.fold f0 (t.take j) : Nat)) (fun _ i => K - (intOf i).toNat)
            case atStart => exact ⟨0, Nat.zero_le _, rfl, by first | rfl | (show Value.int .u64 0 = Value.int .u64 ((f0 : Nat) : Int); rw [e0.out]; rfl)⟩
            case round =>
              obtain ⟨j, hj, rfl, rfl⟩ := hrel
              by_cases hjk : j < K
              · have hjt : j < t.length := by have := KT.out; omega
                have hc := CC.out j hjt
                have ca := CA.out
                have hst := Cod.fold_take f0 t j hjt
                have hub := (FS.out j hj).2 hjk
                have HST := Lib.hid hst
                clear hst
                have hjk' : (j : Int) < K := by omega
                have hjt' : (j : Int) + 1 < (t.length : Int) + 1 := by omega
                generalize t.getD j 0 = d at hc HST
                generalize Cod.fold f0 (t.take j) = u at hub HST ⊢
                have hdb := d.toNat_lt
                have hub2 : u * 256 + d.toNat < 18446744073709551616 := by omega
                go_wp2
                go_round
                case rel => exact ⟨j + 1, by omega, by go_num, by rw [HST.out]; go_num⟩
                case measure => simp [intOf]; omega
              · obtain rfl : j = K := by omega
                have hx := (FS.out j (Nat.le_refl _)).1
                have hjk' : ¬ (j : Int) < j := by omega
                generalize hxx : Cod.fold f0 (t.take j) = x at hx NX ⊢
                clear hxx
                have BY := Lib.hid (refBytes_any x hx wz)
                go_wp2_with fail
                refine BY.out.mono ?_
                intro e w3 hr3
                obtain ⟨q, d, rfl, hg3, hb3⟩ := hr3.given
                have B3 := Lib.hid hb3
                have hel := Cod.enc_length x
                rw [hel]
                clear hr3 hg3 hb3 BY hel
                have R3 := Lib.hid (RZ.out.below B3.out)
                have G3 : Hid (w.grownBy w3 (some A)) := ⟨B3.out.os.trans GZ.out.os, B3.out.tape.trans GZ.out.tape, B3.out.output.trans GZ.out.output, Nat.le_trans GZ.out.size B3.out.size, fun i hi hne => (B3.out.block i (Nat.lt_of_lt_of_le hi GZ.out.size)).trans (GZ.out.block i hi hne)⟩
                have hA3 : A < wz.heap.size := (Array.getElem?_eq_some_iff.1 CH.out).1
                have C3 : Hid (w3.heap[A]? = some (rObj (.slice (some ⟨b0, o0, none⟩) (t.length + 1) c) 0)) := (B3.out.block A hA3).trans CH.out
                have ca3 := (r_cells C3.out).1
                have f3 := r_frozen C3.out 0
                have CE : Hid (Cells w3 b0 o0 (b :: t)) := by
                  intro i hi
                  have h0 := CS.out i hi
                  have hlt := World.block_lt_of_cell? w _ h0
                  rw [B3.out.cell (p := ⟨b0, o0 + i, none⟩) (Nat.lt_of_lt_of_le hlt BZ.out.size)]
                  unfold World.cell? at h0 ⊢
                  rw [PZ.out]
                  exact h0
                clear CC CA fz hA3
                by_cases hbh : Cod.bh x = j
                · rw [if_pos hbh] at NX
                  rw [hbh]
                  have hjt := KT.out
                  have LO := Lib.hid hlo; have LA := Lib.hid hbA
                  have hcut : (j : Int) + 1 ≤ (t.length : Int) + 1 := by omega
                  have CUT : ∀ (b' o' c' m : Nat), m = (t.drop j).length → Cells w3 b' o' (t.drop j) → (t.drop j).length ≤ c' → b' = b0 → GotR w A lo (.int .u64 x) (t.drop j, 0) (.returned (.int .u64 x)) (w3.setCell ⟨A, 0, none⟩ (.slice (some ⟨b', o', none⟩) m c')) := fun b' o' c' m h1 h2 h3 h4 => by
                    subst h4
                    refine ⟨rfl, ?_, ?_⟩
                    · have := rrd_cut (n := j + 1) (l := b :: t) (lo := lo) (b' := b') (o' := o') (c' := c') (m := m) C3.out (by rw [h1]; rfl) h2 h3 LO.out LA.out
                      exact this
                    · exact grown_trans G3.out (grown_set w3 A _)
                  have CU := Lib.hid CUT
                  clear CUT hbh hlo hbA
                  go_wp2
                  all_goals
                    go_ret
                    rw [NX.out]
                    refine CU.out _ _ _ _ (by first | (simp; done) | (simp; omega)) ?_ (by first | (simp; done) | (simp; omega)) rfl
                    intro i hi
                    simp only [List.length_drop] at hi
                    first
                    | (have h9 := CE.out (j + 1 + i) (by simp; omega)
                       have e1 : (b :: t).getD (j + 1 + i) 0 = (t.drop j).getD i 0 := by (rw [show j + 1 + i = (j + i) + 1 by omega]; simp [List.getD])
                       rw [e1] at h9
                       rw [← h9]
                       congr 2
                       omega)
                    | omega
                · rw [if_neg hbh] at NX
                  have hbh' : ¬ ((Cod.bh x : Nat) : Int) = (j : Int) := by omega
                  have F := Lib.hid (refFail_any A lo 3 _ w3 R3.out (by omega))
                  rw [Cod.failS_zero] at F
                  clear hbh
                  generalize Cod.bh x = q0 at hbh' ⊢
                  have hq : ¬ ((q0 + 1 : Nat) : Int) = (j : Int) + 1 := by omega
                  go_wp2_with fail
                  refine F.out.mono ?_
                  rintro e w4 ⟨rfl, h4, g4⟩
                  have H4 := Lib.hid h4; have G4 := Lib.hid (grown_trans G3.out g4)
                  clear h4 g4 F
                  go_wp2
                  go_ret
                  rw [NX.out]
                  exact ⟨rfl, H4.out, G4.out⟩
          · have hK8' : ¬ (K : Int) < 8 := by omega
            have hf := FT.out.2.2 (by omega)
            have BZ := BW; have PZ := HP
            have e0 : Hid (f0 = 0) := hf
            clear hkt ca0 cbw hf
            go_wp2_with fail
            have CA : Hid (wr.cell? ⟨A, 0, none⟩ = some (.slice (some ⟨b0, o0, none⟩) (t.length + 1) c)) := by show wr.cell? _ = _; unfold World.cell?; rw [PZ.out]; exact c0
            have CC : Hid (∀ i, i < t.length → wr.cell? ⟨b0, o0 + (i + 1), none⟩ = some (.int .u8 ((t.getD i 0).toNat : Int))) := fun i hi => by
              have := CS.out (i + 1) (by simp; omega)
              unfold World.cell? at this ⊢
              rw [PZ.out]
              simpa using this
            have RZ := Lib.hid (RR.out.below BZ.out)
            have GZ : Hid (w.grownBy wr (some A)) := ⟨BZ.out.os, BZ.out.tape, BZ.out.output, BZ.out.size, fun i hi _ => BZ.out.block i hi⟩
            have CH : Hid (wr.heap[A]? = some (rObj (.slice (some ⟨b0, o0, none⟩) (t.length + 1) c) 0)) := by show wr.heap[A]? = _; rw [PZ.out]; exact H1.out
            have fz : wr.frozen? ⟨A, 0, none⟩ = false := r_frozen CH.out 0
            go_wp2
            go_loop [5, 59] (fun u i => ∃ j : Nat, j ≤ K ∧ i = .int .i64 j ∧ u = .int .u64 (Cod.fold f0 (t.take j) : Nat)) (fun _ i => K - (intOf i).toNat)
            case atStart => exact ⟨0, Nat.zero_le _, rfl, by first | rfl | (show Value.int .u64 0 = Value.int .u64 ((f0 : Nat) : Int); rw [e0.out]; rfl)⟩
            case round =>
              obtain ⟨j, hj, rfl, rfl⟩ := hrel
              by_cases hjk : j < K
              · have hjt : j < t.length := by have := KT.out; omega
                have hc := CC.out j hjt
                have ca := CA.out
                have hst := Cod.fold_take f0 t j hjt
                have hub := (FS.out j hj).2 hjk
                have HST := Lib.hid hst
                clear hst
                have hjk' : (j : Int) < K := by omega
                have hjt' : (j : Int) + 1 < (t.length : Int) + 1 := by omega
                generalize t.getD j 0 = d at hc HST
                generalize Cod.fold f0 (t.take j) = u at hub HST ⊢
                have hdb := d.toNat_lt
                have hub2 : u * 256 + d.toNat < 18446744073709551616 := by omega
                go_wp2
                go_round
                case rel => exact ⟨j + 1, by omega, by go_num, by rw [HST.out]; go_num⟩
                case measure => simp [intOf]; omega
              · obtain rfl : j = K := by omega
                have hx := (FS.out j (Nat.le_refl _)).1
                have hjk' : ¬ (j : Int) < j := by omega
                generalize hxx : Cod.fold f0 (t.take j) = x at hx NX ⊢
                clear hxx
                have BY := Lib.hid (refBytes_any x hx wr)
                go_wp2_with fail
                refine BY.out.mono ?_
                intro e w3 hr3
                obtain ⟨q, d, rfl, hg3, hb3⟩ := hr3.given
                have B3 := Lib.hid hb3
                have hel := Cod.enc_length x
                rw [hel]
                clear hr3 hg3 hb3 BY hel
                have R3 := Lib.hid (RZ.out.below B3.out)
                have G3 : Hid (w.grownBy w3 (some A)) := ⟨B3.out.os.trans GZ.out.os, B3.out.tape.trans GZ.out.tape, B3.out.output.trans GZ.out.output, Nat.le_trans GZ.out.size B3.out.size, fun i hi hne => (B3.out.block i (Nat.lt_of_lt_of_le hi GZ.out.size)).trans (GZ.out.block i hi hne)⟩
                have hA3 : A < wr.heap.size := (Array.getElem?_eq_some_iff.1 CH.out).1
                have C3 : Hid (w3.heap[A]? = some (rObj (.slice (some ⟨b0, o0, none⟩) (t.length + 1) c) 0)) := (B3.out.block A hA3).trans CH.out
                have ca3 := (r_cells C3.out).1
                have f3 := r_frozen C3.out 0
                have CE : Hid (Cells w3 b0 o0 (b :: t)) := by
                  intro i hi
                  have h0 := CS.out i hi
                  have hlt := World.block_lt_of_cell? w _ h0
                  rw [B3.out.cell (p := ⟨b0, o0 + i, none⟩) (Nat.lt_of_lt_of_le hlt BZ.out.size)]
                  unfold World.cell? at h0 ⊢
                  rw [PZ.out]
                  exact h0
                clear CC CA fz hA3
                by_cases hbh : Cod.bh x = j
                · rw [if_pos hbh] at NX
                  rw [hbh]
                  have hjt := KT.out
                  have LO := Lib.hid hlo; have LA := Lib.hid hbA
                  have hcut : (j : Int) + 1 ≤ (t.length : Int) + 1 := by omega
                  have CUT : ∀ (b' o' c' m : Nat), m = (t.drop j).length → Cells w3 b' o' (t.drop j) → (t.drop j).length ≤ c' → b' = b0 → GotR w A lo (.int .u64 x) (t.drop j, 0) (.returned (.int .u64 x)) (w3.setCell ⟨A, 0, none⟩ (.slice (some ⟨b', o', none⟩) m c')) := fun b' o' c' m h1 h2 h3 h4 => by
                    subst h4
                    refine ⟨rfl, ?_, ?_⟩
                    · have := rrd_cut (n := j + 1) (l := b :: t) (lo := lo) (b' := b') (o' := o') (c' := c') (m := m) C3.out (by rw [h1]; rfl) h2 h3 LO.out LA.out
                      exact this
                    · exact grown_trans G3.out (grown_set w3 A _)
                  have CU := Lib.hid CUT
                  clear CUT hbh hlo hbA
                  go_wp2
                  all_goals
                    go_ret
                    rw [NX.out]
                    refine CU.out _ _ _ _ (by first | (simp; done) | (simp; omega)) ?_ (by first | (simp; done) | (simp; omega)) rfl
                    intro i hi
                    simp only [List.length_drop] at hi
                    first
                    | (have h9 := CE.out (j + 1 + i) (by simp; omega)
                       have e1 : (b :: t).getD (j + 1 + i) 0 = (t.drop j).getD i 0 := by (rw [show j + 1 + i = (j + i) + 1 by omega]; simp [List.getD])
                       rw [e1] at h9
                       rw [← h9]
                       congr 2
                       omega)
                    | omega
                · rw [if_neg hbh] at NX
                  have hbh' : ¬ ((Cod.bh x : Nat) : Int) = (j : Int) := by omega
                  have F := Lib.hid (refFail_any A lo 3 _ w3 R3.out (by omega))
                  rw [Cod.failS_zero] at F
                  clear hbh
                  generalize Cod.bh x = q0 at hbh' ⊢
                  have hq : ¬ ((q0 + 1 : Nat) : Int) = (j : Int) + 1 := by omega
                  go_wp2_with fail
                  refine F.out.mono ?_
                  rintro e w4 ⟨rfl, h4, g4⟩
                  have H4 := Lib.hid h4; have G4 := Lib.hid (grown_trans G3.out g4)
                  clear h4 g4 F
                  go_wp2
                  go_ret
                  rw [NX.out]
                  exact ⟨rfl, H4.out, G4.out⟩
end Go.Proofs.YtapmbankpbiglaaGreatDoor
/- The document's reader of any bytes: Num. -/
namespace Go.Proofs.YtapmbankpbiglaaGreatDoor
open Go Go.RowKit
set_option linter.unusedVariables false

theorem RRd.err {w : World} {A lo : Nat} {s : Cod.S} (h : RRd w A lo s) : w.cell? ⟨A, 1, none⟩ = some (.int .i64 (s.2 : Int)) := by
  obtain ⟨p, c, h1, _⟩ := h
  exact (r_cells h1).2
set_option maxHeartbeats 1000000 in
set_option maxRecDepth 100000 in
theorem refNum_all (A lo : Nat) (most : Int) (s : Cod.S) (w : World) (h : RRd w A lo s) (hl : s.1.length ≤ 140737488355328) (hm : -9223372036854775808 ≤ most ∧ most ≤ 9223372036854775807) :
    Calls Tryz.prog 17 #[.pointer (some ⟨A, 0, none⟩), .int .i64 most] w (GotR w A lo (.int .i64 (Cod.numS most s).1) (Cod.numS most s).2) := by
  have N := Lib.hid (refNumber_all A lo s w h hl)
  have hx := Cod.anyS_lt s
  have hz := fun e => Cod.anyS_zero (s := s) e
  unfold Cod.numS
  generalize Cod.anyS s = r at N hx hz ⊢
  obtain ⟨x, t⟩ := r
  simp only at N hx hz ⊢
  obtain ⟨m1, m2⟩ := hm
  clear h hl
  by_cases hbig : 9223372036854775808 ≤ x
  · rw [if_pos (.inl hbig)]
    have hq : (x : Int) ≥ 9223372036854775808 := by omega
    clear hbig
    go_enter Tryz.func17, Tryz.ntmps17
    go_wp2_with fail
    refine N.out.mono ?_
    rintro e w1 ⟨rfl, h1, g1⟩
    have F := Lib.hid (refFail_any A lo 5 t w1 h1 (by omega))
    have G1 := Lib.hid g1
    clear h1 g1 N
    go_wp2_with fail
    refine F.out.mono ?_
    rintro e w2 ⟨rfl, h2, g2⟩
    have H2 := Lib.hid h2; have G2 := Lib.hid (grown_trans G1.out g2)
    clear h2 g2 F
    go_wp2
    go_ret
    exact ⟨rfl, H2.out, G2.out⟩
  · have hq : ¬ (x : Int) ≥ 9223372036854775808 := by omega
    by_cases hgt : most < (x : Int)
    · rw [if_pos (.inr hgt)]
      have hgt' : (x : Int) > most := hgt
      clear hbig
      by_cases he : t.2 = 0
      · have hf : Cod.failS 5 t = ([], 5) := if_pos he
        go_enter Tryz.func17, Tryz.ntmps17
        go_wp2_with fail
        refine N.out.mono ?_
        rintro e w1 ⟨rfl, h1, g1⟩
        have F := Lib.hid (refFail_any A lo 5 t w1 h1 (by omega))
        have G1 := Lib.hid g1
        have c1 := h1.err
        rw [he] at c1
        clear h1 g1 N he hf
        go_wp2_with fail
        refine F.out.mono ?_
        rintro e w2 ⟨rfl, h2, g2⟩
        have H2 := Lib.hid h2; have G2 := Lib.hid (grown_trans G1.out g2)
        clear h2 g2 F
        go_wp2
        go_ret
        exact ⟨rfl, H2.out, G2.out⟩
      · have hx0 := hz he
        subst hx0
        have hf : Cod.failS 5 t = t := if_neg he
        rw [hf]
        have he' : ¬ (t.2 : Int) = 0 := by omega
        clear he hf hgt hgt' hq hx hz
        go_enter Tryz.func17, Tryz.ntmps17
        go_wp2_with fail
        refine N.out.mono ?_
        rintro e w1 ⟨rfl, h1, g1⟩
        have H1 := Lib.hid h1
        have G1 := Lib.hid g1
        have c1 := h1.err
        generalize (t.2 : Int) = ee at c1 he'
        clear h1 g1 N
        go_wp2
        go_ret
        exact ⟨rfl, H1.out, G1.out⟩
    · rw [if_neg (by omega)]
      have hgt' : ¬ (x : Int) > most := hgt
      by_cases he : t.2 = 0
      · go_enter Tryz.func17, Tryz.ntmps17
        go_wp2_with fail
        refine N.out.mono ?_
        rintro e w1 ⟨rfl, h1, g1⟩
        have H1 := Lib.hid h1; have G1 := Lib.hid g1
        have c1 := h1.err
        rw [he] at c1
        have hge : ((x : Int) ≥ 9223372036854775808) = False := by simp; omega
        have hgd : decide ((x : Int) ≥ 9223372036854775808) = false := by simp; omega
        have hq2 : (x : Int) / 9223372036854775808 = 0 := by omega
        clear h1 g1 N he hq hx hz
        go_wp2
        go_ret
        exact ⟨rfl, H1.out, G1.out⟩
      · have hx0 := hz he
        subst hx0
        have he' : ¬ (t.2 : Int) = 0 := by omega
        clear he hgt hgt' hq hx hz
        go_enter Tryz.func17, Tryz.ntmps17
        go_wp2_with fail
        refine N.out.mono ?_
        rintro e w1 ⟨rfl, h1, g1⟩
        have H1 := Lib.hid h1; have G1 := Lib.hid g1
        have c1 := h1.err
        generalize (t.2 : Int) = ee at c1 he'
        clear h1 g1 N
        go_wp2
        go_ret
        exact ⟨rfl, H1.out, G1.out⟩
/-- what reading numbers that rise comes to, of the document's -/
def GotRiseR (w : World) (A lo : Nat) (r : Option (List Int) × Cod.S) (e : Ending) (w' : World) : Prop :=
  ∃ v, e = .returned v ∧ w'.ownsRow w.heap.size 3 1 v (r.1.getD []).length (ints (r.1.getD [])) ∧ RRd w' A lo r.2 ∧ w.grownBy w' (some A)

set_option maxHeartbeats 4000000 in
set_option maxRecDepth 100000 in
theorem refRising_all (A lo : Nat) (many top : Int) (s : Cod.S) (w : World) (h : RRd w A lo s) (hl : s.1.length ≤ 140737488355328) (hm : 0 ≤ many ∧ many ≤ 100000) (ht : -1 ≤ top ∧ top ≤ 9223372036854775807) :
    Calls Tryz.prog 41 #[.pointer (some ⟨A, 0, none⟩), .int .i64 many, .int .i64 top] w (GotRiseR w A lo (Cod.riseAll many top s)) := by
  have hBw := h.lt
  have N1 := Lib.hid (refNum_all A lo many s w h hl (by omega))
  have hn := numS_small (s := s) hm.1
  obtain ⟨R, hR⟩ : ∃ R, R = Cod.riseAll many top s := ⟨_, rfl⟩
  rw [← hR]
  have HR : Hid (Cod.riseS top (Cod.numS many s).1 (-1) [] (Cod.numS many s).2 = R) := by show Cod.riseS _ _ _ _ _ = R; rw [hR]; rfl
  have hlen := Cod.numS_len many s
  generalize Cod.numS many s = q at N1 hn HR hlen
  obtain ⟨n, s1⟩ := q
  simp only at N1 hn HR hlen
  have HL : Hid (s1.1.length ≤ 140737488355328) := Nat.le_trans hlen hl
  obtain ⟨hm1, hm2⟩ := hm
  obtain ⟨ht1, ht2⟩ := ht
  have hn5 : n ≤ 100000 := by omega
  clear h hl hR hlen hn
  go_enter Tryz.func41, Tryz.ntmps41
  go_wp2_with fail
  refine N1.out.mono ?_
  rintro e w1 ⟨rfl, r1, g1⟩
  have R1 := Lib.hid r1; have G1 := Lib.hid g1
  clear r1 g1 N1
  go_wp2
  go_loopw [8, 16] (fun v i wr => ∃ (k : Nat) (acc : List Int) (st : Cod.S), k ≤ n ∧ i = .int .i64 k ∧ (-1 ≤ Cod.lastOf acc k ∧ (k ≠ 0 → 0 ≤ Cod.lastOf acc k)) ∧ Cod.lastOf acc k ≤ top ∧ acc.length = k ∧ Cod.riseS top (n - k) (Cod.lastOf acc k) acc st = R ∧ st.1.length ≤ 140737488355328 ∧ wr.ownsRow w.heap.size 3 1 v k (ints acc) ∧ RRd wr A lo st ∧ w.grownBy wr (some A)) (fun _ i _ => n - (intOf i).toNat)
  case atStart => exact ⟨0, [], s1, Nat.zero_le _, rfl, ⟨by decide, fun h => absurd rfl h⟩, ht1, rfl, by rw [Nat.sub_zero]; exact HR.out, HL.out, World.ownsRow_nil _ _ _ _, R1.out, G1.out⟩
  case round =>
    obtain ⟨k, acc, st, hk, rfl, ⟨hl1, hl0⟩, hl2, hacc, hrs, hst, hown, hrd, hgr⟩ := hrel
    have OW := Lib.hid hown; have RD := Lib.hid hrd; have GR := Lib.hid hgr; have RS := Lib.hid hrs; have AC := Lib.hid hacc; have ST := Lib.hid hst
    clear hgr hrs hst hrd
    by_cases hkn : k < n
    · obtain ⟨last, hlast⟩ : ∃ last, last = Cod.lastOf acc k := ⟨_, rfl⟩
      rw [← hlast] at hl1 hl2 hl0
      have hrs := RS.out
      rw [← hlast] at hrs
      have NU := Lib.hid (refNum_all A lo (top - 1 - last) st _ RD.out ST.out (by omega))
      have NU0 : Hid (k = 0 → top - 1 - last = top) := fun e => by subst e; rw [hlast]; unfold Cod.lastOf; rw [if_pos rfl]; omega
      rw [show n - k = (n - (k + 1)) + 1 by omega] at hrs
      have hrs : (if (Cod.numS (top - 1 - last) st).2.2 = 0 then Cod.riseS top (n - (k + 1)) (last + 1 + (Cod.numS (top - 1 - last) st).1) (acc ++ [last + 1 + ((Cod.numS (top - 1 - last) st).1 : Int)]) (Cod.numS (top - 1 - last) st).2 else (none, (Cod.numS (top - 1 - last) st).2)) = R := hrs
      have hle := fun e => Cod.numS_le (s := st) (most := top - 1 - last) e
      have hln := Cod.numS_len (top - 1 - last) st
      generalize Cod.numS (top - 1 - last) st = q at NU hrs hle hln
      obtain ⟨d, s2⟩ := q
      simp only at NU hrs hle hln
      have hln2 : Hid (s2.1.length ≤ 140737488355328) := Nat.le_trans hln ST.out
      have hkn' : (k : Int) < n := by omega
      have LA : ∀ x : Int, Hid (Cod.lastOf (acc ++ [x]) (k + 1) = x) := fun x => by
        show Cod.lastOf (acc ++ [x]) (k + 1) = x
        unfold Cod.lastOf
        rw [if_neg (by omega), ← hacc]
        simp [List.getD]
      clear hln
      by_cases hk0 : k = 0
      · subst hk0
        have h00 := NU0.out rfl
        rw [h00] at NU
        have hl00 : last = -1 := by rw [hlast]; rfl
        subst hl00
        clear hlast h00 hl1 hl2 hl0 hown
        by_cases he : s2.2 = 0
        · rw [if_pos he] at hrs
          obtain ⟨hd1, hd2⟩ := hle he
          have HS := Lib.hid hrs
          have HE := Lib.hid he
          clear hle hrs he RS
          go_wp2_with fail
          refine NU.out.mono ?_
          rintro e w2 ⟨rfl, r2, g2⟩
          have c1 := r2.err
          rw [HE.out] at c1
          have R2 := Lib.hid r2; have G2 := Lib.hid (grown_trans GR.out g2); have O2 := Lib.hid (ownI_stays OW.out g2 hBw)
          clear r2 g2 NU OW RD GR
          have hsz := G2.out.size
          go_wp2_with (at_builtin; refine wpList_int isI64 _ rfl _ _ rfl w.heap.size 0 acc _ rfl O2.out _ rfl (by omega) hsz ?_)
          intro v3 w3 own3 b3
          have O3 := Lib.hid own3; have B3 := Lib.hid b3
          have ed : (-1 : Int) + 1 + (d : Int) = d := by omega
          have HS2 := HS.out
          rw [ed] at HS2
          have HS3 := Lib.hid HS2
          clear own3 b3 c1 HS2 HS
          go_wp2
          go_roundw
          case rel => exact ⟨0 + 1, acc ++ [(d : Int)], s2, by omega, by go_num, ⟨by (rw [(LA _).out]; omega), fun _ => by (rw [(LA _).out]; omega)⟩, by (rw [(LA _).out]; omega), by rw [List.length_append, AC.out]; rfl, by (rw [(LA _).out]; exact HS3.out), hln2.out, O3.out, R2.out.under hBw B3.out, grown_carry G2.out B3.out⟩
          case measure => simp [intOf]; omega
        · rw [if_neg he] at hrs
          have he' : ¬ (s2.2 : Int) = 0 := by omega
          subst hrs
          clear hle he RS HR
          go_wp2_with fail
          refine NU.out.mono ?_
          rintro e w2 ⟨rfl, r2, g2⟩
          have c1 := r2.err
          have R2 := Lib.hid r2; have G2 := Lib.hid (grown_trans GR.out g2)
          generalize (s2.2 : Int) = ee at c1 he'
          clear r2 g2 NU OW RD GR
          go_wp2
          go_ret
          exact ⟨_, rfl, World.ownsRow_nil _ _ _ _, R2.out, G2.out⟩
      · have hkpos : (k : Int) > 0 := by omega
        have hl9 := hl0 hk0
        clear hl0
        obtain ⟨hkq, q, d0, rfl, _, hli, _⟩ := own_liesI hown
        clear hkq
        obtain ⟨b1, o1, rfl, _, hcs⟩ := hli.at (by rw [hacc]; omega)
        have hck := hcs (k - 1) (by rw [hacc]; omega)
        have hlk : acc.getD (k - 1) 0 = last := by rw [hlast]; unfold Cod.lastOf; rw [if_neg hk0]
        rw [hlk] at hck
        rw [show top - 1 - last = top - last - 1 by omega] at NU hle
        rw [hacc] at hown ⊢
        have OW := Lib.hid hown
        have hki : (k : Int) - 1 < (k : Int) := by omega
        have hki0 : (0 : Int) ≤ (k : Int) - 1 := by omega
        have hkt : ((k : Int) - 1).toNat = k - 1 := by omega
        have HAC := Lib.hid hacc
        clear hcs hli hown hlast hacc
        by_cases he : s2.2 = 0
        · rw [if_pos he] at hrs
          obtain ⟨hd1, hd2⟩ := hle he
          have HS := Lib.hid hrs
          have HE := Lib.hid he
          have LK := Lib.hid hlk
          clear hle hrs he RS hlk
          go_wp2_with fail
          refine NU.out.mono ?_
          rintro e w2 ⟨rfl, r2, g2⟩
          have c1 := r2.err
          rw [HE.out] at c1
          have R2 := Lib.hid r2; have G2 := Lib.hid (grown_trans GR.out g2); have O2 := Lib.hid (ownI_stays OW.out g2 hBw)
          obtain ⟨hkq, q2, d2, hv2, _, hli2, _⟩ := own_liesI O2.out
          clear hkq
          simp only [Value.slice.injEq] at hv2
          have hq2 := hv2.1
          clear hv2
          subst hq2
          obtain ⟨b3, o3, hb3, _, hcs2⟩ := hli2.at (by have := HAC.out; omega)
          simp only [Option.some.injEq, Addr.mk.injEq] at hb3
          obtain ⟨rfl, rfl, _⟩ := hb3
          have hck2 := hcs2 (k - 1) (by have := HAC.out; omega)
          rw [LK.out] at hck2
          clear r2 g2 NU OW RD GR hck hli2 hcs2
          have hsz := G2.out.size
          have hl1' : (-9223372036854775808 : Int) ≤ last + 1 + d := by omega
          have hl2' : last + 1 + (d : Int) ≤ 9223372036854775807 := by omega
          go_wp2_with (at_builtin; refine wpList_int isI64 _ rfl _ _ rfl w.heap.size k acc _ rfl O2.out _ rfl (by omega) hsz ?_)
          intro v3 w3 own3 b3
          have O3 := Lib.hid own3; have B3 := Lib.hid b3
          clear own3 b3 c1 hck2
          go_wp2
          go_roundw
          case rel => exact ⟨k + 1, acc ++ [last + 1 + (d : Int)], s2, by omega, by go_num, ⟨by (rw [(LA _).out]; omega), fun _ => by (rw [(LA _).out]; omega)⟩, by (rw [(LA _).out]; omega), by rw [List.length_append, AC.out]; rfl, by (rw [(LA _).out]; exact HS.out), hln2.out, O3.out, R2.out.under hBw B3.out, grown_carry G2.out B3.out⟩
          case measure => simp [intOf]; omega
        · rw [if_neg he] at hrs
          have he' : ¬ (s2.2 : Int) = 0 := by omega
          subst hrs
          clear hle he RS HR hlk
          go_wp2_with fail
          refine NU.out.mono ?_
          rintro e w2 ⟨rfl, r2, g2⟩
          have c1 := r2.err
          have R2 := Lib.hid r2; have G2 := Lib.hid (grown_trans GR.out g2)
          generalize (s2.2 : Int) = ee at c1 he'
          clear r2 g2 NU OW RD GR
          go_wp2
          go_ret
          exact ⟨_, rfl, World.ownsRow_nil _ _ _ _, R2.out, G2.out⟩
    · obtain rfl : k = n := by omega
      have hkn' : ¬ (k : Int) < k := by omega
      have hrs := RS.out
      rw [Nat.sub_self] at hrs
      have HS : Hid ((some acc, st) = R) := hrs
      clear hrs RS HR hl1 hl2 hl0 hown
      go_wp2
      go_ret
      rw [← HS.out]
      refine ⟨_, rfl, ?_, RD.out, GR.out⟩
      have := OW.out
      rw [← AC.out] at this
      exact this
end Go.Proofs.YtapmbankpbiglaaGreatDoor
/- A text of any bytes, as the document reads it. -/
namespace Go.Proofs.YtapmbankpbiglaaGreatDoor
open Go Go.RowKit
set_option linter.unusedVariables false
set_option maxRecDepth 1000000

theorem rrd_cutE {w : World} {A lo b o c n b' o' c' m e : Nat} {l : List UInt8} (h : w.heap[A]? = some (rObj (.slice (some ⟨b, o, none⟩) l.length c) e)) (hok : Cod.Ok (l, e)) (hm : m = (l.drop n).length) (hc : Cells w b' o' (l.drop n)) (hle : (l.drop n).length ≤ c') (h1 : lo ≤ b') (h2 : b' < A) :
    RRd (w.setCell ⟨A, 0, none⟩ (.slice (some ⟨b', o', none⟩) m c')) A lo (l.drop n, e) := by
  subst hm
  refine ⟨_, c', r_set _ h, hle, fun he => ?_, .inr ⟨b', o', rfl, fun i hi => ?_, h1, h2⟩⟩
  · have := hok he
    simp only at this ⊢
    rw [this]; simp
  · rw [World.cell?_of_block (w := w) (Below.heap_setCell w ⟨A, 0, none⟩ _ b' (by show b' ≠ A; omega))]
    exact hc i hi
set_option maxHeartbeats 2000000 in
theorem refText_all (A lo : Nat) (most : Int) (s : Cod.S) (w : World) (h : RRd w A lo s) (hl : s.1.length ≤ 1000000) (hm : 0 ≤ most ∧ most ≤ 1000000) :
    Calls Tryz.prog 44 #[.pointer (some ⟨A, 0, none⟩), .int .i64 most] w (GotR w A lo (.string (Cod.textS most s).1) (Cod.textS most s).2) := by
  have N := Lib.hid (refNum_all A lo most s w h (by omega) (by omega))
  have hsm := numS_small (s := s) hm.1
  have hle := Cod.numS_len most s
  unfold Cod.textS
  generalize Cod.numS most s = r at N hsm hle ⊢
  obtain ⟨n, l, e⟩ := r
  simp only at N hsm hle ⊢
  clear h
  by_cases hn : n ≤ l.length
  · rw [if_pos hn]
    have HN := Lib.hid hn
    have hn' : ¬ (n : Int) > l.length := by omega
    clear hn
    go_enter Tryz.func44, Tryz.ntmps44
    go_wp2_with fail
    refine N.out.mono ?_
    rintro e9 w1 ⟨rfl, h1, g1⟩
    have G1 := Lib.hid g1
    obtain ⟨p, c, hh, hc0, hok, hp⟩ := h1
    simp only at hh hc0 hp
    obtain ⟨c0, c1⟩ := r_cells hh
    have f0 := r_frozen hh 0
    have HH := Lib.hid hh; have OK := Lib.hid hok
    clear N g1 hh hok
    rcases hp with ⟨rfl, rfl⟩ | ⟨b, o, rfl, hc, hlo, hbA⟩
    · obtain rfl : n = 0 := by have := HN.out; simpa using this
      have hcv := (Lies.nil w1 none).convert (P := Tryz.prog) 0 rfl c 22 5 9 Tryz.underlying22 Tryz.underlying5 Tryz.underlying9
      simp only [List.length_nil] at c0
      go_wp2
      go_ret
      refine ⟨rfl, ⟨none, c, ?_, Nat.zero_le _, OK.out, .inl ⟨rfl, rfl⟩⟩, grown_trans G1.out (grown_set _ _ _)⟩
      exact r_set _ HH.out
    · have hnl : (l.take n).length = n := by rw [List.length_take]; have := HN.out; omega
      have hct : Cells w1 b o (l.take n) := fun i hi => by
        rw [hnl] at hi
        rw [hc i (by have := HN.out; omega)]
        simp [List.getD, List.getElem?_take, hi]
      have hcv := hct.lies.convert (P := Tryz.prog) n hnl.symm c 22 5 9 Tryz.underlying22 Tryz.underlying5 Tryz.underlying9
      have HC := Lib.hid hc; have HL := Lib.hid hlo; have HB := Lib.hid hbA
      clear hc hlo hbA hct hnl
      go_wp2
      · rename_i hcn
        go_ret
        refine ⟨rfl, rrd_cutE HH.out OK.out (by simp) ?_ ?_ HL.out HB.out, grown_trans G1.out (grown_set _ _ _)⟩
        · intro i hi; simp at hi; omega
        · simp; omega
      · go_ret
        refine ⟨rfl, rrd_cutE HH.out OK.out (by simp) ?_ ?_ HL.out HB.out, grown_trans G1.out (grown_set _ _ _)⟩
        · intro i hi
          simp only [List.length_drop] at hi
          rw [Nat.add_assoc, HC.out (n + i) (by omega)]
          simp [List.getD]
        · simp; omega
  · rw [if_neg hn]
    have hn' : (n : Int) > l.length := by omega
    clear hn
    go_enter Tryz.func44, Tryz.ntmps44
    go_wp2_with fail
    refine N.out.mono ?_
    rintro e9 w1 ⟨rfl, h1, g1⟩
    have G1 := Lib.hid g1
    have F := Lib.hid (refFail_any A lo 4 (l, e) w1 h1 (by omega))
    obtain ⟨p, c, hh, hc0, hok, hp⟩ := h1
    obtain ⟨c0, c1⟩ := r_cells hh
    simp only at c0
    clear N g1 hh hok hp
    go_wp2_with fail
    refine F.out.mono ?_
    rintro e8 w2 ⟨rfl, h2, g2⟩
    have H2 := Lib.hid h2; have G2 := Lib.hid (grown_trans G1.out g2)
    clear h2 g2 F c0 c1
    go_wp2
    go_ret
    exact ⟨rfl, H2.out, G2.out⟩
end Go.Proofs.YtapmbankpbiglaaGreatDoor
