/- The document's reader of any bytes: Fail, any, Num. -/
import Derived.Test.YtkkepfbckpmbhaaRefAny0
namespace Go.Proofs.Ytkkepfbckpmbhaa
open Go Go.RowKit
set_option linter.unusedVariables false

theorem sizeU8 (w : World) : (sizeOf (Try.prog.elem 37)).run Try.prog w = .ok 1 w := by kernel_rfl
def rObj (v : Value) (e : Nat) : Obj := .cells #[v, .int .i64 (e : Int)] 44 (0, 0)
/-- the document's reader at A; its bytes lie between lo and it -/
def RRd (w : World) (A lo : Nat) (s : Cod.S) : Prop :=
  ∃ p c, w.heap[A]? = some (rObj (.slice p s.1.length c) s.2) ∧ s.1.length ≤ c ∧ Cod.Ok s ∧ (p = none ∧ s.1 = [] ∨ ∃ b o, p = some ⟨b, o, none⟩ ∧ Cells w b o s.1 ∧ lo ≤ b ∧ b < A)
theorem RRd.lt {w : World} {A lo : Nat} {s : Cod.S} (h : RRd w A lo s) : A < w.heap.size := by
  obtain ⟨p, c, h, _⟩ := h
  exact (Array.getElem?_eq_some_iff.1 h).1
theorem r_cells {w : World} {A e : Nat} {v : Value} (h : w.heap[A]? = some (rObj v e)) : w.cell? ⟨A, 0, none⟩ = some v ∧ w.cell? ⟨A, 1, none⟩ = some (.int .i64 (e : Int)) := by
  unfold rObj at h
  exact ⟨by rw [cell_of_row w A 0 _ _ _ h]; rfl, by rw [cell_of_row w A 1 _ _ _ h]; rfl⟩
theorem r_frozen {w : World} {A e : Nat} {v : Value} (h : w.heap[A]? = some (rObj v e)) (i : Nat) : w.frozen? ⟨A, i, none⟩ = false := by
  unfold rObj at h; exact frozen_of_row w A i _ _ h
/-- whatever turns but the reader and its bytes leaves it -/
theorem RRd.kept {w w' : World} {A lo : Nat} {s : Cod.S} (h : RRd w A lo s) (hA : w'.heap[A]? = w.heap[A]?) (hb : ∀ b, lo ≤ b → b < A → w'.heap[b]? = w.heap[b]?) : RRd w' A lo s := by
  obtain ⟨p, c, h1, h2, h3, h4⟩ := h
  refine ⟨p, c, hA.trans h1, h2, h3, ?_⟩
  rcases h4 with h4 | ⟨b, o, e, hc, h5, h6⟩
  · exact .inl h4
  · exact .inr ⟨b, o, e, fun i hi => by rw [World.cell?_of_block (w := w) (hb b h5 h6)]; exact hc i hi, h5, h6⟩
theorem RRd.below {w w' : World} {A lo : Nat} {s : Cod.S} (h : RRd w A lo s) (hb : Below w.heap.size w w') : RRd w' A lo s :=
  h.kept (hb.block A h.lt) (fun b _ h2 => hb.block b (by have := h.lt; omega))
theorem RRd.under {w w' : World} {A lo T : Nat} {s : Cod.S} (h : RRd w A lo s) (hT : A < T) (hb : Below T w w') : RRd w' A lo s :=
  h.kept (hb.block A hT) (fun b _ h2 => hb.block b (by omega))
theorem RRd.other {w w' : World} {A lo B : Nat} {s : Cod.S} (h : RRd w A lo s) (hg : w.grownBy w' (some B)) (hB : B < lo) (hlo : lo ≤ A) : RRd w' A lo s :=
  h.kept (hg.block A h.lt (fun e => by have := Option.some.inj e; omega)) (fun b h1 h2 => hg.block b (by have := h.lt; omega) (fun e => by have := Option.some.inj e; omega))
def GotR (w : World) (A lo : Nat) (v : Value) (s : Cod.S) (e : Ending) (w' : World) : Prop := e = .returned v ∧ RRd w' A lo s ∧ w.grownBy w' (some A)
theorem r_fail {w : World} {A e c : Nat} {v : Value} (h : w.heap[A]? = some (rObj v e)) : ((w.setCell ⟨A, 1, none⟩ (.int .i64 (c : Int))).setCell ⟨A, 0, none⟩ (.slice none 0 0)).heap[A]? = some (rObj (.slice none 0 0) c) := by
  unfold rObj at h ⊢
  have h1 := heap_setCell_same w A 1 _ _ (.int .i64 (c : Int)) h
  rw [heap_setCell_same _ A 0 _ _ (.slice none 0 0) h1]
  rfl
theorem r_set {w : World} {A e : Nat} {v : Value} (u : Value) (h : w.heap[A]? = some (rObj v e)) : (w.setCell ⟨A, 0, none⟩ u).heap[A]? = some (rObj u e) := by
  unfold rObj at h ⊢
  rw [heap_setCell_same w A 0 _ _ u h]
  rfl
set_option maxHeartbeats 1000000 in
theorem refFail_any (A lo c : Nat) (s : Cod.S) (w : World) (h : RRd w A lo s) (hc : 0 < c) :
    Calls Try.prog 76 #[.pointer (some ⟨A, 0, none⟩), .int .i64 (c : Int)] w (GotR w A lo (.tuple #[]) (Cod.failS c s)) := by
  obtain ⟨l, e⟩ := s
  have H := Lib.hid h
  obtain ⟨p, cc, h1, _⟩ := h
  obtain ⟨c0, c1⟩ := r_cells h1
  simp only at c0 c1 h1
  by_cases he : e = 0
  · subst he
    rw [Cod.failS_zero]
    have hc' : ¬ (c : Int) = 0 := by omega
    have F := Lib.hid (fail_grown w A c)
    have M := Lib.hid (r_fail (c := c) h1)
    have f0 := r_frozen h1 0
    have f1 := r_frozen h1 1
    clear h1
    go_enter Try.func76, Try.ntmps76
    go_wp2
    exact bodyPost_ret (results_none rfl _ _ _) rfl ⟨rfl, ⟨none, 0, M.out, Nat.le_refl _, fun _ => rfl, .inl ⟨rfl, rfl⟩⟩, F.out⟩
  · rw [show Cod.failS c (l, e) = (l, e) from if_neg he]
    have he' : ¬ (e : Int) = 0 := by omega
    clear h1
    go_enter Try.func76, Try.ntmps76
    go_wp2
    exact bodyPost_ret (results_none rfl _ _ _) rfl ⟨rfl, H.out, grownA_refl _ _⟩
/-- cut behind the first n -/
theorem rrd_cut {w : World} {A lo b o c n b' o' c' m : Nat} {l : List UInt8} (h : w.heap[A]? = some (rObj (.slice (some ⟨b, o, none⟩) l.length c) 0)) (hm : m = (l.drop n).length) (hc : Cells w b' o' (l.drop n)) (hle : (l.drop n).length ≤ c') (h1 : lo ≤ b') (h2 : b' < A) :
    RRd (w.setCell ⟨A, 0, none⟩ (.slice (some ⟨b', o', none⟩) m c')) A lo (l.drop n, 0) := by
  subst hm
  refine ⟨_, c', r_set _ h, hle, fun e => absurd rfl e, .inr ⟨b', o', rfl, fun i hi => ?_, h1, h2⟩⟩
  rw [World.cell?_of_block (w := w) (Below.heap_setCell w ⟨A, 0, none⟩ _ b' (by show b' ≠ A; omega))]
  exact hc i hi

theorem shr_128 (P : Program) (k : Nat) (hk : k ≤ 8) (w : World) : Sem.run P (Op.shift BinOp.shr IntKind.u8 128 IntKind.i64 (k : Int)) w = .ok (.int .u8 ((128 / 2 ^ k : Nat) : Int)) w := by
  unfold Op.shift
  rw [if_neg (by omega)]
  have e2 : min k IntKind.u8.bits = k := by simp [IntKind.bits]; omega
  simp only [Int.toNat_natCast, e2]
  rw [Sem.run_pure]
  have : (128 : Int).fdiv (2 ^ k) = ((128 / 2 ^ k : Nat) : Int) := by
    rw [show ((2 : Int) ^ k) = ((2 ^ k : Nat) : Int) from by simp, Int.fdiv_eq_ediv_of_nonneg _ (Int.natCast_nonneg _)]; simp
  simp only [this]
set_option maxHeartbeats 4000000 in
set_option maxRecDepth 100000 in
theorem refNumber_all (A lo : Nat) (s : Cod.S) (w : World) (h : RRd w A lo s) (hl : s.1.length ≤ 140737488355328) :
    Calls Try.prog 75 #[.pointer (some ⟨A, 0, none⟩)] w (GotR w A lo (.int .u64 (Cod.anyS s).1) (Cod.anyS s).2) := by
  obtain ⟨l, e⟩ := s
  match l, h, hl with
  | [], h, hl =>
    have F := Lib.hid (refFail_any A lo 4 _ w h (by omega))
    have hA : Cod.anyS (([] : List UInt8), e) = (0, Cod.failS 4 ([], e)) := by
      unfold Cod.anyS
      by_cases he : e = 0
      · subst he; rfl
      · rw [if_neg he, show Cod.failS 4 (([] : List UInt8), e) = ([], e) from if_neg he]
    rw [hA]
    obtain ⟨p, c, h1, _⟩ := h
    obtain ⟨c0, c1⟩ := r_cells h1
    simp only [List.length_nil] at c0
    clear h1 hA
    go_enter Try.func75, Try.ntmps75
    go_wp2_with fail
    refine F.out.mono ?_
    rintro e w1 ⟨rfl, h1, h2⟩
    have H1 := Lib.hid h1; have H2 := Lib.hid h2
    clear h1 h2 F
    go_wp2
    go_ret
    exact ⟨rfl, H1.out, H2.out⟩
  | b :: t, h, hl =>
    obtain ⟨p, c, h1, hlc, hok, h4⟩ := h
    have he : e = 0 := by
      rcases Nat.eq_zero_or_pos e with h | h
      · exact h
      · have : (b :: t) = [] := hok (by show e ≠ 0; omega)
        cases this
    subst he
    rcases h4 with ⟨_, h4⟩ | ⟨b0, o0, rfl, hcs, hlo, hbA⟩
    · cases h4
    have hA : Cod.anyS (b :: t, 0) = Cod.next (b :: t) := by unfold Cod.anyS; rw [if_pos rfl]
    rw [hA]
    clear hA hok
    obtain ⟨c0, c1⟩ := r_cells h1
    simp only [List.length_cons] at c0 hlc hl
    have cb0 : w.cell? ⟨b0, o0, none⟩ = some (.int .u8 (b.toNat : Int)) := by have := hcs 0 (by simp); simpa using this
    have RR : Hid (RRd w A lo (b :: t, 0)) := ⟨_, c, h1, hlc, fun e => absurd rfl e, .inr ⟨b0, o0, rfl, hcs, hlo, hbA⟩⟩
    have H1 := Lib.hid h1; have CS := Lib.hid hcs
    have hb := b.toNat_lt
    have h8 := Cod.ones_le b.toNat
    have hft := Cod.frst_tab ⟨b.toNat, hb⟩
    have hbt := fun (i : Nat) (hi : i < 8) => Cod.bit_tab ⟨b.toNat, hb⟩ ⟨i, hi⟩
    simp only at hft hbt
    have hfs := fun j (hj : j ≤ Cod.ones b.toNat) => Cod.fold_small b t j hj
    have hnx : Cod.next (b :: t) = if t.length < Cod.ones b.toNat then (0, [], 4) else if Cod.bh (Cod.fold (Cod.frst b.toNat) (t.take (Cod.ones b.toNat))) = Cod.ones b.toNat then (Cod.fold (Cod.frst b.toNat) (t.take (Cod.ones b.toNat)), t.drop (Cod.ones b.toNat), 0) else (0, [], 3) := rfl
    generalize Cod.ones b.toNat = K at *
    generalize Cod.frst b.toNat = f0 at *
    have NX := Lib.hid hnx; have FS := Lib.hid hfs; have FT := Lib.hid hft; have BT := Lib.hid hbt
    clear hnx hfs hft hbt hcs h1
    have f0z := r_frozen H1.out 0
    go_enter Try.func75, Try.ntmps75
    go_wp2
    go_loopw [3, 15] (fun k i wr => ∃ j : Nat, j ≤ 8 ∧ i = .int .i64 j ∧ k = .int .i64 (min j K : Nat) ∧ Below w.heap.size w wr ∧ wr.heap = w.heap) (fun _ i _ => 8 - (intOf i).toNat)
    case atStart => exact ⟨0, Nat.zero_le _, rfl, by simp, Below.refl _ _, rfl⟩
    case round =>
      obtain ⟨j, hj, rfl, rfl, hbw, hhp⟩ := hrel
      have BW := Lib.hid hbw; have HP := Lib.hid hhp
      have hcw : ∀ p : Addr, wr.cell? p = w.cell? p := fun p => by unfold World.cell?; rw [HP.out]
      have ca0 : wr.cell? ⟨A, 0, none⟩ = some (.slice (some ⟨b0, o0, none⟩) (t.length + 1) c) := (hcw _).trans c0
      have cbw : wr.cell? ⟨b0, o0, none⟩ = some (.int .u8 (b.toNat : Int)) := (hcw _).trans cb0
      have CW := Lib.hid hcw
      clear hbw hhp hcw
      by_cases hj8 : j < 8
      · have hj8' : (j : Int) < 8 := by omega
        by_cases hjK : j ≤ K
        · rw [Nat.min_eq_left hjK]
          have hv := BT.out j hj8 hjK
          have h128 : 128 / 2 ^ j < 256 := Nat.lt_of_le_of_lt (Nat.div_le_self _ _) (by omega)
          have hnz := u8_and_nat b.toNat (128 / 2 ^ j) hb h128
          rw [show ((128 / 2 ^ j : Nat) : Int) = (128 : Int) / 2 ^ j from by simp] at hnz
          have s1 := fun w => shr_128 Try.prog j (by omega) w
          have h00 : (0 : Int) < (t.length : Int) + 1 := by omega
          clear h128
          by_cases hq : j < K
          · have ht : (bits BinOp.and IntKind.u8 (b.toNat : Int) (128 / 2 ^ j) != 0) = true := by
              have h1 := hv.2 hq
              rw [hnz, bne_iff_ne]
              omega
            clear hv hnz
            go_wp2
            go_quiet (fail)
            have B2 : Hid (Below w.heap.size w (wr.drewN nq)) := below_drewN BW.out _
            have P2 : Hid ((wr.drewN nq).heap = w.heap) := HP.out
            generalize wr.drewN nq = w2 at B2 P2 ⊢
            clear ca0 cbw s1
            go_wp2
            go_roundw
            case rel => exact ⟨j + 1, by omega, by go_num, by (rw [Nat.min_eq_left (by omega)]; go_num), B2.out, P2.out⟩
            case measure => simp [intOf]; omega
          · obtain rfl : j = K := by omega
            have ht : (bits BinOp.and IntKind.u8 (b.toNat : Int) (128 / 2 ^ j) != 0) = false := by
              have h1 : b.toNat &&& 128 / 2 ^ j = 0 := by
                by_cases hz : (b.toNat &&& (128 / 2 ^ j)) = 0
                · exact hz
                · exact absurd (hv.1 hz) hq
              rw [hnz, h1]; rfl
            clear hv hnz
            go_wp2
            go_quiet (fail)
            have B2 : Hid (Below w.heap.size w (wr.drewN nq)) := below_drewN BW.out _
            have P2 : Hid ((wr.drewN nq).heap = w.heap) := HP.out
            generalize wr.drewN nq = w2 at B2 P2 ⊢
            clear ca0 cbw s1
            go_wp2
            go_roundw
            case rel => exact ⟨j + 1, by omega, by go_num, by rw [Nat.min_eq_right (by omega)], B2.out, P2.out⟩
            case measure => simp [intOf]; omega
        · rw [Nat.min_eq_right (by omega)]
          obtain ⟨k, hk⟩ : ∃ k, k = K := ⟨_, rfl⟩
          rw [← hk] at hjK ⊢
          have HK := Lib.hid hk
          have hf1 : ((k : Int) == (j : Int)) = false := by simp; omega
          have hf2 : decide ((k : Int) = (j : Int)) = false := by simp; omega
          clear hk
          go_wp2
          go_quiet (fail)
          have B2 : Hid (Below w.heap.size w (wr.drewN nq)) := below_drewN BW.out _
          have P2 : Hid ((wr.drewN nq).heap = w.heap) := HP.out
          generalize wr.drewN nq = w2 at B2 P2 ⊢
          clear ca0 cbw
          go_wp2
          go_roundw
          case rel => exact ⟨j + 1, by omega, by go_num, by (rw [Nat.min_eq_right (by have := HK.out; omega), HK.out]), B2.out, P2.out⟩
          case measure => simp [intOf]; omega
      · obtain rfl : j = 8 := by omega
        rw [Nat.min_eq_right h8]
        have ca0 : wr.cell? ⟨A, 0, none⟩ = some (.slice (some ⟨b0, o0, none⟩) (t.length + 1) c) := (CW.out _).trans c0
        have cbw : wr.cell? ⟨b0, o0, none⟩ = some (.int .u8 (b.toNat : Int)) := (CW.out _).trans cb0
        by_cases hkt : t.length < K
        · rw [if_pos hkt] at NX
          have hlt' : (t.length : Int) < (K : Int) := by omega
          have F := Lib.hid (refFail_any A lo 4 _ wr (RR.out.below BW.out) (by omega))
          rw [Cod.failS_zero] at F
          have G8 : Hid (w.grownBy wr (some A)) := ⟨BW.out.os, BW.out.tape, BW.out.output, BW.out.size, fun i hi _ => BW.out.block i hi⟩
          clear hkt
          go_wp2_with fail
          refine F.out.mono ?_
          rintro e w4 ⟨rfl, h4, g4⟩
          have H4 := Lib.hid h4; have G4 := Lib.hid (grown_trans G8.out g4)
          clear h4 g4 F
          go_wp2
          go_ret
          rw [NX.out]
          exact ⟨rfl, H4.out, G4.out⟩
        · rw [if_neg hkt] at NX
          have hlt' : ¬ (t.length : Int) < (K : Int) := by omega
          have KT : Hid (K ≤ t.length) := by show K ≤ t.length; omega
          by_cases hK8 : K < 8
          · have hK8' : (K : Int) < 8 := by omega
            have h128 : 128 / 2 ^ K < 256 := Nat.lt_of_le_of_lt (Nat.div_le_self _ _) (by omega)
            have hpos : 0 < 128 / 2 ^ K := by
              have : 2 ^ K ≤ 2 ^ 7 := Nat.pow_le_pow_right (by omega) (by omega)
              exact Nat.div_pos (by omega) (Nat.pow_pos (by omega))
            have hf := (FT.out.2.1 hK8).symm
            clear hkt
            have s2 := fun w => shr_nat Try.prog 128 K (by omega) w
            have h00 : (0 : Int) < (t.length : Int) + 1 := by omega
            have hzd : ¬ ((128 : Int) / 2 ^ K = 0) := by
              rw [show (128 : Int) / 2 ^ K = ((128 / 2 ^ K : Nat) : Int) from by simp]; omega
            have hmd : (b.toNat : Int).tmod ((128 : Int) / 2 ^ K) = (f0 : Int) := by
              rw [show (128 : Int) / 2 ^ K = ((128 / 2 ^ K : Nat) : Int) from by simp, Int.tmod_eq_emod_of_nonneg (by omega), ← hf]; simp
            have hmd2 : (b.toNat : Int) % ((128 : Int) / 2 ^ K) = (f0 : Int) := by
              rw [show (128 : Int) / 2 ^ K = ((128 / 2 ^ K : Nat) : Int) from by simp, ← hf]; simp
            have hu8 : IntKind.u64.wrap (b.toNat : Int) = (b.toNat : Int) := by
              simp [IntKind.wrap, IntKind.bits, IntKind.signed]; omega
            clear hf hpos h128
            go_wp2
            go_quiet (fail)
            have BZ : Hid (Below w.heap.size w (wr.drewN nq)) := below_drewN BW.out _
            have PZ : Hid ((wr.drewN nq).heap = w.heap) := HP.out
            generalize wr.drewN nq = wz at BZ PZ ⊢
            clear ca0 cbw s2 hzd hmd hmd2 hu8
            have e0 : (f0 : Int) = ((Cod.fold f0 (t.take 0) : Nat) : Int) := rfl
            rw [e0]
            clear e0
            have CA : Hid (wz.cell? ⟨A, 0, none⟩ = some (.slice (some ⟨b0, o0, none⟩) (t.length + 1) c)) := by show wz.cell? _ = _; unfold World.cell?; rw [PZ.out]; exact c0
            have CC : Hid (∀ i, i < t.length → wz.cell? ⟨b0, o0 + (i + 1), none⟩ = some (.int .u8 ((t.getD i 0).toNat : Int))) := fun i hi => by
              have := CS.out (i + 1) (by simp; omega)
              unfold World.cell? at this ⊢
              rw [PZ.out]
              simpa using this
            have RZ := Lib.hid (RR.out.below BZ.out)
            have GZ : Hid (w.grownBy wz (some A)) := ⟨BZ.out.os, BZ.out.tape, BZ.out.output, BZ.out.size, fun i hi _ => BZ.out.block i hi⟩
            have CH : Hid (wz.heap[A]? = some (rObj (.slice (some ⟨b0, o0, none⟩) (t.length + 1) c) 0)) := by show wz.heap[A]? = _; rw [PZ.out]; exact H1.out
            have fz : wz.frozen? ⟨A, 0, none⟩ = false := r_frozen CH.out 0
            go_wp2
            go_loop [5, 59] (fun u i => ∃ j : Nat, j ≤ K ∧ i = .int .i64 j ∧ u = .int .u64 (Cod.fold f0 (t.take j) : Nat)) (fun _ i => K - (intOf i).toNat)
            case atStart => exact ⟨0, Nat.zero_le _, rfl, by first | rfl | (show Value.int .u64 0 = Value.int .u64 ((f0 : Nat) : Int); rw [e0.out]; rfl)⟩
            case round =>
              obtain ⟨j, hj, rfl, rfl⟩ := hrel
              by_cases hjk : j < K
              · have hjt : j < t.length := by have := KT.out; omega
                have hc := CC.out j hjt
                have ca := CA.out
                have hst := Cod.fold_take f0 t j hjt
                have hub := (FS.out j hj).2 hjk
                have HST := Lib.hid hst
                clear hst
                have hjk' : (j : Int) < K := by omega
                have hjt' : (j : Int) + 1 < (t.length : Int) + 1 := by omega
                generalize t.getD j 0 = d at hc HST
                generalize Cod.fold f0 (t.take j) = u at hub HST ⊢
                have hdb := d.toNat_lt
                have hub2 : u * 256 + d.toNat < 18446744073709551616 := by omega
                go_wp2
                go_round
                case rel => exact ⟨j + 1, by omega, by go_num, by rw [HST.out]; go_num⟩
                case measure => simp [intOf]; omega
              · obtain rfl : j = K := by omega
                have hx := (FS.out j (Nat.le_refl _)).1
                have hjk' : ¬ (j : Int) < j := by omega
                generalize hxx : Cod.fold f0 (t.take j) = x at hx NX ⊢
                clear hxx
                have BY := Lib.hid (refBytes_any x hx wz)
                go_wp2_with fail
                refine BY.out.mono ?_
                intro e w3 hr3
                obtain ⟨q, d, rfl, hg3, hb3⟩ := hr3.given
                have B3 := Lib.hid hb3
                have hel := Cod.enc_length x
                rw [hel]
                clear hr3 hg3 hb3 BY hel
                have R3 := Lib.hid (RZ.out.below B3.out)
                have G3 : Hid (w.grownBy w3 (some A)) := ⟨B3.out.os.trans GZ.out.os, B3.out.tape.trans GZ.out.tape, B3.out.output.trans GZ.out.output, Nat.le_trans GZ.out.size B3.out.size, fun i hi hne => (B3.out.block i (Nat.lt_of_lt_of_le hi GZ.out.size)).trans (GZ.out.block i hi hne)⟩
                have hA3 : A < wz.heap.size := (Array.getElem?_eq_some_iff.1 CH.out).1
                have C3 : Hid (w3.heap[A]? = some (rObj (.slice (some ⟨b0, o0, none⟩) (t.length + 1) c) 0)) := (B3.out.block A hA3).trans CH.out
                have ca3 := (r_cells C3.out).1
                have f3 := r_frozen C3.out 0
                have CE : Hid (Cells w3 b0 o0 (b :: t)) := by
                  intro i hi
                  have h0 := CS.out i hi
                  have hlt := World.block_lt_of_cell? w _ h0
                  rw [B3.out.cell (p := ⟨b0, o0 + i, none⟩) (Nat.lt_of_lt_of_le hlt BZ.out.size)]
                  unfold World.cell? at h0 ⊢
                  rw [PZ.out]
                  exact h0
                clear CC CA fz hA3
                by_cases hbh : Cod.bh x = j
                · rw [if_pos hbh] at NX
                  rw [hbh]
                  have hjt := KT.out
                  have LO := Lib.hid hlo; have LA := Lib.hid hbA
                  have hcut : (j : Int) + 1 ≤ (t.length : Int) + 1 := by omega
                  have CUT : ∀ (b' o' c' m : Nat), m = (t.drop j).length → Cells w3 b' o' (t.drop j) → (t.drop j).length ≤ c' → b' = b0 → GotR w A lo (.int .u64 x) (t.drop j, 0) (.returned (.int .u64 x)) (w3.setCell ⟨A, 0, none⟩ (.slice (some ⟨b', o', none⟩) m c')) := fun b' o' c' m h1 h2 h3 h4 => by
                    subst h4
                    refine ⟨rfl, ?_, ?_⟩
                    · have := rrd_cut (n := j + 1) (l := b :: t) (lo := lo) (b' := b') (o' := o') (c' := c') (m := m) C3.out (by rw [h1]; rfl) h2 h3 LO.out LA.out
                      exact this
                    · exact grown_trans G3.out (grown_set w3 A _)
                  have CU := Lib.hid CUT
                  clear CUT hbh hlo hbA
                  go_wp2
                  all_goals
                    go_ret
                    rw [NX.out]
                    refine CU.out _ _ _ _ (by first | (simp; done) | (simp; omega)) ?_ (by first | (simp; done) | (simp; omega)) rfl
                    intro i hi
                    simp only [List.length_drop] at hi
                    first
                    | (have h9 := CE.out (j + 1 + i) (by simp; omega)
                       have e1 : (b :: t).getD (j + 1 + i) 0 = (t.drop j).getD i 0 := by (rw [show j + 1 + i = (j + i) + 1 by omega]; simp [List.getD])
                       rw [e1] at h9
                       rw [← h9]
                       congr 2
                       omega)
                    | omega
                · rw [if_neg hbh] at NX
                  have hbh' : ¬ ((Cod.bh x : Nat) : Int) = (j : Int) := by omega
                  have F := Lib.hid (refFail_any A lo 3 _ w3 R3.out (by omega))
                  rw [Cod.failS_zero] at F
                  clear hbh
                  generalize Cod.bh x = q0 at hbh' ⊢
                  have hq : ¬ ((q0 + 1 : Nat) : Int) = (j : Int) + 1 := by omega
                  go_wp2_with fail
                  refine F.out.mono ?_
                  rintro e w4 ⟨rfl, h4, g4⟩
                  have H4 := Lib.hid h4; have G4 := Lib.hid (grown_trans G3.out g4)
                  clear h4 g4 F
                  go_wp2
                  go_ret
                  rw [NX.out]
                  exact ⟨rfl, H4.out, G4.out⟩
          · have hK8' : ¬ (K : Int) < 8 := by omega
            have hf := FT.out.2.2 (by omega)
            have BZ := BW; have PZ := HP
            have e0 : Hid (f0 = 0) := hf
            clear hkt ca0 cbw hf
            go_wp2_with fail
            have CA : Hid (wr.cell? ⟨A, 0, none⟩ = some (.slice (some ⟨b0, o0, none⟩) (t.length + 1) c)) := by show wr.cell? _ = _; unfold World.cell?; rw [PZ.out]; exact c0
            have CC : Hid (∀ i, i < t.length → wr.cell? ⟨b0, o0 + (i + 1), none⟩ = some (.int .u8 ((t.getD i 0).toNat : Int))) := fun i hi => by
              have := CS.out (i + 1) (by simp; omega)
              unfold World.cell? at this ⊢
              rw [PZ.out]
              simpa using this
            have RZ := Lib.hid (RR.out.below BZ.out)
            have GZ : Hid (w.grownBy wr (some A)) := ⟨BZ.out.os, BZ.out.tape, BZ.out.output, BZ.out.size, fun i hi _ => BZ.out.block i hi⟩
            have CH : Hid (wr.heap[A]? = some (rObj (.slice (some ⟨b0, o0, none⟩) (t.length + 1) c) 0)) := by show wr.heap[A]? = _; rw [PZ.out]; exact H1.out
            have fz : wr.frozen? ⟨A, 0, none⟩ = false := r_frozen CH.out 0
            go_wp2
            go_loop [5, 59] (fun u i => ∃ j : Nat, j ≤ K ∧ i = .int .i64 j ∧ u = .int .u64 (Cod.fold f0 (t.take j) : Nat)) (fun _ i => K - (intOf i).toNat)
            case atStart => exact ⟨0, Nat.zero_le _, rfl, by first | rfl | (show Value.int .u64 0 = Value.int .u64 ((f0 : Nat) : Int); rw [e0.out]; rfl)⟩
            case round =>
              obtain ⟨j, hj, rfl, rfl⟩ := hrel
              by_cases hjk : j < K
              · have hjt : j < t.length := by have := KT.out; omega
                have hc := CC.out j hjt
                have ca := CA.out
                have hst := Cod.fold_take f0 t j hjt
                have hub := (FS.out j hj).2 hjk
                have HST := Lib.hid hst
                clear hst
                have hjk' : (j : Int) < K := by omega
                have hjt' : (j : Int) + 1 < (t.length : Int) + 1 := by omega
                generalize t.getD j 0 = d at hc HST
                generalize Cod.fold f0 (t.take j) = u at hub HST ⊢
                have hdb := d.toNat_lt
                have hub2 : u * 256 + d.toNat < 18446744073709551616 := by omega
                go_wp2
                go_round
                case rel => exact ⟨j + 1, by omega, by go_num, by rw [HST.out]; go_num⟩
                case measure => simp [intOf]; omega
              · obtain rfl : j = K := by omega
                have hx := (FS.out j (Nat.le_refl _)).1
                have hjk' : ¬ (j : Int) < j := by omega
                generalize hxx : Cod.fold f0 (t.take j) = x at hx NX ⊢
                clear hxx
                have BY := Lib.hid (refBytes_any x hx wr)
                go_wp2_with fail
                refine BY.out.mono ?_
                intro e w3 hr3
                obtain ⟨q, d, rfl, hg3, hb3⟩ := hr3.given
                have B3 := Lib.hid hb3
                have hel := Cod.enc_length x
                rw [hel]
                clear hr3 hg3 hb3 BY hel
                have R3 := Lib.hid (RZ.out.below B3.out)
                have G3 : Hid (w.grownBy w3 (some A)) := ⟨B3.out.os.trans GZ.out.os, B3.out.tape.trans GZ.out.tape, B3.out.output.trans GZ.out.output, Nat.le_trans GZ.out.size B3.out.size, fun i hi hne => (B3.out.block i (Nat.lt_of_lt_of_le hi GZ.out.size)).trans (GZ.out.block i hi hne)⟩
                have hA3 : A < wr.heap.size := (Array.getElem?_eq_some_iff.1 CH.out).1
                have C3 : Hid (w3.heap[A]? = some (rObj (.slice (some ⟨b0, o0, none⟩) (t.length + 1) c) 0)) := (B3.out.block A hA3).trans CH.out
                have ca3 := (r_cells C3.out).1
                have f3 := r_frozen C3.out 0
                have CE : Hid (Cells w3 b0 o0 (b :: t)) := by
                  intro i hi
                  have h0 := CS.out i hi
                  have hlt := World.block_lt_of_cell? w _ h0
                  rw [B3.out.cell (p := ⟨b0, o0 + i, none⟩) (Nat.lt_of_lt_of_le hlt BZ.out.size)]
                  unfold World.cell? at h0 ⊢
                  rw [PZ.out]
                  exact h0
                clear CC CA fz hA3
                by_cases hbh : Cod.bh x = j
                · rw [if_pos hbh] at NX
                  rw [hbh]
                  have hjt := KT.out
                  have LO := Lib.hid hlo; have LA := Lib.hid hbA
                  have hcut : (j : Int) + 1 ≤ (t.length : Int) + 1 := by omega
                  have CUT : ∀ (b' o' c' m : Nat), m = (t.drop j).length → Cells w3 b' o' (t.drop j) → (t.drop j).length ≤ c' → b' = b0 → GotR w A lo (.int .u64 x) (t.drop j, 0) (.returned (.int .u64 x)) (w3.setCell ⟨A, 0, none⟩ (.slice (some ⟨b', o', none⟩) m c')) := fun b' o' c' m h1 h2 h3 h4 => by
                    subst h4
                    refine ⟨rfl, ?_, ?_⟩
                    · have := rrd_cut (n := j + 1) (l := b :: t) (lo := lo) (b' := b') (o' := o') (c' := c') (m := m) C3.out (by rw [h1]; rfl) h2 h3 LO.out LA.out
                      exact this
                    · exact grown_trans G3.out (grown_set w3 A _)
                  have CU := Lib.hid CUT
                  clear CUT hbh hlo hbA
                  go_wp2
                  all_goals
                    go_ret
                    rw [NX.out]
                    refine CU.out _ _ _ _ (by first | (simp; done) | (simp; omega)) ?_ (by first | (simp; done) | (simp; omega)) rfl
                    intro i hi
                    simp only [List.length_drop] at hi
                    first
                    | (have h9 := CE.out (j + 1 + i) (by simp; omega)
                       have e1 : (b :: t).getD (j + 1 + i) 0 = (t.drop j).getD i 0 := by (rw [show j + 1 + i = (j + i) + 1 by omega]; simp [List.getD])
                       rw [e1] at h9
                       rw [← h9]
                       congr 2
                       omega)
                    | omega
                · rw [if_neg hbh] at NX
                  have hbh' : ¬ ((Cod.bh x : Nat) : Int) = (j : Int) := by omega
                  have F := Lib.hid (refFail_any A lo 3 _ w3 R3.out (by omega))
                  rw [Cod.failS_zero] at F
                  clear hbh
                  generalize Cod.bh x = q0 at hbh' ⊢
                  have hq : ¬ ((q0 + 1 : Nat) : Int) = (j : Int) + 1 := by omega
                  go_wp2_with fail
                  refine F.out.mono ?_
                  rintro e w4 ⟨rfl, h4, g4⟩
                  have H4 := Lib.hid h4; have G4 := Lib.hid (grown_trans G3.out g4)
                  clear h4 g4 F
                  go_wp2
                  go_ret
                  rw [NX.out]
                  exact ⟨rfl, H4.out, G4.out⟩
end Go.Proofs.Ytkkepfbckpmbhaa
