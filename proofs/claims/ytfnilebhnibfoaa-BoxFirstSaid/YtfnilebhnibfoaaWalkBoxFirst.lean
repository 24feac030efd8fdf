/- The walk of BoxFirst. -/
import Derived.Test.YtfnilebhnibfoaaBoxFirst
import Derived.Test.YtfnilebhnibfoaaBoxAwake
import Derived.Test.YtfnilebhnibfoaaOpenRS
namespace Go.Proofs.Ytfnilebhnibfoaa
open Go Go.RowKit Go.Conc

theorem infoB : (Try.prog.info? 41).map (fun i => (i.zero, i.size, i.bytes)) = some (some (.pointer none), 1, 8) := by kernel_rfl
theorem isOneB : One Try.prog 50 41 (.pointer none) 8 := ⟨Try.underlying50, infoB, rfl, by decide, by decide⟩
def five (r : RowS) : List ByteArray := r.l.take 5
theorem five_len (r : RowS) : (five r).length = min r.l.length 5 := by unfold five; rw [List.length_take, Nat.min_comm]
theorem five_get (r : RowS) : (five r).getD 0 ByteArray.empty = r.l.getD 0 ByteArray.empty := by
  unfold five; cases r.l <;> simp [List.getD]
theorem fstL_range : ∀ (r : List (List ByteArray)) (i : Nat), -1 ≤ (fstL r i).2 ∧ (fstL r i).2 ≤ (i + r.length : Nat)
  | [], i => by simp only [fstL]; omega
  | v :: r, i => by
    unfold fstL
    have := fstL_range r (i + 1)
    split
    · simp only [List.length_cons]; omega
    · simp only [List.length_cons]; omega

set_option maxHeartbeats 4000000 in
set_option maxRecDepth 100000 in
theorem boxFirst_walk (q : Option Addr) (c : Nat) (rows : List RowS) (W : World) (h : CameRS W q c rows) :
    Calls Try.prog 5 #[.slice q rows.length c] W (Yes W) := by
  have hle := h.le
  have hre := h.reach
  have H := Lib.hid h.lies
  clear h
  go_enter Try.func5, Try.ntmps5
  go_wp2
  go_loopw [3, 4, 5, 14] (fun v x t i wr => ∃ (k : Nat) (bs : List BoxI), k ≤ rows.length ∧ k ≤ 20 ∧ i = .int .i64 k ∧ bs.length = k ∧ x = .string (fstL ((rows.take k).map five) 0).1 ∧ t = .int .i64 (fstL ((rows.take k).map five) 0).2 ∧
    wr.ownsRow W.heap.size 41 1 v k (bs.map bptr) ∧ (k = 0 → v = .slice none 0 0) ∧ Boxes wr W.heap.size bs ((rows.take k).map five) ∧ Below W.heap.size W wr) (fun _ _ _ i _ => rows.length - (intOf i).toNat)
  case atStart => exact ⟨0, [], Nat.zero_le _, by omega, rfl, rfl, rfl, rfl, World.ownsRow_nil _ _ _ _, fun _ => rfl, ⟨rfl, fun i hi => by simp at hi⟩, Below.refl _ _⟩
  case round =>
    obtain ⟨k, bs, hk, hk20, rfl, hbl, rfl, rfl, hown, hnil, hbs, hbelow⟩ := hrel
    have O := Lib.hid hown; have BS := Lib.hid hbs; have BW := Lib.hid hbelow; have NIL := Lib.hid hnil
    have hz := hbelow.size
    have hfr := fstL_range ((rows.take k).map five) 0
    rw [List.length_map, List.length_take] at hfr
    clear hown hbs hbelow hnil
    obtain ⟨f1, f2⟩ := hfr
    by_cases hgo : k < rows.length ∧ k < 20
    · obtain ⟨hlt, hlt2⟩ := hgo
      obtain ⟨b, o, rfl, hcell⟩ := (H.out.below BW.out) (by intro e; rw [e] at hlt; simp at hlt)
      obtain ⟨hc1, hrow⟩ := hcell k hlt
      have hlt' : (k : Int) < rows.length := by omega
      have hlt2' : (k : Int) < 20 := by omega
      have TK : Hid ((rows.take k).map five ++ [five (rows.getD k rowS0)] = (rows.take (k + 1)).map five) := by
        show (rows.take k).map five ++ [five (rows.getD k rowS0)] = (rows.take (k + 1)).map five
        rw [← take_next rows rowS0 k hlt, List.map_append]; rfl
      generalize rows.getD k rowS0 = r at hc1 hrow TK
      obtain ⟨p, cr, l⟩ := r
      have hrl := hrow.le; have hrm := hrow.max; have hrn := hrow.none; have HRL := Lib.hid hrow.lies
      simp only at hc1 hrl hrm hrn HRL
      unfold maxLen at hrm
      have F := Lib.hid (filledS 5 p cr l wr HRL.out hrn hrl hrm 5 (by omega) (by omega) (by omega))
      have SN := Lib.hid (fstL_snoc ((rows.take k).map five) (five ⟨p, cr, l⟩) 0)
      rw [TK.out] at SN
      have FL : Hid ((five ⟨p, cr, l⟩).length = min l.length 5) := five_len _
      have FG : Hid ((five ⟨p, cr, l⟩).getD 0 ByteArray.empty = l.getD 0 ByteArray.empty) := five_get _
      have LK : Hid (((rows.take k).map five).length = k) := by show ((rows.take k).map five).length = k; rw [List.length_map, List.length_take]; omega
      clear hrow hrn hcell
      generalize fstL ((rows.take k).map five) 0 = X at f1 f2 SN ⊢
      obtain ⟨x, t⟩ := X
      simp only at f1 f2 SN ⊢
      go_wp2_with fail
      refine F.out.mono ?_
      rintro e w1 ⟨a, C, gs, rfl, ha, hC, hbx, hvs, hbel1⟩
      have B1 := Lib.hid (BW.out.trans (hbel1.mono hz))
      have O1 := Lib.hid (own_laterV O.out hbel1)
      have L1 := Lib.hid (HRL.out.below hbel1)
      have BS1 : Hid (Boxes w1 W.heap.size (bs ++ [BoxI.mk a C gs]) ((rows.take (k + 1)).map five)) := by
        rw [← TK.out]; exact (BS.out.below hbel1).snoc ⟨a, C, gs⟩ _ (Nat.le_trans hz hC) hbx hvs
      have hz1 := B1.out.size
      clear hbx hvs hbel1 F
      by_cases hfirst : 0 < min l.length 5 ∧ t < 0
      · obtain ⟨hf1, hf2⟩ := hfirst
        have hf1' : ((min l.length 5 : Nat) : Int) > 0 := by omega
        obtain ⟨b2, o2, rfl, _, hc2⟩ := L1.out.at (by omega)
        have hc20 := hc2 0 (by omega)
        rw [Nat.add_zero] at hc20
        have SN2 : Hid (fstL ((rows.take (k + 1)).map five) 0 = (l.getD 0 ByteArray.empty, (k : Int))) := by
          have := SN.out
          rw [if_pos ⟨hf2, fun e => by have h1 := FL.out; rw [e] at h1; simp at h1; omega⟩, FG.out, LK.out, Nat.zero_add] at this
          exact this
        clear hc2 SN
        generalize l.getD 0 ByteArray.empty = y at hc20 SN2
        go_wp2_with (at_builtin; refine wpList_oneG isOneB _ rfl _ _ rfl W.heap.size k (bs.map bptr) _ rfl O1.out _ rfl rfl (by omega) hz1 ?_)
        intro v2 w2 hown2 hbel2 hst2
        have O2 : Hid (w2.ownsRow W.heap.size 41 1 v2 (k + 1) ((bs ++ [BoxI.mk a C gs]).map bptr)) := by rw [List.map_append]; exact hown2
        have BS2 : Hid (Boxes w2 W.heap.size (bs ++ [BoxI.mk a C gs]) ((rows.take (k + 1)).map five)) :=
          BS1.out.apart O1.out (fun u hu => by obtain ⟨b, _, rfl⟩ := List.mem_map.1 hu; exact ⟨_, rfl⟩) NIL.out hst2
        have B2 := Lib.hid (B1.out.trans hbel2)
        clear hown2 hbel2 hst2 BS1
        go_wp2
        go_roundw
        case rel => exact ⟨k + 1, bs ++ [BoxI.mk a C gs], by omega, by omega, by go_num, by simp [hbl], by rw [SN2.out], by rw [SN2.out], O2.out, fun e => by omega, BS2.out, B2.out⟩
        case measure => simp [intOf]; omega
      · have SN2 : Hid (fstL ((rows.take (k + 1)).map five) 0 = (x, t)) := by
          have := SN.out
          rw [if_neg (fun e => hfirst ⟨by have h1 := FL.out; have h2 : (five ⟨p, cr, l⟩).length ≠ 0 := fun h => e.2 (List.eq_nil_of_length_eq_zero h); omega, e.1⟩)] at this
          exact this
        clear SN
        by_cases hf1 : 0 < min l.length 5
        · have hf1' : ((min l.length 5 : Nat) : Int) > 0 := by omega
          have hf2' : ¬ t < 0 := fun e => hfirst ⟨hf1, e⟩
          clear hfirst
          go_wp2_with (at_builtin; refine wpList_oneG isOneB _ rfl _ _ rfl W.heap.size k (bs.map bptr) _ rfl O1.out _ rfl rfl (by omega) hz1 ?_)
          intro v2 w2 hown2 hbel2 hst2
          have O2 : Hid (w2.ownsRow W.heap.size 41 1 v2 (k + 1) ((bs ++ [BoxI.mk a C gs]).map bptr)) := by rw [List.map_append]; exact hown2
          have BS2 : Hid (Boxes w2 W.heap.size (bs ++ [BoxI.mk a C gs]) ((rows.take (k + 1)).map five)) :=
            BS1.out.apart O1.out (fun u hu => by obtain ⟨b, _, rfl⟩ := List.mem_map.1 hu; exact ⟨_, rfl⟩) NIL.out hst2
          have B2 := Lib.hid (B1.out.trans hbel2)
          clear hown2 hbel2 hst2 BS1
          go_wp2
          go_roundw
          case rel => exact ⟨k + 1, bs ++ [BoxI.mk a C gs], by omega, by omega, by go_num, by simp [hbl], by rw [SN2.out], by rw [SN2.out], O2.out, fun e => by omega, BS2.out, B2.out⟩
          case measure => simp [intOf]; omega
        · have hf1' : ¬ ((min l.length 5 : Nat) : Int) > 0 := by omega
          clear hfirst
          go_wp2_with (at_builtin; refine wpList_oneG isOneB _ rfl _ _ rfl W.heap.size k (bs.map bptr) _ rfl O1.out _ rfl rfl (by omega) hz1 ?_)
          intro v2 w2 hown2 hbel2 hst2
          have O2 : Hid (w2.ownsRow W.heap.size 41 1 v2 (k + 1) ((bs ++ [BoxI.mk a C gs]).map bptr)) := by rw [List.map_append]; exact hown2
          have BS2 : Hid (Boxes w2 W.heap.size (bs ++ [BoxI.mk a C gs]) ((rows.take (k + 1)).map five)) :=
            BS1.out.apart O1.out (fun u hu => by obtain ⟨b, _, rfl⟩ := List.mem_map.1 hu; exact ⟨_, rfl⟩) NIL.out hst2
          have B2 := Lib.hid (B1.out.trans hbel2)
          clear hown2 hbel2 hst2 BS1
          go_wp2
          go_roundw
          case rel => exact ⟨k + 1, bs ++ [BoxI.mk a C gs], by omega, by omega, by go_num, by simp [hbl], by rw [SN2.out], by rw [SN2.out], O2.out, fun e => by omega, BS2.out, B2.out⟩
          case measure => simp [intOf]; omega
    · have FX : Hid (fstL ((rows.take k).map five) 0 = (if k = 20 ∨ k = rows.length then fstL ((rows.take k).map five) 0 else (ByteArray.empty, -1))) := by
        show fstL ((rows.take k).map five) 0 = _
        rw [if_pos (by omega)]
      obtain ⟨p1, c1, rfl, hjunk1, hjunk2, hcs⟩ := ownV_cells O.out
      clear hjunk1 hjunk2
      have FI := Lib.hid (fun hB => first_is p1 c1 W.heap.size bs ((rows.take k).map five) wr BS.out hB (by omega) (fun i hi => by
        obtain ⟨b, o, e1, e2⟩ := hcs i (bptr (bs.getD i boxI0)) (by simp [List.getD, List.getElem?_eq_getElem hi])
        exact ⟨b, o, e1, e2⟩))
      have FI2 := Lib.hid (FI.out hz)
      rw [hbl] at FI2
      clear hcs FI FX hbl
      generalize fstL ((rows.take k).map five) 0 = X at f1 f2 FI2 ⊢
      obtain ⟨x, t⟩ := X
      simp only at f1 f2 FI2 ⊢
      by_cases hlt : k < rows.length
      · obtain ⟨b, o, rfl, hcell⟩ := (H.out.below BW.out) (by intro e; rw [e] at hlt; simp at hlt)
        obtain ⟨hc1, _⟩ := hcell k hlt
        have hlt' : (k : Int) < rows.length := by omega
        have hlt2' : ¬ (k : Int) < 20 := by omega
        clear hcell hgo
        go_wp2_with fail
        refine FI2.out.mono ?_
        rintro e w2 ⟨rfl, hb2⟩
        have B2 := Lib.hid (BW.out.trans hb2)
        have AW := Lib.hid (awake7 w2)
        clear hb2 FI2
        go_wp2_with fail
        refine AW.out.mono ?_
        rintro e w3 ⟨rfl, hb3⟩
        have B3 := Lib.hid (B2.out.trans (hb3.mono B2.out.size))
        go_wp2
        go_ret
        exact ⟨ret_bool (by first | rfl | (simp; done)), B3.out⟩
      · have hlt' : ¬ (k : Int) < rows.length := by omega
        clear hgo
        go_wp2_with fail
        refine FI2.out.mono ?_
        rintro e w2 ⟨rfl, hb2⟩
        have B2 := Lib.hid (BW.out.trans hb2)
        have AW := Lib.hid (awake7 w2)
        clear hb2 FI2
        go_wp2_with fail
        refine AW.out.mono ?_
        rintro e w3 ⟨rfl, hb3⟩
        have B3 := Lib.hid (B2.out.trans (hb3.mono B2.out.size))
        go_wp2
        go_ret
        exact ⟨ret_bool (by first | rfl | (simp; done)), B3.out⟩
end Go.Proofs.Ytfnilebhnibfoaa
