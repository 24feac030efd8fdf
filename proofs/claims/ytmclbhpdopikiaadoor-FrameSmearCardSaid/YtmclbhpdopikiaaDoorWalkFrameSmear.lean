/- The walk of FrameSmear. -/
import Derived.Test.YtmclbhpdopikiaaDoorWalkFrameTurned
namespace Go.Proofs.YtmclbhpdopikiaaDoor
open Go Go.RowKit

theorem getD_set_ne {l : List UInt8} {i j : Nat} {a : UInt8} (h : i ≠ j) : (l.set i a).getD j 0 = l.getD j 0 := by
  simp [List.getD, List.getElem?_set, h]
theorem getD_set_eq {l : List UInt8} {i : Nat} {a : UInt8} (h : i < l.length) : (l.set i a).getD i 0 = a := by
  simp [List.getD, List.getElem?_set, h]
theorem opens_smear (l : List UInt8) (i : Nat) (hi : i + 1 < (sealed l).length) (h3 : i ≠ 3) (d e : UInt8) (hd : ¬ (d = 0 ∧ e = 0)) :
    opens (((sealed l).set i ((sealed l).getD i 0 ^^^ d)).set (i + 1) ((sealed l).getD (i + 1) 0 ^^^ e)) = ([], 6) := by
  have hb4 : (be4 (Frm.crc l)).length = 4 := rfl
  have hlen := sealed_length l
  have ht : (sealed l).take 4 = be4 (Frm.crc l) := by simp [sealed, be4]
  have hdr : (sealed l).drop 4 = l := by simp [sealed, be4]
  unfold opens
  rw [if_neg (by simp; omega), if_neg]
  rw [List.take_set, List.drop_set, List.take_set, List.drop_set, ht, hdr]
  by_cases h4 : i < 4
  · rw [if_pos h4, if_pos (by omega)]
    intro q
    have h2 : ∀ j, j < 4 → (sealed l).getD j 0 = (be4 (Frm.crc l)).getD j 0 := fun j hj => by
      rw [← ht]; simp [List.getD, List.getElem?_take, hj]
    rw [h2 i h4, h2 (i + 1) (by omega)] at q
    by_cases h5 : d = 0
    · have h1 := congrArg (fun t => t.getD (i + 1) 0) q
      rw [getD_set_eq (by simp; omega)] at h1
      exact xor_ne (fun e0 => hd ⟨h5, e0⟩) h1
    · have h1 := congrArg (fun t => t.getD i 0) q
      rw [getD_set_ne (by omega), getD_set_eq (by omega)] at h1
      exact xor_ne h5 h1
  · rw [if_neg h4, if_neg (by omega), List.set_eq_of_length_le (by rw [List.length_set]; omega), List.set_eq_of_length_le (by omega)]
    intro q
    have hj : i - 4 + 1 < l.length := by omega
    have h2 : ∀ j, 4 ≤ j → (sealed l).getD j 0 = l.getD (j - 4) 0 := fun j hj => by
      have : (sealed l)[j]? = l[j - 4]? := by
        unfold sealed
        rw [List.getElem?_append_right (by omega), hb4]
      simp [List.getD, this]
    rw [h2 i (by omega), h2 (i + 1) (by omega), show i + 1 - 4 = i - 4 + 1 from by omega] at q
    generalize i - 4 = j at q hj
    have e1 : ∀ a b : UInt8, (l.set j a).set (j + 1) b = l.take j ++ [a, b] ++ l.drop (j + 2) := by
      intro a b
      rw [show l.set j a = l.take j ++ a :: l.drop (j + 1) from by rw [List.set_eq_take_append_cons_drop, if_pos (by omega)], List.set_append_right _ _ (by simp; omega)]
      have hm : j + 1 - (l.take j).length = 0 + 1 := by simp; omega
      rw [hm, List.set_cons_succ, List.drop_eq_getElem_cons hj, List.set_cons_zero]
      simp
    have e2 : l = l.take j ++ [l.getD j 0, l.getD (j + 1) 0] ++ l.drop (j + 2) := by
      conv => lhs; rw [← List.take_append_drop j l, List.drop_eq_getElem_cons (show j < l.length by omega), List.drop_eq_getElem_cons hj]
      simp [List.getD, show j < l.length from by omega, hj]
    rw [e1] at q
    have h5 := be4_inj (Frm.crc_lt _) (Frm.crc_lt _) q
    have h6 : Frm.crc l = Frm.crc (l.take j ++ [l.getD j 0, l.getD (j + 1) 0] ++ l.drop (j + 2)) := congrArg Frm.crc e2
    refine Frm.crc_two _ _ _ _ d e ?_ (h5.symm.trans h6)
    intro hz
    have := Frm.xor_cancel (a := d.toNat ^^^ 256 * e.toNat) (b := d.toNat ^^^ 256 * e.toNat) (by rw [hz]; rfl)
    have h7 : d.toNat = 256 * e.toNat := by
      have := congrArg (· ^^^ (256 * e.toNat)) hz
      simpa [Nat.xor_assoc] using this
    have h8 := d.toNat_lt
    exact hd ⟨UInt8.toNat_inj.1 (by simp; omega), UInt8.toNat_inj.1 (by simp; omega)⟩

set_option maxHeartbeats 2000000 in
set_option maxRecDepth 100000 in
theorem frameSmear_walk (p : Option Addr) (c : Nat) (l : List UInt8) (at_ x by_ : Int) (W : World) (h : Came W p c l) (hat : (Lit.int .i64 at_).wf = true) (hx : (Lit.int .u8 x).wf = true) (hby : (Lit.int .u8 by_).wf = true) (hT : Table W) :
    Calls Tryd.prog 7 #[.slice p l.length c, .int .i64 at_, .int .u8 x, .int .u8 by_] W (Yes W) := by
  have HL := Lib.hid h.lies
  have HN := Lib.hid h.none
  have hr := h.reach
  have hle := h.le
  have HT := Lib.hid hT; clear hT h
  obtain ⟨d, rfl⟩ := byte_of hx
  obtain ⟨y, rfl⟩ := byte_of hby
  have hd2 := d.toNat_lt
  have hy2 := y.toNat_lt
  clear hx hby
  have H1 := seal_own p c l W HL.out HN.out HT.out (by omega)
  have hn := sealed_length l
  obtain ⟨q, hq⟩ : ∃ q, q = sealed l := ⟨_, rfl⟩
  rw [← hq] at H1 hn
  have HQ := Lib.hid hq
  have HN4 := Lib.hid hn
  have hn1 : 4 ≤ q.length := by omega
  have hn2 : q.length ≤ 140737488355000 := by omega
  clear hn hq
  by_cases hx3 : d = 0
  · subst hx3
    have hxb : (((0 : UInt8).toNat : Int) == 0) = true := rfl
    go_enter Tryd.func7, Tryd.ntmps7
    go_wp2_with fail
    refine H1.mono ?_
    rintro e w1 ⟨v, rfl, hown, b1⟩
    obtain ⟨g, cap, rfl, hg⟩ := own_some hown (by omega)
    have O1 := Lib.hid hown; have B1 := Lib.hid b1; clear hown
    go_wp2_with fail
    refine (awake_any w1 (HT.out.below B1.out)).mono ?_
    rintro e w4 ⟨rfl, b4⟩
    have B4 := Lib.hid b4
    go_wp2_with fail
    go_ret
    exact ⟨rfl, thenBelow B1.out B4.out⟩
  · have hxb : ((d.toNat : Int) == 0) = false := by
      have : d.toNat ≠ 0 := fun e => hx3 (UInt8.toNat_inj.1 (by simpa using e))
      simp; omega
    obtain ⟨i, hi, hidx, hiv⟩ := uidx at_ (q.length - 1) (by omega) (by omega)
    clear hiv
    have hidx' : wrap64 ((IntKind.u64.wrap at_).tmod ((q.length : Int) - 1)) = (i : Int) := by rw [← hidx]; congr 3; omega
    clear hidx
    go_enter Tryd.func7, Tryd.ntmps7
    go_wp2_with fail
    refine H1.mono ?_
    rintro e w1 ⟨v, rfl, hown, b1⟩
    obtain ⟨g, cap, rfl, hg⟩ := own_some hown (by omega)
    have O1 := Lib.hid hown; have B1 := Lib.hid b1; clear hown
    by_cases hi3 : i = 3
    · subst hi3
      go_wp2_with fail
      refine (awake_any w1 (HT.out.below B1.out)).mono ?_
      rintro e w4 ⟨rfl, b4⟩
      have B4 := Lib.hid b4
      go_wp2_with fail
      go_ret
      exact ⟨rfl, thenBelow B1.out B4.out⟩
    · obtain ⟨k1, k2, k3⟩ := own_cell O1.out i (by omega)
      obtain ⟨T, hT0⟩ : ∃ T, T = d.toNat * 2 ^ (y.toNat % 9) := ⟨_, rfl⟩
      have hp : 2 ^ (y.toNat % 9) ≤ 256 := Nat.pow_le_pow_right (n := 2) (by omega) (show y.toNat % 9 ≤ 8 by omega)
      have hp1 : 1 ≤ 2 ^ (y.toNat % 9) := Nat.one_le_two_pow
      have hd1 : 1 ≤ d.toNat := by
        rcases Nat.eq_zero_or_pos d.toNat with e | e
        · exact absurd (UInt8.toNat_inj.1 (by simpa using e)) hx3
        · exact e
      have hT1 : T ≤ 65280 := by
        rw [hT0]; exact Nat.le_trans (Nat.mul_le_mul (show d.toNat ≤ 255 by omega) hp) (by omega)
      have hT2 : 1 ≤ T := by rw [hT0]; exact Nat.mul_pos hd1 hp1
      have hturn : IntKind.u16.wrap ((d.toNat : Int) * 2 ^ (y.toNat % 9)) = (T : Int) := by
        rw [IntKind.wrap_u16, show ((d.toNat : Int) * 2 ^ (y.toNat % 9)) = (T : Int) from by rw [hT0]; push_cast; rfl]
        omega
      clear hT0 hp hp1 hd1
      obtain ⟨a0, ha0⟩ : ∃ a0, a0 = q.getD i 0 := ⟨_, rfl⟩
      obtain ⟨a1, ha1⟩ : ∃ a1, a1 = q.getD (i + 1) 0 := ⟨_, rfl⟩
      obtain ⟨x0, hx0⟩ : ∃ x0, x0 = a0 ^^^ UInt8.ofNat (T % 256) := ⟨_, rfl⟩
      obtain ⟨x1, hx1⟩ : ∃ x1, x1 = a1 ^^^ UInt8.ofNat (T / 256) := ⟨_, rfl⟩
      have hz : ¬ (UInt8.ofNat (T % 256) = 0 ∧ UInt8.ofNat (T / 256) = 0) := by
        rintro ⟨e0, e1⟩
        have e0 := congrArg UInt8.toNat e0
        have e1 := congrArg UInt8.toNat e1
        rw [UInt8.toNat_ofNat'] at e0 e1
        simp at e0 e1
        omega
      have ho : opens ((q.set i x0).set (i + 1) x1) = ([], 6) := by
        rw [hx0, hx1, ha0, ha1, HQ.out]
        exact opens_smear l i (by rw [← HQ.out]; omega) hi3 _ _ hz
      have hb0 : bits BinOp.xor IntKind.u8 (a0.toNat : Int) ((T : Int) % 256) = (x0.toNat : Int) := by
        rw [show ((T : Int) % 256) = ((T % 256 : Nat) : Int) from by simp, u8_xor_nat _ _ a0.toNat_lt (by omega), hx0, UInt8.toNat_xor, UInt8.toNat_ofNat']
        simp
      have hb1 : bits BinOp.xor IntKind.u8 (a1.toNat : Int) ((T : Int) / 256) = (x1.toNat : Int) := by
        rw [show ((T : Int) / 256) = ((T / 256 : Nat) : Int) from by simp, u8_xor_nat _ _ a1.toNat_lt (by omega), hx1, UInt8.toNat_xor, UInt8.toNat_ofNat', Nat.mod_eq_of_lt (show T / 256 < 2 ^ 8 by omega)]
      have hown2 := k3 x0
      obtain ⟨m1, m2, m3⟩ := own_cell hown2 (i + 1) (by simp; omega)
      rw [getD_set_ne (by omega), ← ha1] at m1
      rw [← ha0] at k1
      have hown3 := m3 x1
      obtain ⟨u1, p', c', hv, hle', u2, lies', u3⟩ := own_lies hown3
      simp only [Value.slice.injEq] at hv
      obtain ⟨rfl, -, rfl⟩ := hv
      have b2 : Below W.heap.size W ((w1.setCell ⟨g, i, none⟩ (.int .u8 (x0.toNat : Int))).setCell ⟨g, i + 1, none⟩ (.int .u8 (x1.toNat : Int))) := (b1.setCell hg _).setCell hg _
      have H2 := open_any _ cap ((q.set i x0).set (i + 1) x1) _ lies' hle' (HT.out.below b2) (by simp; omega)
      rw [ho, List.length_set, List.length_set] at H2
      have B2 := Lib.hid b2
      have H3 := Lib.hid H2
      clear H2 hx0 hx1 hz ho ha0 ha1 k3 m3 hown2 hown3 u1 u2 u3 lies' hle' b2
      go_wp2_with fail
      refine H3.out.mono ?_
      rintro e w3 ⟨p3, c3, rfl, le3, n3, lies3, b3⟩
      have B3 := Lib.hid b3
      go_wp2_with fail
      refine (awake_any w3 (HT.out.below (thenBelow B2.out B3.out))).mono ?_
      rintro e w4 ⟨rfl, b4⟩
      have B4 := Lib.hid b4
      go_wp2_with fail
      go_ret
      exact ⟨rfl, thenBelow (thenBelow B2.out B3.out) B4.out⟩
end Go.Proofs.YtmclbhpdopikiaaDoor
