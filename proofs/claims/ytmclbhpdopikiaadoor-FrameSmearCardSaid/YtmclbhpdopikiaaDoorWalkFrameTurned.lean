/- The walk of FrameTurned. -/
import Derived.Test.YtmclbhpdopikiaaDoorFrameAwake
import Derived.Test.YtmclbhpdopikiaaDoorOpen
import Derived.Outline
namespace Go.Proofs.YtmclbhpdopikiaaDoor
open Go Go.RowKit

theorem be4_inj {a b : Nat} (ha : a < 4294967296) (hb : b < 4294967296) (h : be4 a = be4 b) : a = b := by
  rw [← val_be4 a ha, ← val_be4 b hb, h]
theorem xor_ne {b d : UInt8} (h : d ≠ 0) : b ^^^ d ≠ b := by
  intro e
  have h2 : (b ^^^ d).toNat = b.toNat := by rw [e]
  rw [UInt8.toNat_xor] at h2
  exact h (UInt8.toNat_inj.1 (by simpa using Frm.xor_cancel (a := b.toNat) (b := d.toNat) h2.symm))
theorem opens_turned (l : List UInt8) (i : Nat) (hi : i < (sealed l).length) (d : UInt8) (hd : d ≠ 0) : opens ((sealed l).set i ((sealed l).getD i 0 ^^^ d)) = ([], 6) := by
  have hb4 : (be4 (Frm.crc l)).length = 4 := rfl
  have hlen := sealed_length l
  have ht : (sealed l).take 4 = be4 (Frm.crc l) := by simp [sealed, be4]
  have hdr : (sealed l).drop 4 = l := by simp [sealed, be4]
  unfold opens
  rw [if_neg (by simp; omega), if_neg]
  rw [List.take_set, List.drop_set, ht, hdr]
  by_cases h4 : i < 4
  · rw [if_pos h4]
    intro e
    have h1 := congrArg (fun t => t.getD i 0) e
    have h2 : (sealed l).getD i 0 = (be4 (Frm.crc l)).getD i 0 := by
      rw [← ht]; simp [List.getD, List.getElem?_take, h4]
    have h3 : i < (be4 (Frm.crc l)).length := by omega
    simp only [h2] at h1
    simp [List.getD, h3] at h1
    exact xor_ne hd h1
  · rw [if_neg h4, List.set_eq_of_length_le (by omega)]
    intro e
    have hj : i - 4 < l.length := by omega
    have h2 : (sealed l).getD i 0 = l[i - 4] := by
      have : (sealed l)[i]? = l[i - 4]? := by
        unfold sealed
        rw [List.getElem?_append_right (by omega), hb4]
      simp [List.getD, this, List.getElem?_eq_getElem hj]
    rw [h2] at e
    have hs : l.set (i - 4) (l[i - 4] ^^^ d) = l.take (i - 4) ++ [l[i - 4] ^^^ d] ++ l.drop (i - 4 + 1) := by
      rw [List.set_eq_take_append_cons_drop, if_pos hj]; simp
    have hl : l = l.take (i - 4) ++ [l[i - 4]] ++ l.drop (i - 4 + 1) := by
      conv => lhs; rw [← List.take_append_drop (i - 4) l, List.drop_eq_getElem_cons hj]
      simp
    have h5 := be4_inj (Frm.crc_lt _) (Frm.crc_lt _) e
    rw [hs] at h5
    have h6 : Frm.crc l = Frm.crc (l.take (i - 4) ++ [l[i - 4]] ++ l.drop (i - 4 + 1)) := congrArg Frm.crc hl
    exact Frm.crc_one _ _ _ _ hd (h5.symm.trans h6)

set_option maxHeartbeats 2000000 in
set_option maxRecDepth 100000 in
theorem frameTurned_walk (p : Option Addr) (c : Nat) (l : List UInt8) (at_ x : Int) (W : World) (h : Came W p c l) (hat : (Lit.int .i64 at_).wf = true) (hx : (Lit.int .u8 x).wf = true) (hT : Table W) :
    Calls Tryd.prog 6 #[.slice p l.length c, .int .i64 at_, .int .u8 x] W (Yes W) := by
  have HL := Lib.hid h.lies
  have HN := Lib.hid h.none
  have hr := h.reach
  have hle := h.le
  have HT := Lib.hid hT; clear hT h
  obtain ⟨d, rfl⟩ := byte_of hx
  have hd2 := d.toNat_lt
  clear hx
  have H1 := seal_own p c l W HL.out HN.out HT.out (by omega)
  have hn := sealed_length l
  obtain ⟨q, hq⟩ : ∃ q, q = sealed l := ⟨_, rfl⟩
  rw [← hq] at H1 hn
  have HQ := Lib.hid hq
  have HN4 := Lib.hid hn
  have hn1 : 4 ≤ q.length := by omega
  have hn2 : q.length ≤ 140737488355000 := by omega
  clear hn hq
  by_cases hx3 : d = 0
  · subst hx3
    have hxb : (((0 : UInt8).toNat : Int) == 0) = true := rfl
    go_enter Tryd.func6, Tryd.ntmps6
    go_wp2_with fail
    refine H1.mono ?_
    rintro e w1 ⟨v, rfl, hown, b1⟩
    obtain ⟨g, cap, rfl, hg⟩ := own_some hown (by omega)
    have O1 := Lib.hid hown; have B1 := Lib.hid b1; clear hown
    go_wp2_with fail
    refine (awake_any w1 (HT.out.below B1.out)).mono ?_
    rintro e w4 ⟨rfl, b4⟩
    have B4 := Lib.hid b4
    go_wp2_with fail
    go_ret
    exact ⟨rfl, thenBelow B1.out B4.out⟩
  · have hxb : ((d.toNat : Int) == 0) = false := by
      have : d.toNat ≠ 0 := fun e => hx3 (UInt8.toNat_inj.1 (by simpa using e))
      simp; omega
    have hlen : ((q.length : Int) == 0) = false := beq_eq_false_iff_ne.2 (by omega)
    obtain ⟨i, hi, hidx, hiv⟩ := uidx at_ q.length (by omega) (by omega)
    clear hiv
    have ho : opens (q.set i (q.getD i 0 ^^^ d)) = ([], 6) := by rw [HQ.out]; exact opens_turned l i (by rw [← HQ.out]; exact hi) d hx3
    have HO := Lib.hid ho; clear ho
    obtain ⟨b, hb⟩ : ∃ b, b = q.getD i 0 := ⟨_, rfl⟩
    have hbx : bits BinOp.xor IntKind.u8 (b.toNat : Int) (d.toNat : Int) = ((b ^^^ d).toNat : Int) := by
      rw [u8_xor_nat _ _ b.toNat_lt d.toNat_lt, UInt8.toNat_xor]
    rw [← hb] at HO
    obtain ⟨bx, hbe⟩ : ∃ bx, bx = b ^^^ d := ⟨_, rfl⟩
    rw [← hbe] at hbx HO
    clear hbe
    have HB := Lib.hid hb; clear hb
    go_enter Tryd.func6, Tryd.ntmps6
    go_wp2_with fail
    refine H1.mono ?_
    rintro e w1 ⟨v, rfl, hown, b1⟩
    obtain ⟨g, cap, rfl, hg⟩ := own_some hown (by omega)
    obtain ⟨k1, k2, k3⟩ := own_cell hown i hi
    rw [← HB.out] at k1
    have hown2 := k3 bx
    obtain ⟨u1, p', c', hv, hle', u2, lies', u3⟩ := own_lies hown2
    simp only [Value.slice.injEq] at hv
    obtain ⟨rfl, -, rfl⟩ := hv
    have b2 : Below W.heap.size W (w1.setCell ⟨g, i, none⟩ (.int .u8 (bx.toNat : Int))) := b1.setCell hg _
    have H2 := open_any _ cap (q.set i bx) _ lies' hle' (HT.out.below b2) (by simp; omega)
    rw [HO.out, List.length_set] at H2
    have B2 := Lib.hid b2
    have H3 := Lib.hid H2
    clear H2
    clear hown hown2 k3 lies' hle' b2 u1 u2 u3
    go_wp2_with fail
    refine H3.out.mono ?_
    rintro e w3 ⟨p3, c3, rfl, le3, n3, lies3, b3⟩
    have B3 := Lib.hid b3
    go_wp2_with fail
    refine (awake_any w3 (HT.out.below (thenBelow B2.out B3.out))).mono ?_
    rintro e w4 ⟨rfl, b4⟩
    have B4 := Lib.hid b4
    go_wp2_with fail
    go_ret
    exact ⟨rfl, thenBelow (thenBelow B2.out B3.out) B4.out⟩
end Go.Proofs.YtmclbhpdopikiaaDoor
