/- The contracts of the document's own Num, Sign, Text; and of coder's Text. -/
import Derived.Test.YtgdhaijaiogiiaaCoderRef
namespace Go.Proofs.Ytgdhaijaiogiiaa
open Go Go.RowKit

/-- bytes as a call may be handed them: what came in, or the call's own -/
structure Given (w : World) (p : Option Addr) (c : Nat) (l : List UInt8) : Prop where
  lies : Lies w p l
  le : l.length ≤ c
  none : p = none → l = [] ∧ c = 0
theorem Given.below {w w' : World} {p : Option Addr} {c : Nat} {l : List UInt8} (h : Given w p c l) (hb : Below w.heap.size w w') : Given w' p c l := ⟨h.lies.below hb, h.le, h.none⟩
theorem RetOwn.given {w w' : World} {ty : TypeId} {l : List UInt8} {e : Ending} (h : RetOwn w ty l e w') : ∃ p c, e = .returned (.slice p l.length c) ∧ Given w' p c l ∧ Below w.heap.size w w' := by
  obtain ⟨v, he, ho, hb⟩ := h
  obtain ⟨_, p, c, rfl, h1, _, h3, h4⟩ := own_lies ho
  exact ⟨p, c, he, ⟨h3, h1, h4⟩, hb⟩

theorem enc_len (x : Nat) : (Cod.enc x).length ≤ 9 := by rw [Cod.enc_length]; have := Cod.bh_le x; omega

set_option maxHeartbeats 1000000 in
theorem refNum_any (p : Option Addr) (c : Nat) (l : List UInt8) (n : Int) (w : World) (h : Given w p c l) (hn : (Lit.int .i64 n).wf = true) (hlen : l.length ≤ 140737488355000) :
    Calls Try.prog 12 #[.slice p l.length c, .int .i64 n] w (RetOwn w 5 (l ++ Cod.enc n.toNat)) := by
  have hr := int_range hn
  have hby := refBytes_any n.toNat (by omega) w
  have hel := enc_len n.toNat
  have HB := Lib.hid hby; have H := Lib.hid h; clear hby h hn
  by_cases h0 : n < 0
  · have e0 : n.toNat = 0 := by omega
    rw [e0] at HB hel ⊢
    go_enter Try.func12, Try.ntmps12
    go_wp2_with fail
    refine HB.out.mono ?_
    intro e w1 hr1
    obtain ⟨p1, c1, rfl, g1, b1⟩ := hr1.given
    have G1 := Lib.hid g1; have B1 := Lib.hid b1; clear hr1
    go_wp2_with fail
    refine (join_any p p1 _ _ c c1 l (Cod.enc 0) w1 (H.out.lies.below B1.out) G1.out.lies H.out.none G1.out.none rfl rfl (by omega)).mono ?_
    intro e w2 hr2
    obtain ⟨v, rfl, hown, b2⟩ := hr2.after B1.out
    have O2 := Lib.hid hown; have B2 := Lib.hid b2; clear hown hr2
    go_wp2_with fail
    go_ret
    exact ⟨v, rfl, O2.out, B2.out⟩
  · obtain ⟨m, rfl⟩ := Int.eq_ofNat_of_zero_le (show 0 ≤ n by omega)
    rw [Int.toNat_natCast] at HB hel ⊢
    go_enter Try.func12, Try.ntmps12
    go_wp2_with fail
    refine HB.out.mono ?_
    intro e w1 hr1
    obtain ⟨p1, c1, rfl, g1, b1⟩ := hr1.given
    have G1 := Lib.hid g1; have B1 := Lib.hid b1; clear hr1
    go_wp2_with fail
    refine (join_any p p1 _ _ c c1 l (Cod.enc m) w1 (H.out.lies.below B1.out) G1.out.lies H.out.none G1.out.none rfl rfl (by omega)).mono ?_
    intro e w2 hr2
    obtain ⟨v, rfl, hown, b2⟩ := hr2.after B1.out
    have O2 := Lib.hid hown; have B2 := Lib.hid b2; clear hown hr2
    go_wp2_with fail
    go_ret
    exact ⟨v, rfl, O2.out, B2.out⟩

set_option maxHeartbeats 1000000 in
theorem refSign_any (p : Option Addr) (c : Nat) (l : List UInt8) (n : Int) (w : World) (h : Given w p c l) (hn : (Lit.int .i64 n).wf = true) (hlen : l.length ≤ 140737488355000) :
    Calls Try.prog 14 #[.slice p l.length c, .int .i64 n] w (RetOwn w 5 (l ++ Cod.enc (zz n))) := by
  obtain ⟨hr1, hr2⟩ := int_range hn
  have hby := refBytes_any (zz n) (zz_lt ⟨hr1, hr2⟩) w
  have hel := enc_len (zz n)
  have HB := Lib.hid hby; have H := Lib.hid h; clear hby h hn
  obtain ⟨z, hz⟩ : ∃ z, z = zz n := ⟨_, rfl⟩
  rw [← hz] at HB hel ⊢
  by_cases h0 : n < 0
  · have hz2 : z = (2 * (-(n + 1)) + 1).toNat := by rw [hz]; unfold zz; rw [if_pos h0]
    have hzi : 2 * -(n + 1) + 1 = (z : Int) := by omega
    have HZ := Lib.hid hzi
    clear hz hz2 hzi
    go_enter Try.func14, Try.ntmps14
    go_wp2_with fail
    rw [HZ.out]
    refine HB.out.mono ?_
    intro e w1 hr1
    obtain ⟨p1, c1, rfl, g1, b1⟩ := hr1.given
    have G1 := Lib.hid g1; have B1 := Lib.hid b1; clear hr1
    go_wp2_with fail
    refine (join_any p p1 _ _ c c1 l (Cod.enc z) w1 (H.out.lies.below B1.out) G1.out.lies H.out.none G1.out.none rfl rfl (by omega)).mono ?_
    intro e w2 hr2
    obtain ⟨v, rfl, hown, b2⟩ := hr2.after B1.out
    have O2 := Lib.hid hown; have B2 := Lib.hid b2; clear hown hr2
    go_wp2_with fail
    go_ret
    exact ⟨v, rfl, O2.out, B2.out⟩
  · have hz2 : z = (2 * n).toNat := by rw [hz]; unfold zz; rw [if_neg h0]
    have hzi : 2 * n = (z : Int) := by omega
    have HZ := Lib.hid hzi
    clear hz hz2 hzi
    go_enter Try.func14, Try.ntmps14
    go_wp2_with fail
    rw [HZ.out]
    refine HB.out.mono ?_
    intro e w1 hr1
    obtain ⟨p1, c1, rfl, g1, b1⟩ := hr1.given
    have G1 := Lib.hid g1; have B1 := Lib.hid b1; clear hr1
    go_wp2_with fail
    refine (join_any p p1 _ _ c c1 l (Cod.enc z) w1 (H.out.lies.below B1.out) G1.out.lies H.out.none G1.out.none rfl rfl (by omega)).mono ?_
    intro e w2 hr2
    obtain ⟨v, rfl, hown, b2⟩ := hr2.after B1.out
    have O2 := Lib.hid hown; have B2 := Lib.hid b2; clear hown hr2
    go_wp2_with fail
    go_ret
    exact ⟨v, rfl, O2.out, B2.out⟩

set_option maxHeartbeats 1000000 in
theorem text_any (p : Option Addr) (c : Nat) (l : List UInt8) (s : ByteArray) (w : World) (h : Given w p c l) (hlen : l.length + s.size ≤ 140737488355000) :
    Calls Try.prog 16 #[.slice p l.length c, .string s] w (RetOwn w 5 (l ++ Cod.enc s.size ++ s.data.toList)) := by
  have hcut := cutOff_any p l.length c h.le w
  have hput := put_any w.heap.size (.slice p l.length l.length) l s.size w (.inr ⟨p, rfl, h.lies, fun e => (h.none e).1⟩) (Nat.le_refl _) (by omega) (by omega)
  have hel := enc_len s.size
  have HP := Lib.hid hput; clear hput h
  go_enter Try.func16, Try.ntmps16
  go_wp2_with fail
  refine hcut.mono ?_
  rintro e w' ⟨rfl, rfl⟩
  go_wp2_with fail
  refine HP.out.mono ?_
  rintro e w1 ⟨v, rfl, hown, hb⟩
  have hl2 : (l ++ Cod.enc s.size).length ≤ l.length + 9 := by simp; omega
  go_wp2_with (at_builtin; refine wpList_text isU8 Try.underlying9 _ rfl _ _ rfl w.heap.size _ (l ++ Cod.enc s.size) _ rfl hown s rfl (by omega) hb.size ?_)
  intro v' w2 hown' hb'
  go_wp2
  go_ret
  exact RetOwn.of_own (by rw [List.append_assoc]; exact hown') rfl (hb.trans hb')
end Go.Proofs.Ytgdhaijaiogiiaa
