/- The contracts of the document's own Num, Sign, Text; and of coder's Text. -/
import Derived.Test.YtkkepfbckpmbhaaCoderRef
namespace Go.Proofs.Ytkkepfbckpmbhaa
open Go Go.RowKit

/-- bytes as a call may be handed them: what came in, or the call's own -/
structure Given (w : World) (p : Option Addr) (c : Nat) (l : List UInt8) : Prop where
  lies : Lies w p l
  le : l.length ≤ c
  none : p = none → l = [] ∧ c = 0
theorem Given.below {w w' : World} {p : Option Addr} {c : Nat} {l : List UInt8} (h : Given w p c l) (hb : Below w.heap.size w w') : Given w' p c l := ⟨h.lies.below hb, h.le, h.none⟩
theorem RetOwn.given {w w' : World} {ty : TypeId} {l : List UInt8} {e : Ending} (h : RetOwn w ty l e w') : ∃ p c, e = .returned (.slice p l.length c) ∧ Given w' p c l ∧ Below w.heap.size w w' := by
  obtain ⟨v, he, ho, hb⟩ := h
  obtain ⟨_, p, c, rfl, h1, _, h3, h4⟩ := own_lies ho
  exact ⟨p, c, he, ⟨h3, h1, h4⟩, hb⟩

theorem enc_len (x : Nat) : (Cod.enc x).length ≤ 9 := by rw [Cod.enc_length]; have := Cod.bh_le x; omega

set_option maxHeartbeats 1000000 in
theorem refNum_any (p : Option Addr) (c : Nat) (l : List UInt8) (n : Int) (w : World) (h : Given w p c l) (hn : (Lit.int .i64 n).wf = true) (hlen : l.length ≤ 140737488355000) :
    Calls Try.prog 56 #[.slice p l.length c, .int .i64 n] w (RetOwn w 5 (l ++ Cod.enc n.toNat)) := by
  have hr := int_range hn
  have hby := refBytes_any n.toNat (by omega) w
  have hel := enc_len n.toNat
  have HB := Lib.hid hby; have H := Lib.hid h; clear hby h hn
  by_cases h0 : n < 0
  · have e0 : n.toNat = 0 := by omega
    rw [e0] at HB hel ⊢
    go_enter Try.func56, Try.ntmps56
    go_wp2_with fail
    refine HB.out.mono ?_
    intro e w1 hr1
    obtain ⟨p1, c1, rfl, g1, b1⟩ := hr1.given
    have G1 := Lib.hid g1; have B1 := Lib.hid b1; clear hr1
    go_wp2_with fail
    refine (join_any p p1 _ _ c c1 l (Cod.enc 0) w1 (H.out.lies.below B1.out) G1.out.lies H.out.none G1.out.none rfl rfl (by omega)).mono ?_
    intro e w2 hr2
    obtain ⟨v, rfl, hown, b2⟩ := hr2.after B1.out
    have O2 := Lib.hid hown; have B2 := Lib.hid b2; clear hown hr2
    go_wp2_with fail
    go_ret
    exact ⟨v, rfl, O2.out, B2.out⟩
  · obtain ⟨m, rfl⟩ := Int.eq_ofNat_of_zero_le (show 0 ≤ n by omega)
    rw [Int.toNat_natCast] at HB hel ⊢
    go_enter Try.func56, Try.ntmps56
    go_wp2_with fail
    refine HB.out.mono ?_
    intro e w1 hr1
    obtain ⟨p1, c1, rfl, g1, b1⟩ := hr1.given
    have G1 := Lib.hid g1; have B1 := Lib.hid b1; clear hr1
    go_wp2_with fail
    refine (join_any p p1 _ _ c c1 l (Cod.enc m) w1 (H.out.lies.below B1.out) G1.out.lies H.out.none G1.out.none rfl rfl (by omega)).mono ?_
    intro e w2 hr2
    obtain ⟨v, rfl, hown, b2⟩ := hr2.after B1.out
    have O2 := Lib.hid hown; have B2 := Lib.hid b2; clear hown hr2
    go_wp2_with fail
    go_ret
    exact ⟨v, rfl, O2.out, B2.out⟩

end Go.Proofs.Ytkkepfbckpmbhaa
