/- The contracts of the document's own Num, Sign, Text; and of coder's Text. -/
import Derived.Test.YtffjbgbcaijlnaaDoorCoderRef
namespace Go.Proofs.YtffjbgbcaijlnaaDoor
open Go Go.RowKit

/-- bytes as a call may be handed them: what came in, or the call's own -/
structure Given (w : World) (p : Option Addr) (c : Nat) (l : List UInt8) : Prop where
  lies : Lies w p l
  le : l.length ≤ c
  none : p = none → l = [] ∧ c = 0
theorem Given.below {w w' : World} {p : Option Addr} {c : Nat} {l : List UInt8} (h : Given w p c l) (hb : Below w.heap.size w w') : Given w' p c l := ⟨h.lies.below hb, h.le, h.none⟩
theorem RetOwn.given {w w' : World} {ty : TypeId} {l : List UInt8} {e : Ending} (h : RetOwn w ty l e w') : ∃ p c, e = .returned (.slice p l.length c) ∧ Given w' p c l ∧ Below w.heap.size w w' := by
  obtain ⟨v, he, ho, hb⟩ := h
  obtain ⟨_, p, c, rfl, h1, _, h3, h4⟩ := own_lies ho
  exact ⟨p, c, he, ⟨h3, h1, h4⟩, hb⟩

theorem enc_len (x : Nat) : (Cod.enc x).length ≤ 9 := by rw [Cod.enc_length]; have := Cod.bh_le x; omega

set_option maxHeartbeats 1000000 in
theorem text_any (p : Option Addr) (c : Nat) (l : List UInt8) (s : ByteArray) (w : World) (h : Given w p c l) (hlen : l.length + s.size ≤ 140737488355000) :
    Calls Tryd.prog 72 #[.slice p l.length c, .string s] w (RetOwn w 5 (l ++ Cod.enc s.size ++ s.data.toList)) := by
  have hcut := cutOff_any p l.length c h.le w
  have hput := put_any w.heap.size (.slice p l.length l.length) l s.size w (.inr ⟨p, rfl, h.lies, fun e => (h.none e).1⟩) (Nat.le_refl _) (by omega) (by omega)
  have hel := enc_len s.size
  have HP := Lib.hid hput; clear hput h
  go_enter Tryd.func72, Tryd.ntmps72
  go_wp2_with fail
  refine hcut.mono ?_
  rintro e w' ⟨rfl, rfl⟩
  go_wp2_with fail
  refine HP.out.mono ?_
  rintro e w1 ⟨v, rfl, hown, hb⟩
  have hl2 : (l ++ Cod.enc s.size).length ≤ l.length + 9 := by simp; omega
  go_wp2_with (at_builtin; refine wpList_text isU8 Tryd.underlying9 _ rfl _ _ rfl w.heap.size _ (l ++ Cod.enc s.size) _ rfl hown s rfl (by omega) hb.size ?_)
  intro v' w2 hown' hb'
  go_wp2
  go_ret
  exact RetOwn.of_own (by rw [List.append_assoc]; exact hown') rfl (hb.trans hb')
end Go.Proofs.YtffjbgbcaijlnaaDoor
