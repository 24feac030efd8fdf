/- The statement WireEncodes, proved for every input that its row reads: part 39 of 54. -/
import Derived.Test.YtapbeokocfmlpaaDoorPackWireEncodes37
import Derived.Test.YtapbeokocfmlpaaDoorMemWide
/- The document's Num and Text behind more bytes than CoderRef's laws bear. -/
namespace Go.Proofs.YtapbeokocfmlpaaDoor
open Go Go.RowKit

set_option maxHeartbeats 1000000 in
theorem joinW_any (p1 p2 : Option Addr) (n1 n2 c1 c2 : Nat) (l1 l2 : List UInt8) (w : World) (h1 : Lies w p1 l1) (h2 : Lies w p2 l2) (q1 : p1 = none → l1 = [] ∧ c1 = 0) (q2 : p2 = none → l2 = [] ∧ c2 = 0) (e1 : n1 = l1.length) (e2 : n2 = l2.length)
    (hlen : n1 + n2 ≤ 199000000000000) :
    Calls Tryd.prog 39 #[.slice p1 n1 c1, .slice p2 n2 c2] w (RetOwn w 5 (l1 ++ l2)) := by
  have H1 := Lib.hid h1; have H2 := Lib.hid h2; have Q1 := Lib.hid q1; have Q2 := Lib.hid q2; have E1 := Lib.hid e1; have E2 := Lib.hid e2
  clear h1 h2 q1 q2 e1 e2
  go_enter Tryd.func39, Tryd.ntmps39
  go_wp2_with (at_builtin; refine wpList_bytesW isU8 _ rfl (.tmp 6) (.tmp 7) rfl w.heap.size 0 [] _ rfl (World.ownsRow_nil _ _ _ _) p1 n1 c1 l1 rfl H1.out E1.out (fun e => ⟨by rw [E1.out, (Q1.out e).1]; rfl, (Q1.out e).2⟩) (by omega) (Nat.le_refl _) ?_)
  intro v1 w1 hown hb
  have hown1 : w1.ownsRow w.heap.size 5 1 v1 n1 (bys l1) := by simpa using hown
  clear hown
  have hsz := hb.size
  have H2' := Lib.hid (H2.out.below hb)
  go_wp2_with (at_builtin; refine wpList_bytesW isU8 _ rfl (.tmp 9) (.tmp 10) rfl w.heap.size n1 l1 _ rfl hown1 p2 n2 c2 l2 rfl H2'.out E2.out (fun e => ⟨by rw [E2.out, (Q2.out e).1]; rfl, (Q2.out e).2⟩) (by omega) (by omega) ?_)
  intro v2 w2 hown2 hb2
  go_wp2
  go_ret
  exact RetOwn.of_own hown2 rfl (hb.trans hb2)

set_option maxHeartbeats 1000000 in
theorem refNumW_any (p : Option Addr) (c : Nat) (l : List UInt8) (n : Int) (w : World) (h : Given w p c l) (hn : (Lit.int .i64 n).wf = true) (hlen : l.length ≤ 149000000000000) :
    Calls Tryd.prog 18 #[.slice p l.length c, .int .i64 n] w (RetOwn w 5 (l ++ Cod.enc n.toNat)) := by
  have hr := int_range hn
  have hby := refBytes_any n.toNat (by omega) w
  have hel := enc_len n.toNat
  have HB := Lib.hid hby; have H := Lib.hid h; clear hby h hn
  by_cases h0 : n < 0
  · have e0 : n.toNat = 0 := by omega
    rw [e0] at HB hel ⊢
    go_enter Tryd.func18, Tryd.ntmps18
    go_wp2_with fail
    refine HB.out.mono ?_
    intro e w1 hr1
    obtain ⟨p1, c1, rfl, g1, b1⟩ := hr1.given
    have G1 := Lib.hid g1; have B1 := Lib.hid b1; clear hr1
    go_wp2_with fail
    refine (joinW_any p p1 _ _ c c1 l (Cod.enc 0) w1 (H.out.lies.below B1.out) G1.out.lies H.out.none G1.out.none rfl rfl (by omega)).mono ?_
    intro e w2 hr2
    obtain ⟨v, rfl, hown, b2⟩ := hr2.after B1.out
    have O2 := Lib.hid hown; have B2 := Lib.hid b2; clear hown hr2
    go_wp2_with fail
    go_ret
    exact ⟨v, rfl, O2.out, B2.out⟩
  · obtain ⟨m, rfl⟩ := Int.eq_ofNat_of_zero_le (show 0 ≤ n by omega)
    rw [Int.toNat_natCast] at HB hel ⊢
    go_enter Tryd.func18, Tryd.ntmps18
    go_wp2_with fail
    refine HB.out.mono ?_
    intro e w1 hr1
    obtain ⟨p1, c1, rfl, g1, b1⟩ := hr1.given
    have G1 := Lib.hid g1; have B1 := Lib.hid b1; clear hr1
    go_wp2_with fail
    refine (joinW_any p p1 _ _ c c1 l (Cod.enc m) w1 (H.out.lies.below B1.out) G1.out.lies H.out.none G1.out.none rfl rfl (by omega)).mono ?_
    intro e w2 hr2
    obtain ⟨v, rfl, hown, b2⟩ := hr2.after B1.out
    have O2 := Lib.hid hown; have B2 := Lib.hid b2; clear hown hr2
    go_wp2_with fail
    go_ret
    exact ⟨v, rfl, O2.out, B2.out⟩

set_option maxHeartbeats 1000000 in
theorem refTextW_any (p : Option Addr) (c : Nat) (l : List UInt8) (s : ByteArray) (w : World) (h : Given w p c l) (hlen : l.length + s.size ≤ 149000000000000) :
    Calls Tryd.prog 44 #[.slice p l.length c, .string s] w (RetOwn w 5 (l ++ Cod.enc s.size ++ s.data.toList)) := by
  have hcv := fun w s => run_bytes_of_string (P := Tryd.prog) w 9 32 5 s Tryd.underlying9 Tryd.underlying32 Tryd.underlying5
  have hel := enc_len s.size
  have tl : s.data.toList.length = s.size := Array.length_toList
  have HN := Lib.hid (refNumW_any p c l (s.size : Nat) w h (by simp [Lit.wf, IntKind.min, IntKind.max, IntKind.bits, IntKind.signed]; omega) (by omega))
  have TL := Lib.hid tl
  clear h tl
  go_enter Tryd.func44, Tryd.ntmps44
  go_wp2_with fail
  refine HN.out.mono ?_
  intro e w1 hr1
  rw [Int.toNat_natCast] at hr1
  obtain ⟨L1, hL1⟩ : ∃ L, L = l ++ Cod.enc s.size := ⟨_, rfl⟩
  rw [← hL1] at hr1
  have k1 : L1.length ≤ l.length + 9 := by rw [hL1, List.length_append]; omega
  obtain ⟨p1, c1, rfl, g1, b1⟩ := hr1.given
  have G1 := Lib.hid g1; have B1 := Lib.hid b1; have HL1 := Lib.hid hL1
  clear hr1 g1 b1 hL1 HN
  go_wp2_with fail
  have L2 := Lib.hid (lies_row w1.drew 5 ((bytesRow s (grownCap w1 s.size 0 5)).size, (bytesRow s (grownCap w1 s.size 0 5)).size + 1) s.data.toList (bytesRow s (grownCap w1 s.size 0 5)) (fun i hi => by
    have hi' : i < s.data.size := by simpa using hi
    rw [bytesRow_at s _ i hi']
    simp [List.getD, List.getElem?_eq_getElem hi]))
  have B2 := Lib.hid ((Below.refl w1.heap.size w1).drew.alloc (Nat.le_refl _) (.cells (bytesRow s (grownCap w1 s.size 0 5)) 5 ((bytesRow s (grownCap w1 s.size 0 5)).size, (bytesRow s (grownCap w1 s.size 0 5)).size + 1)))
  refine (joinW_any p1 _ _ _ c1 _ L1 s.data.toList _ (G1.out.lies.below B2.out) L2.out G1.out.none (fun e => by cases e) rfl TL.out.symm (by omega)).mono ?_
  intro e w2 hr2
  obtain ⟨v, rfl, hown, b2⟩ := hr2.after (thenBelow B1.out B2.out)
  rw [HL1.out] at hown
  have O2 := Lib.hid hown; have B3 := Lib.hid b2; clear hown hr2
  go_wp2_with fail
  go_ret
  exact ⟨v, rfl, O2.out, B3.out⟩

end Go.Proofs.YtapbeokocfmlpaaDoor
