/- The contract of fold's Text; the example that each law of layer 4 ends with. -/
import Derived.Test.YtldfomggeleolaaDoorUtfPut
import Derived.Test.YtldfomggeleolaaDoorUtfValid
import Derived.Test.YtldfomggeleolaaDoorFoldSigns
namespace Go.Proofs.YtldfomggeleolaaDoor
open Go Go.RowKit

namespace Utf
theorem enc_le (r : Int) : (enc r).length ≤ 4 := by
  unfold enc
  split
  · have := sh_le r
    simp only [encK, List.length_cons, List.length_map, List.length_range]; omega
  · simp
def piece (s : ByteArray) (p : Nat) : List UInt8 := if Fol.lower (nx s p).1 = (nx s p).1 then (s.data.toList.drop p).take (nx s p).2 else enc (Fol.lower (nx s p).1)
def ft (s : ByteArray) : Nat → Nat → List UInt8
  | 0, _ => []
  | f + 1, p => if p < s.size then piece s p ++ ft s f (p + (nx s p).2) else []
theorem ft_step (s : ByteArray) (f p : Nat) (h : p < s.size) (hf : s.size ≤ p + f) : ft s f p = piece s p ++ ft s (f - 1) (p + (nx s p).2) := by
  cases f with
  | zero => omega
  | succ f => rw [ft, if_pos h]; rfl
theorem ft_end (s : ByteArray) (f p : Nat) (h : s.size ≤ p) : ft s f p = [] := by
  cases f with
  | zero => rfl
  | succ f => rw [ft, if_neg (by omega)]
end Utf

def RetS (w : World) (s : ByteArray) (e : Ending) (w' : World) : Prop := e = .returned (.string s) ∧ Below w.heap.size w w'

set_option maxHeartbeats 2000000 in
set_option maxRecDepth 100000 in
theorem foldText_is (s : ByteArray) (w : World) (hs : s.size ≤ 1000000) (hT : Shapes w) (hG : Great w) :
    Calls Tryd.prog 20 #[.string s] w (RetS w ⟨(Utf.ft s s.size 0).toArray⟩) := by
  have HT := Lib.hid hT; have HG := Lib.hid hG
  clear hT hG
  obtain ⟨R, hR⟩ : ∃ R, R = Utf.ft s s.size 0 := ⟨_, rfl⟩
  rw [← hR]
  have HR := Lib.hid hR
  clear hR
  go_enter Tryd.func20, Tryd.ntmps20
  go_wp2_with (refine wpList_makeBytes isU8 _ rfl _ _ rfl _ _ _ s.size rfl rfl rfl (by omega) ?_)
  intro v0 w0 hown0 hb0
  have O0 := Lib.hid hown0; have B0 := Lib.hid hb0
  clear hown0 hb0
  go_wp2
  go_loopw [3, 4] (fun v i wr => ∃ (p f : Nat) (out : List UInt8), p ≤ s.size ∧ s.size ≤ p + f ∧ i = .int .i64 p ∧ out.length ≤ 4 * p ∧ R = out ++ Utf.ft s f p ∧ wr.ownsRow w.heap.size 5 1 v out.length (bys out) ∧ Below w.heap.size w wr) (fun _ i _ => s.size - (intOf i).toNat)
  case atStart => exact ⟨0, s.size, [], Nat.zero_le _, by omega, rfl, by simp, HR.out, O0.out, B0.out⟩
  case round =>
    obtain ⟨p, f, out, hp, hf, rfl, hol, hrest, hown, hb⟩ := hrel
    have RE := Lib.hid hrest; have OW := Lib.hid hown; have BW := Lib.hid hb
    have TW := Lib.hid (HT.out.below hb); have GW := Lib.hid (RowsAt.below HG.out hb)
    have hsz := hb.size
    clear hrest hown hb
    by_cases hps : p < s.size
    · have hn := next_in s p wr hps (by omega) TW.out
      have hst := Utf.nx_step s p hps
      have hsm := Utf.nx_small s p
      have hft := Utf.ft_step s f p hps hf
      have hpc : Hid (Utf.piece s p = if Fol.lower (Utf.nx s p).1 = (Utf.nx s p).1 then (s.data.toList.drop p).take (Utf.nx s p).2 else Utf.enc (Fol.lower (Utf.nx s p).1)) := rfl
      generalize (Utf.nx s p).1 = x at hn hsm hpc
      generalize (Utf.nx s p).2 = n at hn hst hft hpc
      obtain ⟨n1, n2, n3⟩ := hst
      obtain ⟨x1, x2⟩ := hsm
      have FT := Lib.hid hft; have NX := Lib.hid hn
      clear hft hn
      have hlw := lower_any x wr (by simp [Lit.wf, IntKind.min, IntKind.max, IntKind.bits, IntKind.signed]; omega) GW.out
      have hps' : (p : Int) < s.size := by omega
      have hle4 := Utf.enc_le (Fol.lower x)
      obtain ⟨y, hy⟩ : ∃ y, y = Fol.lower x := ⟨_, rfl⟩
      rw [← hy] at hlw hpc hle4
      have LW := Lib.hid hlw
      clear hlw hy
      go_wp2_with fail
      refine NX.out.mono ?_
      rintro e w' ⟨rfl, rfl⟩
      go_wp2_with fail
      refine LW.out.mono ?_
      rintro e w1 ⟨rfl, hb1⟩
      have B1 := Lib.hid (thenBelow BW.out hb1)
      have O1 := Lib.hid (own_later OW.out hb1)
      have T1 := Lib.hid (TW.out.below hb1)
      have S1 := B1.out.size
      clear hb1 NX LW
      by_cases hxy : y = x
      · have hpc' : Hid (Utf.piece s p = (s.data.toList.drop p).take n) := by
          have := hpc.out; rw [if_pos hxy] at this; exact this
        have hes : (s.extract p (p + n)).size = n := by rw [ByteArray.size_extract]; omega
        clear hpc
        subst hxy
        go_wp2_with (at_builtin; refine wpList_text isU8 Tryd.underlying9 _ rfl _ _ rfl w.heap.size _ out _ rfl O1.out (s.extract p (p + n)) rfl (by omega) S1 ?_)
        intro v2 w2 hown2 hb2
        have O2 : Hid (w2.ownsRow w.heap.size 5 1 v2 (out ++ Utf.piece s p).length (bys (out ++ Utf.piece s p))) := by
          show w2.ownsRow w.heap.size 5 1 v2 (out ++ Utf.piece s p).length (bys (out ++ Utf.piece s p))
          rw [hpc'.out]
          rw [(own_lies hown2).1] at hown2
          exact hown2
        have E2 : Hid ((out ++ Utf.piece s p).length ≤ 4 * (p + n)) := by
          show (out ++ Utf.piece s p).length ≤ 4 * (p + n)
          have e1 : ((s.data.toList.drop p).take n).length ≤ n := by rw [List.length_take]; omega
          rw [hpc'.out, List.length_append]; omega
        have B2 := Lib.hid (B1.out.trans hb2)
        clear hown2 hb2
        go_wp2
        go_roundw
        case rel => exact ⟨p + n, f - 1, out ++ Utf.piece s p, by omega, by omega, by go_num, E2.out, by rw [RE.out, FT.out, List.append_assoc], O2.out, B2.out⟩
        case measure => simp [intOf]; omega
      · have hpc' : Hid (Utf.piece s p = Utf.enc y) := by
          have := hpc.out; rw [if_neg hxy] at this; exact this
        clear hpc
        have PUT := Lib.hid (put_is none 0 [] y w1 (Lies.nil _ _) (fun _ => ⟨rfl, rfl⟩) (by simp) T1.out)
        go_wp2_with fail
        refine PUT.out.mono ?_
        rintro e w2 ⟨v2, rfl, hown2, hb2⟩
        rw [List.nil_append] at hown2
        obtain ⟨L, hL⟩ : ∃ L, L = Utf.enc y := ⟨_, rfl⟩
        rw [← hL] at hown2 hle4
        obtain ⟨_, p2, c2, rfl, _, _, lies2, none2⟩ := own_lies hown2
        have L2 := Lib.hid lies2; have N2 := Lib.hid none2
        have O2 := Lib.hid (own_later O1.out hb2); have B2 := Lib.hid (thenBelow B1.out hb2)
        have S2 := B2.out.size
        have HLE := Lib.hid hL
        clear hown2 hb2 lies2 none2 PUT hL
        go_wp2_with (at_builtin; refine wpList_bytes isU8 _ rfl _ _ rfl w.heap.size _ out _ rfl O2.out p2 L.length c2 L rfl L2.out rfl (fun e => ⟨by rw [(N2.out e).1]; rfl, (N2.out e).2⟩) (by omega) S2 ?_)
        intro v3 w3 hown3 hb3
        have O3 : Hid (w3.ownsRow w.heap.size 5 1 v3 (out ++ Utf.piece s p).length (bys (out ++ Utf.piece s p))) := by
          show w3.ownsRow w.heap.size 5 1 v3 (out ++ Utf.piece s p).length (bys (out ++ Utf.piece s p))
          rw [hpc'.out, ← HLE.out]
          rw [(own_lies hown3).1] at hown3
          exact hown3
        have E3 : Hid ((out ++ Utf.piece s p).length ≤ 4 * (p + n)) := by
          show (out ++ Utf.piece s p).length ≤ 4 * (p + n)
          rw [hpc'.out, ← HLE.out, List.length_append]; omega
        have B3 := Lib.hid (B2.out.trans hb3)
        clear hown3 hb3
        go_wp2
        go_roundw
        case rel => exact ⟨p + n, f - 1, out ++ Utf.piece s p, by omega, by omega, by go_num, E3.out, by rw [RE.out, FT.out, List.append_assoc], O3.out, B3.out⟩
        case measure => simp [intOf]; omega
    · have hE := Lib.hid (Utf.ft_end s f p (by omega))
      have hps' : ¬ (p : Int) < s.size := by omega
      obtain ⟨_, p2, c2, rfl, _, _, lies2, _⟩ := own_lies OW.out
      have hcv := lies2.convert (P := Tryd.prog) out.length rfl c2 52 5 9 Tryd.underlying52 Tryd.underlying5 Tryd.underlying9
      have HRE : Hid (R = out) := by
        show R = out
        rw [RE.out, hE.out, List.append_nil]
      clear lies2 OW RE hE
      go_wp2
      go_ret
      refine ⟨?_, BW.out⟩
      show Ending.returned (.string ⟨out.toArray⟩) = _
      rw [HRE.out]

theorem ex4 : Utf.ft ⟨#[195, 137, 65, 49]⟩ 4 0 = [195, 169, 97, 49] := by decide +kernel
theorem ex5 : Fol.letter 97 = true := by decide
theorem ex6 : word 45 = false := by decide

end Go.Proofs.YtldfomggeleolaaDoor
