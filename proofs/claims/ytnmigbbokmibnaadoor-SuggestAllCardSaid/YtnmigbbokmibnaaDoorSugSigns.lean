/- The signs of a text: suggest's, and the document's. -/
import Derived.Test.YtnmigbbokmibnaaDoorUtfEnds
import Derived.Test.YtnmigbbokmibnaaDoorMemOne
namespace Go.Proofs.YtnmigbbokmibnaaDoor
open Go Go.RowKit
set_option linter.unusedVariables false

namespace Utf
/-- the sign at p; a byte that is none as a number below 0 -/
def sgn (s : ByteArray) (p : Nat) : Int := if (nx s p).1 < 0 then -1 - ((gt s p : Nat) : Int) else (nx s p).1
def sgs (s : ByteArray) : Nat → Nat → List Int
  | 0, _ => []
  | f + 1, p => if p < s.size then sgn s p :: sgs s f (p + (nx s p).2) else []
theorem sgs_end (s : ByteArray) (f p : Nat) (h : s.size ≤ p) : sgs s f p = [] := by
  cases f with
  | zero => rfl
  | succ f => rw [sgs, if_neg (by omega)]
theorem sgs_step (s : ByteArray) (f p : Nat) (h : p < s.size) (hf : s.size ≤ p + f) : sgs s f p = sgn s p :: sgs s (f - 1) (p + (nx s p).2) := by
  cases f with
  | zero => omega
  | succ f => rw [sgs, if_pos h]; rfl
theorem sgs_len (s : ByteArray) : ∀ f p, p ≤ s.size → (sgs s f p).length + p ≤ s.size := by
  intro f
  induction f with
  | zero => intro p h; simp [sgs, h]
  | succ f ih =>
    intro p h
    rw [sgs]
    split
    · rename_i hp
      have := nx_step s p hp
      have := ih (p + (nx s p).2) (by omega)
      simp only [List.length_cons]; omega
    · simp; omega
end Utf

/-- how far a walk through a text's signs has come -/
structure SgW (s : ByteArray) (p f : Nat) (done all : List Int) : Prop where
  le : p ≤ s.size
  fuel : s.size ≤ p + f
  all : done ++ Utf.sgs s f p = all
theorem SgW.next {s : ByteArray} {p f : Nat} {done all : List Int} (h : SgW s p f done all) (hp : p < s.size) : SgW s (p + (Utf.nx s p).2) (f - 1) (done ++ [Utf.sgn s p]) all := by
  have hst := Utf.nx_step s p hp
  refine ⟨by omega, by have := h.fuel; omega, ?_⟩
  rw [List.append_assoc, ← h.all, Utf.sgs_step s f p hp h.fuel]; rfl
theorem SgW.len {s : ByteArray} {p f : Nat} {done all : List Int} (h : SgW s p f done all) (ha : all.length ≤ s.size) : done.length ≤ s.size := by
  have := congrArg List.length h.all
  rw [List.length_append] at this; omega
theorem sgn_yes {s : ByteArray} {p : Nat} (h : (Utf.nx s p).1 < 0) : Utf.sgn s p = -1 - ((Utf.gt s p : Nat) : Int) := if_pos h
theorem sgn_no {s : ByteArray} {p : Nat} (h : ¬ (Utf.nx s p).1 < 0) : Utf.sgn s p = (Utf.nx s p).1 := if_neg h
set_option maxHeartbeats 4000000 in
theorem signs_is (s : ByteArray) (w : World) (hs : s.size ≤ 63) (hT : Shapes w) : Calls Tryd.prog 34 #[.string s] w (RetInts w 3 (Utf.sgs s s.size 0)) := by
  obtain ⟨all, hall⟩ : ∃ all, all = Utf.sgs s s.size 0 := ⟨_, rfl⟩
  have hlen : all.length ≤ s.size := by rw [hall]; have := Utf.sgs_len s s.size 0 (Nat.zero_le _); omega
  have W0 : Hid (SgW s 0 s.size [] all) := ⟨Nat.zero_le _, by omega, by rw [hall]; rfl⟩
  have TT := Lib.hid hT
  rw [← hall]
  clear hall hT
  go_enter Tryd.func34, Tryd.ntmps34
  go_wp2
  go_loopw [3, 4] (fun v i wr => ∃ (p f : Nat) (done : List Int), i = .int .i64 p ∧ SgW s p f done all ∧ wr.ownsRow w.heap.size 3 1 v done.length (ints done) ∧ Below w.heap.size w wr) (fun _ i _ => s.size - (intOf i).toNat)
  case atStart => exact ⟨0, s.size, [], rfl, W0.out, World.ownsRow_nil _ _ _ _, Below.refl _ _⟩
  case round =>
    obtain ⟨p, f, done, rfl, hw, hown, hb⟩ := hrel
    have HW := Lib.hid hw; have O := Lib.hid hown; have B := Lib.hid hb
    have hz := hb.size
    have hdl := hw.len hlen
    obtain ⟨q, cq, rfl⟩ := ownV_slice hown
    clear hw hown hb W0
    by_cases hlt : p < s.size
    · have hlt' : (p : Int) < s.size := by omega
      have hd' : (done.length : Int) < 64 := by omega
      have hst := Utf.nx_step s p hlt
      have NW := Lib.hid (HW.out.next hlt)
      have NX := Lib.hid (next_in s p wr hlt (by omega) (TT.out.below B.out))
      have hgl := Utf.gt_lt s p
      have hga := Utf.gt_at s p hlt
      by_cases hneg : (Utf.nx s p).1 < 0
      · rw [sgn_yes hneg] at NW
        generalize Utf.gt s p = g at hgl hga NW
        generalize Utf.nx s p = xm at hst hneg NX NW
        obtain ⟨x, m⟩ := xm
        simp only at hst hneg NW
        obtain ⟨m1, m2, m3⟩ := hst
        have wr1 : IntKind.i64.wrap (-1 - (g : Int)) = -1 - (g : Int) := IntWalk.i64_in _ ⟨by omega, by omega⟩
        go_wp2_with fail
        refine NX.out.mono ?_
        rintro e w' ⟨rfl, rfl⟩
        clear NX
        go_wp2_with (at_builtin; refine wpList_int isI64 _ rfl _ _ rfl w.heap.size done.length done (.slice q done.length cq) rfl O.out (-1 - (g : Int)) rfl (by omega) hz ?_)
        intro v2 w2 hown2 hb2
        have O2 : Hid (w2.ownsRow w.heap.size 3 1 v2 (done ++ [-1 - (g : Int)]).length (ints (done ++ [-1 - (g : Int)]))) := by
          rw [List.length_append]; exact hown2
        have B2 := Lib.hid (B.out.trans hb2)
        clear hown2 hb2
        go_wp2
        go_roundw
        case rel => exact ⟨p + m, f - 1, done ++ [-1 - (g : Int)], by go_num, NW.out, O2.out, B2.out⟩
        case measure => simp [intOf]; omega
      · rw [sgn_no hneg] at NW
        clear hga hgl
        generalize Utf.nx s p = xm at hst hneg NX NW
        obtain ⟨x, m⟩ := xm
        simp only at hst hneg NW
        obtain ⟨m1, m2, m3⟩ := hst
        go_wp2_with fail
        refine NX.out.mono ?_
        rintro e w' ⟨rfl, rfl⟩
        clear NX
        go_wp2_with (at_builtin; refine wpList_int isI64 _ rfl _ _ rfl w.heap.size done.length done (.slice q done.length cq) rfl O.out x rfl (by omega) hz ?_)
        intro v2 w2 hown2 hb2
        have O2 : Hid (w2.ownsRow w.heap.size 3 1 v2 (done ++ [x]).length (ints (done ++ [x]))) := by
          rw [List.length_append]; exact hown2
        have B2 := Lib.hid (B.out.trans hb2)
        clear hown2 hb2
        go_wp2
        go_roundw
        case rel => exact ⟨p + m, f - 1, done ++ [x], by go_num, NW.out, O2.out, B2.out⟩
        case measure => simp [intOf]; omega
    · have hlt' : ¬ (p : Int) < s.size := by omega
      have HE : Hid (done = all) := by
        have := HW.out.all
        rw [Utf.sgs_end s f p (by omega), List.append_nil] at this
        exact this
      go_wp2
      go_ret
      exact RetInts.of_own (by rw [← HE.out]; exact O.out) rfl B.out
end Go.Proofs.YtnmigbbokmibnaaDoor
