/- For LanesOnce: what was turned in messages ahead; how many bytes are other ones. -/
import Derived.Test.YtfdiclamjgldnaaLnSpoil
import Derived.Test.YtfdiclamjgldnaaLnAwake
import Derived.Test.YtfdiclamjgldnaaLnDos
namespace Go.Proofs.Ytfdiclamjgldnaa
open Go Go.RowKit Go.Conc
set_option linter.unusedVariables false

theorem elemB : Try.prog.underlying 30 = some (.slice (Try.prog.elem 30)) := by kernel_rfl
theorem sizeB1 (w : World) : (sizeOf (Try.prog.elem 30)).run Try.prog w = .ok 1 w := by kernel_rfl
theorem cutB (p : Option Addr) (A c n : Nat) (w : World) (hn : n ≤ c) : (Instr.sliceAt 30 (.slice p A c) none (some (.int .i64 (n : Int))) none).run Try.prog w = .ok (.slice p n c) w := by
  rw [run_sliceAt_slice (h := elemB), run_slice_h (ht := elemB) (h0 := by omega) (h2 := by omega), sizeB1]
  simp only [Result.andThen, sliced, Int.toNat_natCast, Nat.zero_mul, Nat.sub_zero]
  cases p <;> simp [Addr.add]
theorem begun {w : World} {p : Option Addr} {l : List UInt8} (h : Lies w p l) (m : Nat) : Lies w p (l.take m) := fun h0 => by
  have hl : l ≠ [] := fun e => h0 (by rw [e, List.take_nil])
  obtain ⟨b, o, e, hc⟩ := h hl
  refine ⟨b, o, e, fun i hi => ?_⟩
  rw [List.length_take] at hi
  rw [hc i (by omega)]
  congr 4
  rw [List.getD_eq_getElem?_getD, List.getD_eq_getElem?_getD, List.getElem?_take_of_lt (by omega)]
/-- all that is on the way are the bytes cs, whatever is turned in them -/
def Once (B A : Nat) (cs : List UInt8) (W w : World) (n : Nat) : Prop :=
  ∃ F, Lx w B A ((2 : Nat) : Int) F 1 0 ∧ (∀ x ∈ F (0, 1), x.whole = cs) ∧ (F (0, 1)).length = n ∧ Below B W w
theorem Once.size {B A : Nat} {cs : List UInt8} {W w : World} {n : Nat} (h : Once B A cs W w n) : B ≤ w.heap.size := by obtain ⟨F, h, _⟩ := h; exact h.size
theorem Once.below {B A : Nat} {cs : List UInt8} {W w w' : World} {n : Nat} (h : Once B A cs W w n) (hb : Below w.heap.size w w') : Once B A cs W w' n := by
  have hs := h.size
  obtain ⟨F, h1, h2, h3, h4⟩ := h
  exact ⟨F, h1.below hb, h2, h3, h4.trans (hb.mono hs)⟩
theorem Once.bel {B A : Nat} {cs : List UInt8} {W w : World} {n : Nat} (h : Once B A cs W w n) : Below B W w := by obtain ⟨F, _, _, _, h⟩ := h; exact h
theorem once_count {B A : Nat} {cs : List UInt8} {W w : World} {n : Nat} (h : Once B A cs W w n) : Calls Try.prog 11 #[.pointer (some ⟨A, 0, none⟩), .int .i64 0, .int .i64 1] w fun e w' => e = .returned (.int .i64 (n : Nat)) ∧ w = w' := by
  obtain ⟨F, h1, h2, rfl, h4⟩ := h
  exact lnCount B A _ F _ _ w h1 0 1 in01
theorem once_spoil {B A : Nat} {cs : List UInt8} {W w : World} {n : Nat} (h : Once B A cs W w n) (k : Nat) (hk : k < n) (at0 : Int) (hat : -9223372036854775808 ≤ at0 ∧ at0 ≤ 9223372036854775807) (by0 : UInt8) :
    Calls Try.prog 14 #[.pointer (some ⟨A, 0, none⟩), .int .i64 0, .int .i64 1, .int .i64 (k : Int), .int .i64 at0, .int .u8 (by0.toNat : Int)] w fun e w' => (∃ r, e = .returned (.int .i64 r)) ∧ Once B A cs W w' n := by
  obtain ⟨F, h1, h2, rfl, h4⟩ := h
  refine (spoil_is B A _ F _ _ w h1 0 1 in01 k hk at0 hat by0).mono ?_
  rintro e w' ⟨rfl, hx, hb⟩
  refine ⟨⟨_, rfl⟩, _, hx, fun x hm => ?_, ?_, h4.trans hb.bel⟩
  · rw [updF_same] at hm
    rcases List.mem_or_eq_of_mem_set hm with hm | rfl
    · exact h2 x hm
    · show ((F (0, 1)).getD k ⟨[], 0, 0⟩).whole = cs
      refine h2 _ ?_
      rw [List.getD_eq_getElem?_getD, List.getElem?_eq_getElem hk]
      exact List.getElem_mem hk
  · rw [updF_same, List.length_set]
theorem once_double {B A : Nat} {cs : List UInt8} {W w : World} {n : Nat} (h : Once B A cs W w n) (k : Nat) (hk : k < n) (hn : n < 40) :
    Calls Try.prog 15 #[.pointer (some ⟨A, 0, none⟩), .int .i64 0, .int .i64 1, .int .i64 (k : Int)] w fun e w' => (∃ r, e = .returned (.int .i64 r)) ∧ Once B A cs W w' (n + 1) := by
  obtain ⟨F, h1, h2, rfl, h4⟩ := h
  refine (double_yes B A _ F _ _ w h1 0 1 in01 k hk hn).mono ?_
  rintro e w' ⟨rfl, hx, hb⟩
  refine ⟨⟨_, rfl⟩, _, hx, fun x hm => ?_, ?_, h4.trans hb.bel⟩
  · rw [updF_same] at hm
    rcases List.mem_append.1 hm with hm | hm
    · exact h2 x hm
    · obtain rfl := List.mem_singleton.1 hm
      refine h2 _ ?_
      rw [List.getD_eq_getElem?_getD, List.getElem?_eq_getElem hk]
      exact List.getElem_mem hk
  · rw [updF_same, List.length_append, List.length_singleton]
/-- bytes that are cs but for one at most -/
def OneOff (cs ds : List UInt8) (T : Nat) : Prop := ds.length = cs.length ∧ ∀ j, j ≠ T → ds.getD j 0 = cs.getD j 0
theorem seen_off (x : Mg) : OneOff x.whole (seen x) (turnAt x) := by
  refine ⟨seen_len x, fun j hj => ?_⟩
  by_cases h : x.whole = []
  · rw [seen_none x h, h]
  · rw [seen_some x h, List.getD_eq_getElem?_getD, List.getD_eq_getElem?_getD, List.getElem?_set_ne (fun e => hj e.symm), ← List.getD_eq_getElem?_getD]
theorem once_take {B A : Nat} {cs : List UInt8} {W w : World} {n : Nat} (h : Once B A cs W w (n + 1)) :
    Calls Try.prog 16 #[.pointer (some ⟨A, 0, none⟩), .int .i64 0, .int .i64 1, .int .i64 0] w fun e w' => ∃ v ds T, e = .returned (.tuple #[v, .int .i64 0]) ∧ w'.ownsRow B 5 1 v ds.length (bys ds) ∧ OneOff cs ds T ∧ Once B A cs W w' n := by
  obtain ⟨F, h1, h2, h3, h4⟩ := h
  refine (take_is B A _ F _ _ w h1 0 1 in01 0 (by omega)).mono ?_
  rintro e w' ⟨v, rfl, ho, hx, hb⟩
  have hw : ((F (0, 1)).getD 0 ⟨[], 0, 0⟩).whole = cs := by
    refine h2 _ ?_
    rw [List.getD_eq_getElem?_getD, List.getElem?_eq_getElem (by omega)]
    exact List.getElem_mem _
  refine ⟨v, _, turnAt ((F (0, 1)).getD 0 ⟨[], 0, 0⟩), rfl, ho, by rw [← hw]; exact seen_off _, _, hx, fun x hm => ?_, ?_, h4.trans hb.bel⟩
  · rw [updF_same] at hm
    exact h2 x (List.mem_of_mem_eraseIdx hm)
  · rw [updF_same, List.length_eraseIdx, if_pos (by omega)]; omega
end Go.Proofs.Ytfdiclamjgldnaa
