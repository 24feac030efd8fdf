/- The document's device: Write that is refused; a device whose power is off; any device that has pages of 128. -/
import Derived.Test.YtfgjcgonlpbdbaaPgRef4
namespace Go.Proofs.Ytfgjcgonlpbdbaa
open Go Go.RowKit
set_option linter.unusedVariables false

set_option maxHeartbeats 4000000 in
set_option maxRecDepth 100000 in
theorem refWrite_arg (T A a b d ca cb cd m : Nat) (now had : Nat → ByteArray) (is : Nat → Bool) (left : Int) (off : Bool) (i : Int) (p : Option Addr) (c : Nat) (l : List UInt8) (w : World) (h : RDk w A a b d ca cb cd m now had is left off) (bad : i < 0 ∨ (m : Int) ≤ i ∨ 128 < l.length) :
    Calls Try.prog 27 #[.pointer (some ⟨A, 0, none⟩), .int .i64 i, .slice p l.length c] w fun e w' => e = .returned (.int .i64 1) ∧ w = w' := by
  obtain ⟨c0, c1, c2, c3, c4⟩ := rd_cells h.obj
  clear h
  by_cases hi1 : i < 0
  · clear bad
    go_enter Try.func27, Try.ntmps27
    go_wp2
    exact bodyPost_ret (v := .int .i64 1) (by kernel_rfl) (by kernel_rfl) ⟨rfl, rfl⟩
  · by_cases hi2 : i ≥ (m : Int)
    · clear bad
      go_enter Try.func27, Try.ntmps27
      go_wp2
      exact bodyPost_ret (v := .int .i64 1) (by kernel_rfl) (by kernel_rfl) ⟨rfl, rfl⟩
    · have hi3 : (l.length : Int) > 128 := by omega
      clear bad
      go_enter Try.func27, Try.ntmps27
      go_wp2
      exact bodyPost_ret (v := .int .i64 1) (by kernel_rfl) (by kernel_rfl) ⟨rfl, rfl⟩
set_option maxHeartbeats 4000000 in
set_option maxRecDepth 100000 in
theorem refWrite_dead (T A a b d ca cb cd m : Nat) (now had : Nat → ByteArray) (is : Nat → Bool) (left : Int) (off : Bool) (i : Nat) (p : Option Addr) (c : Nat) (l : List UInt8) (w : World) (h : RDk w A a b d ca cb cd m now had is left off) (had1 : actD off left = true) (hi : i < m) (hlen : l.length ≤ 128) (hT : T ≤ A) (hTw : T ≤ w.heap.size) :
    Calls Try.prog 27 #[.pointer (some ⟨A, 0, none⟩), .int .i64 (i : Int), .slice p l.length c] w fun e w' => e = .returned (.int .i64 9) ∧ RDk w' A a b d ca cb cd m now had is (actF off left) true ∧ Bes4 A a b d w w' := by
  have AC := refAct_all T A a b d ca cb cd m now had is left off w h hT hTw
  unfold RActed at AC
  rw [had1] at AC
  simp only [if_true] at AC
  generalize actF off left = l1 at AC ⊢
  have ACT := Lib.hid AC
  obtain ⟨c0, c1, c2, c3, c4⟩ := rd_cells h.obj
  have hi1 : ¬ (i : Int) < 0 := by omega
  have hi2 : ¬ (i : Int) ≥ (m : Int) := by omega
  have hi3 : ¬ (l.length : Int) > 128 := by omega
  clear h AC had1
  go_enter Try.func27, Try.ntmps27
  go_wp2_with fail
  refine ACT.out.mono ?_
  rintro e w2 ⟨rfl, hd2, hb2⟩
  have D2 := Lib.hid hd2; have B2 := Lib.hid hb2
  clear hd2 hb2 ACT c0 c1 c2 c3 c4
  go_wp2
  exact bodyPost_ret (v := .int .i64 9) (by kernel_rfl) (by kernel_rfl) ⟨rfl, D2.out, B2.out⟩
set_option maxHeartbeats 4000000 in
set_option maxRecDepth 100000 in
theorem refSync_dead (T A a b d ca cb cd m : Nat) (now had : Nat → ByteArray) (is : Nat → Bool) (left : Int) (off : Bool) (w : World) (h : RDk w A a b d ca cb cd m now had is left off) (had1 : actD off left = true) (hT : T ≤ A) (hTw : T ≤ w.heap.size) :
    Calls Try.prog 24 #[.pointer (some ⟨A, 0, none⟩)] w fun e w' => e = .returned (.int .i64 9) ∧ RDk w' A a b d ca cb cd m now had is (actF off left) true ∧ Bes4 A a b d w w' := by
  have AC := refAct_all T A a b d ca cb cd m now had is left off w h hT hTw
  unfold RActed at AC
  rw [had1] at AC
  simp only [if_true] at AC
  generalize actF off left = l1 at AC ⊢
  have ACT := Lib.hid AC
  clear h AC had1
  go_enter Try.func24, Try.ntmps24
  go_wp2_with fail
  refine ACT.out.mono ?_
  rintro e w2 ⟨rfl, hd2, hb2⟩
  have D2 := Lib.hid hd2; have B2 := Lib.hid hb2
  clear hd2 hb2 ACT
  go_wp2
  exact bodyPost_ret (v := .int .i64 9) (by kernel_rfl) (by kernel_rfl) ⟨rfl, D2.out, B2.out⟩
/-- a device of the document's, whatever it has: its pages have 128 bytes -/
def RX (w : World) (A a b d ca cb cd m : Nat) : Prop :=
  ∃ (now had : Nat → ByteArray) (is : Nat → Bool) (left : Int) (off : Bool), RDk w A a b d ca cb cd m now had is left off ∧ ∀ i, i < m → (now i).size = 128 ∧ (had i).size = 128
def RWent (T : Nat) (w : World) (A a b d ca cb cd m : Nat) (e : Ending) (w' : World) : Prop := (∃ v : Int, e = .returned (.int .i64 v)) ∧ RX w' A a b d ca cb cd m ∧ Bes4 A a b d w w'
theorem pageS_size (l : List UInt8) (h : l.length ≤ 128) : (pageS l).size = 128 := by
  show (padded l).toArray.size = 128
  unfold padded
  simp
  omega
/-- where none of its four blocks has turned -/
theorem RX.same {w w' : World} {A a b d ca cb cd m : Nat} (h : RX w A a b d ca cb cd m) (hA : w'.heap[A]? = w.heap[A]?) (ha : w'.heap[a]? = w.heap[a]?) (hb : w'.heap[b]? = w.heap[b]?) (hd : w'.heap[d]? = w.heap[d]?) : RX w' A a b d ca cb cd m := by
  obtain ⟨now, had, is, left, off, h1, h2⟩ := h
  exact ⟨now, had, is, left, off, h1.same hA (fun _ _ => ha) (fun _ _ => hb) (fun _ _ => hd), h2⟩
theorem RX.below {T : Nat} {w w' : World} {A a b d ca cb cd m : Nat} (h : RX w A a b d ca cb cd m) (hb : Below w.heap.size w w') : RX w' A a b d ca cb cd m := by
  obtain ⟨now, had, is, left, off, h1, h2⟩ := h
  exact ⟨now, had, is, left, off, h1.below hb, h2⟩
theorem refWrite_any (T A a b d ca cb cd m : Nat) (i : Int) (p : Option Addr) (c : Nat) (l : List UInt8) (w : World) (h : RX w A a b d ca cb cd m) (hl : Lies w p l) (hp : l ≠ [] → ∀ x o, p = some ⟨x, o, none⟩ → x ≠ A ∧ x ≠ a ∧ x ≠ b ∧ x ≠ d) (hT : T ≤ A ∧ T ≤ a ∧ T ≤ b ∧ T ≤ d) (hTw : T ≤ w.heap.size) :
    Calls Try.prog 27 #[.pointer (some ⟨A, 0, none⟩), .int .i64 i, .slice p l.length c] w (RWent T w A a b d ca cb cd m) := by
  obtain ⟨now, had, is, left, off, h1, h2⟩ := h
  by_cases bad : i < 0 ∨ (m : Int) ≤ i ∨ 128 < l.length
  · refine (refWrite_arg T A a b d ca cb cd m now had is left off i p c l w h1 bad).mono ?_
    rintro e w' ⟨rfl, rfl⟩
    exact ⟨⟨_, rfl⟩, ⟨now, had, is, left, off, h1, h2⟩, Bes4.refl _ _ _ _ _⟩
  · obtain ⟨k, rfl⟩ : ∃ k : Nat, i = k := ⟨i.toNat, by omega⟩
    cases hd : actD off left with
    | true =>
      refine (refWrite_dead T A a b d ca cb cd m now had is left off k p c l w h1 hd (by omega) (by omega) hT.1 hTw).mono ?_
      rintro e w' ⟨rfl, h3, h4⟩
      exact ⟨⟨_, rfl⟩, ⟨_, _, _, _, _, h3, h2⟩, h4⟩
    | false =>
      refine (refWrite_go T A a b d ca cb cd m now had is left off k p c l w h1 hd (by omega) hl hp (by omega) ⟨hT.1, hT.2.1, hT.2.2.2⟩ hTw).mono ?_
      rintro e w' ⟨rfl, h3, h4⟩
      refine ⟨⟨_, rfl⟩, ⟨_, _, _, _, _, h3, fun j hj => ⟨?_, (h2 j hj).2⟩⟩, h4⟩
      unfold updS
      split
      · exact pageS_size l (by omega)
      · exact (h2 j hj).1
theorem refSync_any (T A a b d ca cb cd m : Nat) (w : World) (h : RX w A a b d ca cb cd m) (hT : T ≤ A ∧ T ≤ a ∧ T ≤ b ∧ T ≤ d) (hTw : T ≤ w.heap.size) :
    Calls Try.prog 24 #[.pointer (some ⟨A, 0, none⟩)] w (RWent T w A a b d ca cb cd m) := by
  obtain ⟨now, had, is, left, off, h1, h2⟩ := h
  cases hd : actD off left with
  | true =>
    refine (refSync_dead T A a b d ca cb cd m now had is left off w h1 hd hT.1 hTw).mono ?_
    rintro e w' ⟨rfl, h3, h4⟩
    exact ⟨⟨_, rfl⟩, ⟨_, _, _, _, _, h3, h2⟩, h4⟩
  | false =>
    refine (refSync_go T A a b d ca cb cd m now had is left off w h1 hd ⟨hT.1, hT.2.2⟩ hTw).mono ?_
    rintro e w' ⟨rfl, h3, h4⟩
    refine ⟨⟨_, rfl⟩, ⟨_, _, _, _, _, h3, fun j hj => ⟨(h2 j hj).1, ?_⟩⟩, h4⟩
    unfold syncH
    rw [if_pos hj]
    exact (h2 j hj).1
theorem refFuse_any (T A a b d ca cb cd m : Nat) (k : Int) (hk : -9223372036854775808 ≤ k ∧ k ≤ 9223372036854775807) (w : World) (h : RX w A a b d ca cb cd m) (hT : T ≤ A) (hTw : T ≤ w.heap.size) :
    Calls Try.prog 26 #[.pointer (some ⟨A, 0, none⟩), .int .i64 k] w (RWent T w A a b d ca cb cd m) := by
  obtain ⟨now, had, is, left, off, h1, h2⟩ := h
  refine (refFuse_is T A a b d ca cb cd m now had is left off k hk w h1 hT hTw).mono ?_
  rintro e w' ⟨rfl, h3, h4⟩
  exact ⟨⟨_, rfl⟩, ⟨_, _, _, _, _, h3, h2⟩, h4⟩
theorem refCrash_any (T A a b d ca cb cd m : Nat) (q : Option Addr) (kc : Nat) (ks : List Int) (torn cut : Int) (w : World) (h : RX w A a b d ca cb cd m) (hk : LiesI w q ks) (hkl : ks.length ≤ 9223372036854775807) (hq : ks ≠ [] → ∀ x o, q = some ⟨x, o, none⟩ → x ≠ A ∧ x ≠ a ∧ x ≠ b ∧ x ≠ d) (hT : T ≤ A ∧ T ≤ a ∧ T ≤ b ∧ T ≤ d) (hTw : T ≤ w.heap.size) :
    Calls Try.prog 25 #[.pointer (some ⟨A, 0, none⟩), .slice q ks.length kc, .int .i64 torn, .int .i64 cut] w fun e w' => e = .returned (.tuple #[]) ∧ RX w' A a b d ca cb cd m ∧ Bes4 A a b d w w' := by
  obtain ⟨now, had, is, left, off, h1, h2⟩ := h
  refine (refCrash_is T A a b d ca cb cd m now had is left off q kc ks torn cut w h1 h2 hk hkl hq hT hTw).mono ?_
  rintro e w' ⟨rfl, h3, h4⟩
  refine ⟨rfl, ⟨_, _, _, _, _, h3, fun j hj => ?_⟩, h4⟩
  unfold crS
  rw [if_pos hj, if_pos hj]
  exact ⟨crC_size _ _ _ _ _ _ _ (clampK_le cut) (h2 j hj).1 (h2 j hj).2, crC_size _ _ _ _ _ _ _ (clampK_le cut) (h2 j hj).1 (h2 j hj).2⟩
end Go.Proofs.Ytfgjcgonlpbdbaa
