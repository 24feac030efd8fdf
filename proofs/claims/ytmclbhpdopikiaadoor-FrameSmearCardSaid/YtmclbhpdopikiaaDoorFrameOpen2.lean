/- The contract of the document's own Open. -/
import Derived.Test.YtmclbhpdopikiaaDoorFrameOpen
namespace Go.Proofs.YtmclbhpdopikiaaDoor
open Go Go.RowKit

theorem sum2_of (p : Option Addr) (n c : Nat) (l : List UInt8) (w : World) (e : n = l.length) (h : Lies w p l) (hn : l.length ≤ 140737488355328) :
    Calls Tryd.prog 10 #[.slice p n c] w fun e w' => e = .returned (.int .u32 (Frm.crc l : Nat)) ∧ w = w' := by
  subst e; exact sum2_any p c l w h hn

/-- four bytes against a sum's: the first that parts, or none -/
def Parts (x0 x1 x2 x3 s : Nat) (good : Bool) : Prop :=
  (good = false ∧ ((x0 : Int) != (s : Int) / 16777216) = true) ∨
  (good = false ∧ ((x0 : Int) != (s : Int) / 16777216) = false ∧ ((x1 : Int) != (s : Int) / 65536 % 256) = true) ∨
  (good = false ∧ ((x0 : Int) != (s : Int) / 16777216) = false ∧ ((x1 : Int) != (s : Int) / 65536 % 256) = false ∧ ((x2 : Int) != (s : Int) / 256 % 256) = true) ∨
  (good = false ∧ ((x0 : Int) != (s : Int) / 16777216) = false ∧ ((x1 : Int) != (s : Int) / 65536 % 256) = false ∧ ((x2 : Int) != (s : Int) / 256 % 256) = false ∧ ((x3 : Int) != (s : Int) % 256) = true) ∨
  (good = true ∧ ((x0 : Int) != (s : Int) / 16777216) = false ∧ ((x1 : Int) != (s : Int) / 65536 % 256) = false ∧ ((x2 : Int) != (s : Int) / 256 % 256) = false ∧ ((x3 : Int) != (s : Int) % 256) = false)

theorem parts_of (a b c d : UInt8) (s : Nat) (hs : s < 4294967296) : Parts a.toNat b.toNat c.toNat d.toNat s (decide ([a, b, c, d] = be4 s)) := by
  have ha := a.toNat_lt; have hb := b.toNat_lt; have hc := c.toNat_lt; have hd := d.toNat_lt
  have q : ∀ (x : UInt8) (n : Nat), x = UInt8.ofNat n ↔ x.toNat = n % 256 := fun x n => by
    rw [← UInt8.toNat_inj, UInt8.toNat_ofNat']
  have key : ([a, b, c, d] = be4 s) ↔ (a.toNat = s / 16777216 ∧ b.toNat = s / 65536 % 256 ∧ c.toNat = s / 256 % 256 ∧ d.toNat = s % 256) := by
    unfold be4
    simp only [List.cons.injEq, and_true, q]
    omega
  by_cases h0 : a.toNat = s / 16777216
  · by_cases h1 : b.toNat = s / 65536 % 256
    · by_cases h2 : c.toNat = s / 256 % 256
      · by_cases h3 : d.toNat = s % 256
        · rw [decide_eq_true (key.2 ⟨h0, h1, h2, h3⟩)]
          exact .inr (.inr (.inr (.inr ⟨rfl, by simp; omega, by simp; omega, by simp; omega, by simp; omega⟩)))
        · rw [decide_eq_false (fun h => h3 (key.1 h).2.2.2)]
          exact .inr (.inr (.inr (.inl ⟨rfl, by simp; omega, by simp; omega, by simp; omega, by simp; omega⟩)))
      · rw [decide_eq_false (fun h => h2 (key.1 h).2.2.1)]
        exact .inr (.inr (.inl ⟨rfl, by simp; omega, by simp; omega, by simp; omega⟩))
    · rw [decide_eq_false (fun h => h1 (key.1 h).2.1)]
      exact .inr (.inl ⟨rfl, by simp; omega, by simp; omega⟩)
  · rw [decide_eq_false (fun h => h0 (key.1 h).1)]
    exact .inl ⟨rfl, by simp; omega⟩
theorem take4 {l : List UInt8} (h : 4 ≤ l.length) : l.take 4 = [l.getD 0 0, l.getD 1 0, l.getD 2 0, l.getD 3 0] := by
  match l, h with
  | a :: b :: c :: d :: l, _ => simp

set_option maxHeartbeats 2000000 in
theorem open2_any (p : Option Addr) (c : Nat) (l : List UInt8) (w : World) (h : Lies w p l) (hlc : l.length ≤ c) (hn : l.length ≤ 140737488355000) :
    Calls Tryd.prog 16 #[.slice p l.length c] w (RetTwo w (opens l)) := by
  by_cases h4 : l.length < 4
  · have e1 : opens l = ([], 4) := by unfold opens; rw [if_pos h4]
    have E := Lib.hid e1; clear e1
    go_enter Tryd.func16, Tryd.ntmps16
    go_wp2
    go_ret2
    rw [E.out]
    exact RetTwo.none rfl (Below.refl _ _)
  · obtain ⟨b, o, rfl, hbw, hc⟩ := h.at (by omega)
    have hl := fun pp h => Lies.tail hc (c := c) (k := 4) (by omega) hlc pp h
    have HL := Lib.hid hl; clear hl
    have c0 := hc 0 (by omega); have c1 := hc 1 (by omega); have c2 := hc 2 (by omega); have c3 := hc 3 (by omega)
    rw [Nat.add_zero] at c0
    clear hc h
    have hP := parts_of (l.getD 0 0) (l.getD 1 0) (l.getD 2 0) (l.getD 3 0) (Frm.crc (l.drop 4)) (Frm.crc_lt _)
    rw [← take4 (by omega)] at hP
    obtain ⟨x0, e0⟩ : ∃ x : Nat, x = (l.getD 0 0).toNat := ⟨_, rfl⟩
    obtain ⟨x1, e1⟩ : ∃ x : Nat, x = (l.getD 1 0).toNat := ⟨_, rfl⟩
    obtain ⟨x2, e2⟩ : ∃ x : Nat, x = (l.getD 2 0).toNat := ⟨_, rfl⟩
    obtain ⟨x3, e3⟩ : ∃ x : Nat, x = (l.getD 3 0).toNat := ⟨_, rfl⟩
    rw [← e0] at c0 hP; rw [← e1] at c1 hP; rw [← e2] at c2 hP; rw [← e3] at c3 hP
    clear e0 e1 e2 e3
    obtain ⟨s, hs⟩ : ∃ s, s = Frm.crc (l.drop 4) := ⟨_, rfl⟩
    have hs2 := Frm.crc_lt (l.drop 4)
    have hsum : ∀ (p : Option Addr) (n c : Nat), n = (l.drop 4).length → Lies w p (l.drop 4) → Calls Tryd.prog 10 #[.slice p n c] w fun e w' => e = .returned (.int .u32 (Frm.crc (l.drop 4) : Nat)) ∧ w = w' :=
      fun p n c e h => sum2_of p n c (l.drop 4) w e h (by simp; omega)
    rw [← hs] at hP hs2
    have HS := Lib.hid hs; clear hs
    have E : Hid (opens l = if decide (l.take 4 = be4 s) = true then (l.drop 4, 0) else ([], 6)) := by
      unfold Hid opens; rw [if_neg h4, HS.out]; simp only [decide_eq_true_eq]
    rw [← HS.out] at hsum
    have HSum := Lib.hid hsum; clear hsum
    generalize decide (l.take 4 = be4 s) = good at hP E
    rcases hP with ⟨rfl, q0⟩ | ⟨rfl, q0, q1⟩ | ⟨rfl, q0, q1, q2⟩ | ⟨rfl, q0, q1, q2, q3⟩ | ⟨rfl, q0, q1, q2, q3⟩
    all_goals
      go_enter Tryd.func16, Tryd.ntmps16
      go_wp2_with (first
        | (go_at_call 10; refine (HSum.out _ _ _ (by simp) (HL.out _ (by intro h; first | rfl | exact absurd ‹_› h))).mono ?_; rintro e w' ⟨rfl, rfl⟩)
        | (at_builtin; refine wpList_bytes u8 _ rfl _ _ rfl w.heap.size 0 [] _ rfl (World.ownsRow_nil _ _ _ _) _ _ _ (l.drop 4) rfl (HL.out _ (by intro h; first | rfl | exact absurd ‹_› h)) (by simp) (by intro h; cases h) (by simp; omega) (Nat.le_refl _) ?_))
    all_goals first
      | (go_ret2; rw [E.out]; exact RetTwo.none rfl (Below.refl _ _))
      | (intro v' w' hown hb'; go_wp2; go_ret2; rw [E.out]; exact RetTwo.of_own (by simpa using hown) rfl hb')
end Go.Proofs.YtmclbhpdopikiaaDoor
