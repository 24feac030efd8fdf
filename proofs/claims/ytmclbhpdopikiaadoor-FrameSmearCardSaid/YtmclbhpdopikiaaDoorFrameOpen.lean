/- The contract of frame.Open. -/
import Derived.Test.YtmclbhpdopikiaaDoorFrameSeal2
namespace Go.Proofs.YtmclbhpdopikiaaDoor
open Go Go.RowKit

/-- what bytes open to, and the error's number -/
def opens (l : List UInt8) : List UInt8 × Int :=
  if l.length < 4 then ([], 4) else if l.take 4 = be4 (Frm.crc (l.drop 4)) then (l.drop 4, 0) else ([], 6)
/-- a call that hands back bytes in memory, and an error's number -/
def RetTwo (w : World) (r : List UInt8 × Int) (e : Ending) (w' : World) : Prop :=
  ∃ p c, e = .returned (.tuple #[.slice p r.1.length c, .int .i64 r.2]) ∧ r.1.length ≤ c ∧ (p = none → r.1 = [] ∧ c = 0) ∧ Lies w' p r.1 ∧ Below w.heap.size w w'
theorem RetTwo.none {w w' : World} {n : Int} {e : Ending} (he : e = .returned (.tuple #[.slice none 0 0, .int .i64 n])) (hw : Below w.heap.size w w') : RetTwo w ([], n) e w' :=
  ⟨_, _, he, Nat.le_refl _, fun _ => ⟨rfl, rfl⟩, Lies.nil _ _, hw⟩

theorem RetTwo.of_own {w w' : World} {B : Nat} {ty : TypeId} {v : Value} {n : Nat} {l : List UInt8} {k : Int} {e : Ending} (h : w'.ownsRow B ty 1 v n (bys l)) (he : e = .returned (.tuple #[v, .int .i64 k])) (hb : Below w.heap.size w w') : RetTwo w (l, k) e w' := by
  obtain ⟨rfl, p, c, rfl, h1, h2, h3, h4⟩ := own_lies h
  exact ⟨p, c, he, h1, h4, h3, hb⟩

def val (l : List UInt8) : Nat := l.foldl (fun a b => a * 256 + b.toNat) 0
theorem val_snoc (l : List UInt8) (b : UInt8) : val (l ++ [b]) = val l * 256 + b.toNat := by simp [val]
theorem val_lt (l : List UInt8) (k : Nat) (hk : k < 4) : val (l.take k) < 16777216 := by
  have h : ∀ (l : List UInt8) (k : Nat), l.length ≤ k → ∀ a, l.foldl (fun a b => a * 256 + b.toNat) a < (a + 1) * 256 ^ k := by
    intro l
    induction l with
    | nil => intro k _ a; simp; exact Nat.lt_of_lt_of_le (Nat.lt_succ_self a) (Nat.le_mul_of_pos_right _ (Nat.pos_of_ne_zero (by simp)))
    | cons b l ih =>
      intro k hk a
      match k, hk with
      | k + 1, hk =>
        simp only [List.foldl_cons]
        refine Nat.lt_of_lt_of_le (ih k (by simpa using hk) _) ?_
        have := b.toNat_lt
        rw [Nat.pow_succ, Nat.mul_comm (256 ^ k) 256, ← Nat.mul_assoc]
        exact Nat.mul_le_mul_right _ (by omega)
  have := h (l.take k) 3 (by simp; omega) 0
  unfold val
  omega

theorem or_byte {v x : Nat} (hv : v < 16777216) (hx : x < 256) : Value.int IntKind.u32 (bits BinOp.or IntKind.u32 ((v : Int) * 256) (x : Int)) = Value.int IntKind.u32 ((v * 256 + x : Nat) : Int) := by
  rw [show ((v : Int) * 256) = ((v * 256 : Nat) : Int) from by simp, u32_or_nat _ _ (by omega) (by omega), nat_join 8 _ _ (by omega) (by omega)]
theorem val_be4 (c : Nat) (hc : c < 4294967296) : val (be4 c) = c := by
  simp only [val, be4, List.foldl_cons, List.foldl_nil, UInt8.toNat_ofNat']
  omega
theorem be4_val (l : List UInt8) (h : l.length = 4) : be4 (val l) = l := by
  match l, h with
  | [a, b, c, d], _ =>
    have ha := a.toNat_lt; have hb := b.toNat_lt; have hc := c.toNat_lt; have hd := d.toNat_lt
    have e : val [a, b, c, d] = ((a.toNat * 256 + b.toNat) * 256 + c.toNat) * 256 + d.toNat := by simp [val]
    rw [e]
    unfold be4
    have q : ∀ (n : Nat) (x : UInt8), n % 256 = x.toNat → UInt8.ofNat n = x := fun n x h => by
      apply UInt8.toNat_inj.1; rw [UInt8.toNat_ofNat']; exact h
    rw [q _ a (by omega), q _ b (by omega), q _ c (by omega), q _ d (by omega)]
theorem val_take4 {l : List UInt8} (h : 4 ≤ l.length) (c : Nat) (hc : c < 4294967296) : l.take 4 = be4 c ↔ val (l.take 4) = c := by
  constructor
  · intro e; rw [e, val_be4 c hc]
  · intro e; rw [← e, be4_val _ (by simp; omega)]
theorem sum_of (p : Option Addr) (n c : Nat) (l : List UInt8) (w : World) (e : n = l.length) (h : Lies w p l) (hT : Table w) (hn : l.length ≤ 140737488355328) :
    Calls Tryd.prog 9 #[.slice p n c] w fun e w' => e = .returned (.int .u32 (Frm.crc l : Nat)) ∧ w = w' := by
  subst e; exact sum_any p c l w h hT hn

set_option maxHeartbeats 1000000 in
theorem open_any (p : Option Addr) (c : Nat) (l : List UInt8) (w : World) (h : Lies w p l) (hlc : l.length ≤ c) (hT : Table w) (hn : l.length ≤ 140737488355000) :
    Calls Tryd.prog 15 #[.slice p l.length c] w (RetTwo w (opens l)) := by
  have HT := Lib.hid hT; clear hT
  by_cases h4 : l.length < 4
  · have e1 : opens l = ([], 4) := by unfold opens; rw [if_pos h4]
    have E := Lib.hid e1; clear e1
    go_enter Tryd.func15, Tryd.ntmps15
    go_wp2
    go_ret2
    rw [E.out]
    exact RetTwo.none rfl (Below.refl _ _)
  · obtain ⟨b, o, rfl, hbw, hc⟩ := h.at (by omega)
    have HC := Lib.hid hc; clear hc h
    go_enter Tryd.func15, Tryd.ntmps15
    go_wp2
    go_loop [4, 9] (fun s i => ∃ k : Nat, k ≤ 4 ∧ i = .int .i64 k ∧ s = .int .u32 (val (l.take k) : Nat)) (fun _ i => 4 - (intOf i).toNat)
    case atStart => exact ⟨0, Nat.zero_le _, rfl, rfl⟩
    case round =>
      obtain ⟨k, hk, rfl, rfl⟩ := hrel
      by_cases hk4 : k < 4
      · have hck := HC.out k (by omega)
        have hv := val_lt l k hk4
        obtain ⟨v, hve⟩ : ∃ v, v = val (l.take k) := ⟨_, rfl⟩
        rw [← hve] at hv ⊢
        have HV := Lib.hid hve; clear hve
        obtain ⟨x, hx⟩ : ∃ x : Nat, x = (l.getD k 0).toNat := ⟨_, rfl⟩
        have hx2 : x < 256 := by rw [hx]; exact UInt8.toNat_lt _
        rw [← hx] at hck
        have HX := Lib.hid hx; clear hx
        go_wp2
        go_round
        case rel => exact ⟨k + 1, by omega, by go_num, by rw [take_snoc (by omega), val_snoc, ← HV.out, ← HX.out]; exact or_byte hv hx2⟩
        case measure => simp [intOf]; omega
      · obtain rfl : k = 4 := by omega
        have hl := fun pp h => Lies.tail HC.out (c := c) (k := 4) (by omega) hlc pp h
        have HL := Lib.hid hl; clear hl
        have hs := val_take4 (l := l) (by omega) (Frm.crc (l.drop 4)) (Frm.crc_lt _)
        by_cases hv : l.take 4 = be4 (Frm.crc (l.drop 4))
        · have e1 : opens l = (l.drop 4, 0) := by unfold opens; rw [if_neg h4, if_pos hv]
          have E := Lib.hid e1; clear e1
          have hb : ((val (l.take 4) : Int) != (Frm.crc (l.drop 4) : Int)) = false := by rw [hs.1 hv]; simp
          clear hv hs
          go_wp2_with (first
            | (go_at_call 9; refine (sum_of _ _ _ (l.drop 4) _ (by simp) (HL.out _ (by intro h; first | rfl | exact absurd ‹_› h)) HT.out (by simp; omega)).mono ?_; rintro e w' ⟨rfl, rfl⟩)
            | (at_builtin; refine wpList_bytes u8 _ rfl _ _ rfl w.heap.size 0 [] _ rfl (World.ownsRow_nil _ _ _ _) _ _ _ (l.drop 4) rfl (HL.out _ (by intro h; first | rfl | exact absurd ‹_› h)) (by simp) (by intro h; cases h) (by simp; omega) (Nat.le_refl _) ?_))
          all_goals
            intro v' w' hown hb'
            go_wp2
            go_ret2
            rw [E.out]
            exact RetTwo.of_own (by simpa using hown) rfl hb'
        · have e1 : opens l = ([], 6) := by unfold opens; rw [if_neg h4, if_neg hv]
          have E := Lib.hid e1; clear e1
          have hb : ((val (l.take 4) : Int) != (Frm.crc (l.drop 4) : Int)) = true := by
            have : ¬ val (l.take 4) = Frm.crc (l.drop 4) := fun e => hv (hs.2 e)
            simp; omega
          clear hv hs
          go_wp2_with (first
            | (go_at_call 9; refine (sum_of _ _ _ (l.drop 4) _ (by simp) (HL.out _ (by intro h; first | rfl | exact absurd ‹_› h)) HT.out (by simp; omega)).mono ?_; rintro e w' ⟨rfl, rfl⟩))
          all_goals
            go_ret2
            rw [E.out]
            exact RetTwo.none rfl (Below.refl _ _)
end Go.Proofs.YtmclbhpdopikiaaDoor
