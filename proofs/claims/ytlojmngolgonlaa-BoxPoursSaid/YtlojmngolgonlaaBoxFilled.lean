/- A box of texts with some in it. -/
import Derived.Test.YtlojmngolgonlaaBoxIsS
import Derived.Test.YtlojmngolgonlaaOpenS
import Derived.Deep.QuietTactic
import Derived.BigQuiet
namespace Go.Proofs.Ytlojmngolgonlaa
open Go Go.RowKit Go.Conc

theorem PutS_ok (a C cap B : Nat) (gs : List Nat) (v : ByteArray) (w : World) (h : Bx w a C cap gs) (hr : gs.length < cap) (hB : B ≤ C) (hw : B ≤ w.heap.size) : Calls Try.prog 33 #[.pointer (some ⟨a, 0, none⟩), .string v] w fun e w' => e = .returned (.bool true) ∧ (∃ g, w'.cell? ⟨g, 0, none⟩ = some (encS v) ∧ Bx w' a C cap (gs ++ [g])) ∧ Below B w w' ∧ w.grownBy w' (some C) := by
  refine (PutS_yes a C cap gs v w h hr).mono ?_
  rintro e w' ⟨rfl, g, hg, hc, hb, hgr⟩
  exact ⟨rfl, ⟨g, hc, hb⟩, h.under hgr hB hw, hgr⟩

theorem drewN_below {B : Nat} {a w : World} (h : Below B a w) (n : Nat) : Below B a (w.drewN n) := ⟨h.os, h.tape, h.output, h.size, h.block⟩
/-- a box that was filled -/
def FilledTo (w : World) (R : Nat) (p : Option Addr) (c : Nat) (l : List ByteArray) (e : Ending) (w' : World) : Prop :=
  ∃ a C gs, e = .returned (.tuple #[.pointer (some ⟨a, 0, none⟩), .slice p (min l.length R) c]) ∧ w.heap.size ≤ a ∧ w.heap.size ≤ C ∧ Bx w' a C R gs ∧ Vals encS w' gs (l.take R) ∧ Below w.heap.size w w'
theorem filledTo_mk {w w' : World} {R : Nat} {p : Option Addr} {c : Nat} {l : List ByteArray} {a C : Nat} {gs : List Nat} {n : Nat} {e : Ending} (he : e = .returned (.tuple #[.pointer (some ⟨a, 0, none⟩), .slice p n c])) (hn : n = min l.length R) (ha : w.heap.size ≤ a) (hC : w.heap.size ≤ C) (hb : Bx w' a C R gs) {k : Nat} (hk : min k R = min l.length R ∨ min k R = R) (hv : Vals encS w' gs (l.take (min k R))) (hbl : Below w.heap.size w w') : FilledTo w R p c l e w' := by
  refine ⟨a, C, gs, ?_, ha, hC, hb, ?_, hbl⟩
  · rw [he, hn]
  · rcases hk with e | e
    · rw [e] at hv
      have : l.take (min l.length R) = l.take R := by
        rcases Nat.le_total l.length R with h | h
        · rw [Nat.min_eq_left h, List.take_length, List.take_of_length_le h]
        · rw [Nat.min_eq_right h]
      rwa [this] at hv
    · rwa [e] at hv

set_option maxHeartbeats 4000000 in
set_option maxRecDepth 100000 in
theorem filledS (room : Int) (p : Option Addr) (c : Nat) (l : List ByteArray) (w : World) (h : LiesS w p l) (hp : p = none → l = [] ∧ c = 0) (hlc : l.length ≤ c) (hc : c ≤ 9223372036854775807) (R : Nat) (hR : (R : Int) = min (max room 0) 100) (h1 : -9223372036854775808 ≤ room) (h2 : room ≤ 9223372036854775807) :
    Calls Try.prog 18 #[.int .i64 room, .slice p l.length c] w (FilledTo w R p c l) := by
  have hR1 : R ≤ 100 := by omega
  have H := Lib.hid h; have HP := Lib.hid hp
  obtain ⟨X, key, N⟩ : ∃ X : Int, ((room < 0 ∧ X = 0) ∧ (R : Int) ≤ 0 ∨ ((0 ≤ room ∧ room ≤ 100) ∧ X = room) ∧ (R : Int) ≤ room ∧ room ≤ R ∨ (100 < room ∧ X = 100) ∧ 100 ≤ R) ∧ Hid (Calls Try.prog 32 #[.int .i64 X] w (NewTo w R)) := by
    refine ⟨min (max room 0) 100, by omega, newS _ R w (by omega) (by omega)⟩
  clear hR h hp
  rcases key with ⟨⟨k1, rfl⟩, k2⟩ | ⟨⟨⟨k1, k3⟩, rfl⟩, k2, k4⟩ | ⟨⟨k1, rfl⟩, k2⟩
  all_goals
    by_cases hl2 : l.length ≤ 200
    all_goals
      go_enter Try.func18, Try.ntmps18
      go_wp2_with fail
      refine N.out.mono ?_
      rintro e w1 ⟨a, C, rfl, ha, hC, hb, hbel⟩
      have BX := Lib.hid hb; have B1 := Lib.hid hbel
      clear hb hbel N
      go_wp2
      go_loopw [20] (fun i wr => ∃ (k : Nat) (gs : List Nat), k ≤ min l.length 200 ∧ i = .int .i64 k ∧ Bx wr a C R gs ∧ Vals encS wr gs (l.take (min k R)) ∧ Below w.heap.size w wr) (fun i _ => 200 - (intOf i).toNat)
      case atStart => exact ⟨0, [], Nat.zero_le _, rfl, BX.out, by simp [Vals], B1.out⟩
      case round =>
        obtain ⟨k, gs, hk, rfl, hb, hv, hbl⟩ := hrel
        have BX := Lib.hid hb; have VS := Lib.hid hv; have BW := Lib.hid hbl
        have hz := hbl.size
        have hgl := hv.len
        rw [List.length_take] at hgl
        clear hb hv hbl
        by_cases hlt : k < min l.length 200
        · have hlt1 : (k : Int) < l.length := by omega
          have hlt2 : (k : Int) < 200 := by omega
          have LW := H.out.below BW.out
          obtain ⟨b, o, rfl, hbb, hcell⟩ := LW.at (by omega)
          have hc1 := hcell k (by omega)
          clear LW hcell
          by_cases hkR : k < R
          · have TN : Hid (l.take (min k R) ++ [l.getD k ByteArray.empty] = l.take (min (k + 1) R)) := by
              show l.take (min k R) ++ [l.getD k ByteArray.empty] = l.take (min (k + 1) R)
              rw [Nat.min_eq_left (by omega), Nat.min_eq_left (by omega)]
              exact take_next l ByteArray.empty k (by omega)
            generalize l.getD k ByteArray.empty = x at hc1 TN
            have P := Lib.hid (PutS_ok a C R w.heap.size gs x wr BX.out (by omega) hC hz)
            clear hgl
            go_wp2_with fail
            refine P.out.mono ?_
            rintro e w2 ⟨rfl, ⟨g, hcg, hb2⟩, hbel2, hgr2⟩
            have B2 := Lib.hid hb2
            have V2 : Hid (Vals encS w2 (gs ++ [g]) (l.take (min (k + 1) R))) := by
              have := Vals.append (enc := encS) (w := w2) (g2 := [g]) (v2 := [x]) ⟨hcg, trivial⟩ (VS.out.cell BX.out hgr2)
              rwa [TN.out] at this
            have W2 := Lib.hid (BW.out.trans hbel2)
            clear hcg hb2 hbel2 hgr2 P
            go_wp2
            go_roundw
            case rel => exact ⟨k + 1, gs ++ [g], by omega, by go_num, B2.out, V2.out, W2.out⟩
            case measure => simp [intOf]; omega
          · have TN : Hid (l.take (min k R) = l.take (min (k + 1) R)) := by
              show l.take (min k R) = l.take (min (k + 1) R)
              rw [Nat.min_eq_right (by omega), Nat.min_eq_right (by omega)]
            generalize l.getD k ByteArray.empty = x at hc1
            have P := Lib.hid (PutS_no a C R gs x wr BX.out (by omega))
            clear hgl
            unfold encS at P
            go_wp2_with fail
            refine P.out.mono ?_
            rintro e w2 ⟨rfl, hbel2⟩
            have B2 := Lib.hid (BX.out.below hbel2)
            have V2 : Hid (Vals encS w2 gs (l.take (min (k + 1) R))) := by
              have := VS.out.below hbel2
              rwa [TN.out] at this
            have W2 := Lib.hid (BW.out.trans (hbel2.mono hz))
            clear hbel2 P
            go_wp2
            go_roundw
            case rel => exact ⟨k + 1, gs, by omega, by go_num, B2.out, V2.out, W2.out⟩
            case measure => simp [intOf]; omega
        · have hx1 : min l.length 200 ≤ k := by omega
          have MK := Lib.hid (fun (n : Nat) (hn : n = min l.length R) (w' : World) (hw : Below wr.heap.size wr w') => filledTo_mk (w := w) (w' := w') (p := p) (c := c) (n := n) rfl hn ha hC (BX.out.below hw) (k := k) (by omega) (VS.out.below hw) (BW.out.trans (hw.mono hz)))
          clear hlt
          by_cases hlR : l.length ≤ R
          all_goals
            first
            | (exfalso; omega)
            | have hq1 : ¬ (k : Int) < l.length := by omega
            | have hq1 : ¬ (k : Int) < 200 := by omega
          all_goals
            go_wp2
            go_quiet (fail)
            go_wp2
            go_ret2
            exact MK.out _ (by omega) _ (drewN_below (Below.refl _ _) _)
end Go.Proofs.Ytlojmngolgonlaa
