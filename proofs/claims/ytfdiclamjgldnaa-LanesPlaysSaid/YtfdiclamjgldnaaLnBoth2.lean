/- Lanes, the program's and the document's, side by side: Take, Peek. -/
import Derived.Test.YtfdiclamjgldnaaLnBoth
namespace Go.Proofs.Ytfdiclamjgldnaa
open Go Go.RowKit Go.Conc
set_option linter.unusedVariables false

def TwoB (B A R n : Nat) (W : World) (k : Nat) (w : World) (g : FuncId) (args : Array Value) (e : Ending) (w1 : World) : Prop :=
  ∃ p1 m c1, ∃ r : Int, e = .returned (.tuple #[.slice p1 m c1, .int .i64 r]) ∧ Stay w w1 ∧ Calls Try.prog g args w1 fun e2 w2 => ∃ p2 c2, e2 = .returned (.tuple #[.slice p2 m c2, .int .i64 r]) ∧ St B A R n W (k + 1) w2 ∧
    Calls Try.prog 21 #[.slice p1 m c1, .slice p2 m c2] w2 fun e3 w3 => e3 = .returned (.bool true) ∧ w2 = w3
theorem equal_nil (w : World) : Calls Try.prog 21 #[.slice none 0 0, .slice none 0 0] w fun e3 w3 => e3 = .returned (.bool true) ∧ w = w3 :=
  equal_any none none 0 0 0 0 [] [] w (Lies.nil _ _) (Lies.nil _ _) rfl rfl
theorem two_take (B A R n : Nat) (W : World) (k : Nat) (hk80 : k ≤ 80) (w : World) (h : St B A R n W k w) (f t K : Int) :
    Calls Try.prog 16 #[.pointer (some ⟨A, 0, none⟩), .int .i64 f, .int .i64 t, .int .i64 K] w (TwoB B A R n W k w 20 #[.pointer (some ⟨R, 0, none⟩), .int .i64 f, .int .i64 t, .int .i64 K]) := by
  obtain ⟨F, L, S, Lo, hx, hr, hrel, hin, hL, hS, hLo, hb⟩ := h
  have hd := fun (w1 : World) (h1 : Rl w1 B R n L S Lo) => refTake_is B R n L S Lo f t K w1 h1 (by omega)
  by_cases hk : InN n (f, t)
  · by_cases hK : 0 ≤ K ∧ K < (F (f, t)).length
    · obtain ⟨i, rfl⟩ := Int.eq_ofNat_of_zero_le hK.1
      refine (take_is B A n F S Lo w hx f t hk i (by omega)).mono ?_
      rintro e w1 ⟨v, rfl, ho, hx1, hb1⟩
      obtain ⟨_, p1, c1, rfl, _, _, _, _⟩ := own_lies ho
      have hr1 := hr.stay hb1.stay
      refine ⟨p1, _, c1, 0, rfl, hb1.stay, (hd w1 hr1).mono ?_⟩
      rintro e w2 (⟨r, hw, _⟩ | ⟨_, y, j, p2, c2, _, hyy, hat, rfl, hl2, _, _, hr2, hb2, hs2⟩)
      · have := (whyNot_10 hw hk).2
        rw [← hrel.len] at this; omega
      · rw [Int.toNat_natCast] at hat hyy
        have hsm := seen_same (hrel.get (f, t) i y hyy (by omega))
        rw [hsm] at ho ⊢
        rw [seenP_len] at ho ⊢
        have ho2 := hs2.row _ _ _ _ ho
        have hl1 : Lies w2 p1 (seenP y) := by
          obtain ⟨_, q1, cc, e1, _, _, hl, _⟩ := own_lies ho2
          simp only [Value.slice.injEq] at e1
          rw [e1.1]; exact hl
        refine ⟨p2, c2, rfl, ⟨_, _, _, _, hs2.lx _ _ _ _ _ _ hx1, hr2, hrel.erase (f, t) i j hat, in_erase hin, by simp; omega, ⟨by omega, by omega⟩, ⟨by omega, by omega⟩, hb.trans (hb1.bel.trans hb2)⟩, ?_⟩
        have he := equal_any p1 p2 y.b.length y.b.length c1 c2 (seenP y) (seenP y) w2 hl1 hl2 (seenP_len y).symm (seenP_len y).symm
        rw [show (seenP y == seenP y) = true by simp] at he
        exact he
    · refine (take_err _ f t K 10 w (noFind_out B A n F S Lo w hx f t K hk (by omega))).mono ?_
      rintro e w1 ⟨rfl, rfl⟩
      refine ⟨none, 0, 0, 10, rfl, Stay.refl _, (hd w hr).mono ?_⟩
      rintro e w2 (⟨r, hw, rfl, hr2, hb2, hs2⟩ | ⟨_, x, j, p2, c2, h0, hxx, _⟩)
      · exact ⟨none, 0, by rw [(whyNot_10 hw hk).1], ⟨F, L, S, Lo, hs2.lx _ _ _ _ _ _ hx, hr2, hrel, hin, by omega, ⟨by omega, by omega⟩, ⟨by omega, by omega⟩, hb.trans hb2⟩, equal_nil w2⟩
      · have := (List.getElem?_eq_some_iff.1 hxx).1
        rw [← hrel.len] at this; omega
  · refine (take_err _ f t K 15 w (noFind_way B A n F S Lo w hx f t K hk)).mono ?_
    rintro e w1 ⟨rfl, rfl⟩
    refine ⟨none, 0, 0, 15, rfl, Stay.refl _, (hd w hr).mono ?_⟩
    rintro e w2 (⟨r, hw, rfl, hr2, hb2, hs2⟩ | ⟨q, _⟩)
    · exact ⟨none, 0, by rw [whyNot_15 hw hk], ⟨F, L, S, Lo, hs2.lx _ _ _ _ _ _ hx, hr2, hrel, hin, by omega, ⟨by omega, by omega⟩, ⟨by omega, by omega⟩, hb.trans hb2⟩, equal_nil w2⟩
    · exact absurd q hk
theorem two_peek (B A R n : Nat) (W : World) (k : Nat) (hk80 : k ≤ 80) (w : World) (h : St B A R n W k w) (f t K : Int) :
    Calls Try.prog 17 #[.pointer (some ⟨A, 0, none⟩), .int .i64 f, .int .i64 t, .int .i64 K] w (TwoB B A R n W k w 25 #[.pointer (some ⟨R, 0, none⟩), .int .i64 f, .int .i64 t, .int .i64 K]) := by
  obtain ⟨F, L, S, Lo, hx, hr, hrel, hin, hL, hS, hLo, hb⟩ := h
  have hd := fun (w1 : World) (h1 : Rl w1 B R n L S Lo) => refPeek_any B R n L S Lo f t K w1 h1 (by omega)
  by_cases hk : InN n (f, t)
  · by_cases hK : 0 ≤ K ∧ K < (F (f, t)).length
    · obtain ⟨i, rfl⟩ := Int.eq_ofNat_of_zero_le hK.1
      refine (peek_is B A n F S Lo w hx f t hk i (by omega)).mono ?_
      rintro e w1 ⟨v, rfl, ho, hx1, hb1⟩
      obtain ⟨_, p1, c1, rfl, _, _, _, _⟩ := own_lies ho
      have hr1 := hr.stay hb1.stay
      refine ⟨p1, _, c1, 0, rfl, hb1.stay, (hd w1 hr1).mono ?_⟩
      rintro e w2 ⟨hb2, ⟨r, hw, _⟩ | ⟨_, y, p2, c2, _, hyy, rfl, hl2, _, _⟩⟩
      · have := (whyNot_10 hw hk).2
        rw [← hrel.len] at this; omega
      · have hs2 := docStep_below hb2
        rw [Int.toNat_natCast] at hyy
        have hsm := seen_same (hrel.get (f, t) i y hyy (by omega))
        rw [hsm] at ho ⊢
        rw [seenP_len] at ho ⊢
        have ho2 := hs2.row _ _ _ _ ho
        have hl1 : Lies w2 p1 (seenP y) := by
          obtain ⟨_, q1, cc, e1, _, _, hl, _⟩ := own_lies ho2
          simp only [Value.slice.injEq] at e1
          rw [e1.1]; exact hl
        refine ⟨p2, c2, rfl, ⟨F, L, S, Lo, hs2.lx _ _ _ _ _ _ hx1, hr1.below hb2, hrel, hin, by omega, ⟨by omega, by omega⟩, ⟨by omega, by omega⟩, hb.trans (hb1.bel.trans (hb2.mono hr1.size))⟩, ?_⟩
        have he := equal_any p1 p2 y.b.length y.b.length c1 c2 (seenP y) (seenP y) w2 hl1 hl2 (seenP_len y).symm (seenP_len y).symm
        rw [show (seenP y == seenP y) = true by simp] at he
        exact he
    · refine (peek_err _ f t K 10 w (noFind_out B A n F S Lo w hx f t K hk (by omega))).mono ?_
      rintro e w1 ⟨rfl, rfl⟩
      refine ⟨none, 0, 0, 10, rfl, Stay.refl _, (hd w hr).mono ?_⟩
      rintro e w2 ⟨hb2, ⟨r, hw, rfl⟩ | ⟨_, x, p2, c2, h0, hxx, _⟩⟩
      · exact ⟨none, 0, by rw [(whyNot_10 hw hk).1], ⟨F, L, S, Lo, hx.below hb2, hr.below hb2, hrel, hin, by omega, ⟨by omega, by omega⟩, ⟨by omega, by omega⟩, hb.trans (hb2.mono hr.size)⟩, equal_nil w2⟩
      · have := (List.getElem?_eq_some_iff.1 hxx).1
        rw [← hrel.len] at this; omega
  · refine (peek_err _ f t K 15 w (noFind_way B A n F S Lo w hx f t K hk)).mono ?_
    rintro e w1 ⟨rfl, rfl⟩
    refine ⟨none, 0, 0, 15, rfl, Stay.refl _, (hd w hr).mono ?_⟩
    rintro e w2 ⟨hb2, ⟨r, hw, rfl⟩ | ⟨q, _⟩⟩
    · exact ⟨none, 0, by rw [whyNot_15 hw hk], ⟨F, L, S, Lo, hx.below hb2, hr.below hb2, hrel, hin, by omega, ⟨by omega, by omega⟩, ⟨by omega, by omega⟩, hb.trans (hb2.mono hr.size)⟩, equal_nil w2⟩
    · exact absurd q hk
theorem St.below {B A R n : Nat} {W w w' : World} {k : Nat} (h : St B A R n W k w) (hb : Below w.heap.size w w') : St B A R n W k w' := by
  obtain ⟨F, L, S, Lo, hx, hr, hrel, hin, hL, hS, hLo, h0⟩ := h
  exact ⟨F, L, S, Lo, hx.below hb, hr.below hb, hrel, hin, hL, hS, hLo, h0.trans (hb.mono hr.size)⟩
theorem St.bel {B A R n : Nat} {W w : World} {k : Nat} (h : St B A R n W k w) : Below B W w := by
  obtain ⟨F, L, S, Lo, hx, hr, hrel, hin, hL, hS, hLo, h0⟩ := h
  exact h0
theorem St.size {B A R n : Nat} {W w : World} {k : Nat} (h : St B A R n W k w) : B ≤ w.heap.size := by
  obtain ⟨F, L, S, Lo, hx, hr, hrel, hin, hL, hS, hLo, h0⟩ := h
  exact hr.size
end Go.Proofs.Ytfdiclamjgldnaa
