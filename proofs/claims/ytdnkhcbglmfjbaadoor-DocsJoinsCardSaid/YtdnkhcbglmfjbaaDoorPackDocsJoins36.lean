/- The statement DocsJoins, proved for every input that its row reads: part 36 of 54. -/
import Derived.Test.YtdnkhcbglmfjbaaDoorPackDocsJoins31
import Derived.Lib.AppendZerosOnto
import Derived.Lib.AppendZeros
import Derived.Lib.SliceRun
/- slices.Grow of nil and slices.Concat of two lists of writes. -/
namespace Go.Proofs.YtdnkhcbglmfjbaaDoor
open Go Go.RowKit
set_option linter.unusedVariables false

theorem wpList_wrsA {ops : Array Oper} {rest : List Oper} {o : Oper} {a : Act} {Q : Exit → Act → World → Prop} (w : World) (hg : o.guard = none) (s x : Operand) (ho : o.op = .call { callee := .builtin .append, args := #[s, x], argTypes := #[24, 24] })
    (B : Nat) (l : List Wr) (v : Value) (hs : a.eval s = v) (hown : w.ownsRow B 34 6 v l.length (wcl l)) (p : Option Addr) (m c : Nat) (l2 : List Wr) (hx : a.eval x = .slice p m c) (hl : WrsAt w p l2) (hm : m = l2.length) (hp : p = none → m = 0 ∧ c = 0)
    (hlen : l.length + m ≤ 1000000) (hB : B ≤ w.heap.size)
    (h : ∀ v' w', w'.ownsRow B 34 6 v' (l ++ l2).length (wcl (l ++ l2)) → Below B w w' → wpList Tryd.prog ops Q rest (a.put o.dst v') w') : wpList Tryd.prog ops Q (o :: rest) a w := by
  obtain ⟨i0, hi, hz0, hz1, hz2⟩ := info_parts infoWr
  cases p with
  | none =>
    obtain ⟨rfl, rfl⟩ := hp rfl
    obtain rfl : l2 = [] := List.eq_nil_of_length_eq_zero hm.symm
    exact wpList_append_own_none hg s x _ ho B 34 i0 6 Tryd.underlying24 hi v l.length (wcl l) hs hown hx (h v w (by simpa using hown) (Below.refl _ _))
  | some ad =>
    refine wpList_append_own _ hg s x _ ho B 34 i0 _ 6 64 Tryd.underlying24 hi hz0 hz1 hz2 rfl (by decide) v l.length (wcl l) hs hown ad m c (wcl l2) hx (by rw [wcl_length]; omega) ?_ (wcl_one _) (by unfold maxLen; omega) (by omega) hB ?_
    · by_cases h0 : l2 = []
      · subst h0; intro j u hu; simp [wcl] at hu
      · obtain ⟨b, of, e1, hc⟩ := hl.row h0
        obtain rfl := Option.some.inj e1
        intro j u hu
        rw [Addr.add_mid]; exact hc j u hu
    · intro v' w' h1 h2 _
      refine h v' w' (by rw [wcl_append, List.length_append, ← hm]; exact h1) ?_
      exact (Below.refl B w).grown h2 hB (fun k hk => (hown.lt k hk).1)
theorem own_wat0 {w : World} {B : Nat} {v : Value} {L : List Wr} (hr : w.ownsRow B 34 6 v L.length (wcl L)) : ∃ p c, v = .slice p L.length c ∧ L.length ≤ c ∧ WrsAt w p L ∧ (∀ a, p = some a → ∃ b o, a = ⟨b, o, Option.none⟩) ∧ (p = none → L = [] ∧ c = 0) := by
  obtain ⟨p, c, rfl, h1, h2, h3⟩ := own_wat hr
  refine ⟨p, c, rfl, h1, h2, h3, fun hp => ?_⟩
  subst hp
  refine ⟨h2.none rfl, ?_⟩
  rcases hr.2 with ⟨h0, _⟩ | ⟨g, cap, cur, h0, _⟩
  · injection h0
  · injection h0 with h0 _ _
    cases h0
/-- a call's own dots -/
def RetOwnW (w : World) (l : List Wr) (e : Ending) (w' : World) : Prop := ∃ v, e = .returned v ∧ w'.ownsRow w.heap.size 34 6 v l.length (wcl l) ∧ Below w.heap.size w w'
def GrownW (w : World) (e : Ending) (w' : World) : Prop := ∃ v, e = .returned v ∧ w'.ownsRow w.heap.size 34 6 v 0 [] ∧ Below w.heap.size w w'

set_option maxHeartbeats 2000000 in
theorem growW (n : Nat) (w : World) (hn : n ≤ 1000000) : Calls Tryd.prog 39 #[.slice none 0 0, .int .i64 (n : Int)] w (GrownW w) := by
  obtain ⟨i0, hi, hz0, hz1, hz2⟩ := info_parts infoWr
  have h1 : ¬ ((n : Int) < 0) := by omega
  have h2 : wrap64 (n : Int) = n := by unfold wrap64; omega
  rcases Nat.eq_zero_or_pos n with rfl | hp
  · go_enter Tryd.func39, Tryd.ntmps39
    go_wp2
    go_ret
    exact ⟨_, rfl, World.ownsRow_nil _ _ _ _, Below.refl _ _⟩
  · have h4 : (0 : Int) < n := by omega
    have h5 : (n : Int) > 0 := h4
    have hold : (Builtin.firstCells i0.size 0 (.slice none 0 0)).run Tryd.prog w.drew = .ok ([] : List Value).toArray w.drew := run_firstCells_none w.drew i0.size 0 0 0
    have hrz : ∀ ty, (Builtin.append_ #[24, 3] ty #[.slice none 0 0, .int .i64 (n : Int)]).run Tryd.prog w =
        .ok (.slice (some ⟨w.heap.size, 0, none⟩) n (grownCap w n 0 34)) (w.drew.alloc (.cells (([] : List Value).toArray ++ Builtin.zeroCells (Value.agg #[.int .i64 0, .int .i64 0, .int .i64 0, .string ByteArray.empty, .int .i64 0, .string ByteArray.empty]).cells n ++ Builtin.zeroCells (Value.agg #[.int .i64 0, .int .i64 0, .int .i64 0, .string ByteArray.empty, .int .i64 0, .string ByteArray.empty]).cells (grownCap w n 0 34 - n)) 34)) := fun ty => by
      have hf : Builtin.nextslicecap (0 + n) 0 * i0.bytes ≤ 281474976710656 := growslice_fits (by omega) (by rw [hz2]; omega)
      have h := Lib.run_append_grow_zeros w 24 3 ty 34 i0 (.agg #[.int .i64 0, .int .i64 0, .int .i64 0, .string ByteArray.empty, .int .i64 0, .string ByteArray.empty]) .i64 .i64 Tryd.underlying24 Tryd.underlying3 hi hz0 none 0 0 [] hold n hp (by rw [hz1]; decide) (by omega) (by omega) (by rw [hz2]; omega) hf
      simpa using h
    have hG : n ≤ grownCap w n 0 34 := grownCap_ge w _ _ _
    have hM : grownCap w n 0 34 ≤ maxLen := grownCap_le_maxLen w n 0 34 (by unfold maxLen; omega)
    have hs : (([] : List Value).toArray ++ Builtin.zeroCells (Value.agg #[.int .i64 0, .int .i64 0, .int .i64 0, .string ByteArray.empty, .int .i64 0, .string ByteArray.empty]).cells n ++ Builtin.zeroCells (Value.agg #[.int .i64 0, .int .i64 0, .int .i64 0, .string ByteArray.empty, .int .i64 0, .string ByteArray.empty]).cells (grownCap w n 0 34 - n)).size = grownCap w n 0 34 * 6 := by
      simp [Builtin.zeroCells, Value.cells]; omega
    generalize grownCap w n 0 34 = G at hrz hG hM hs
    generalize (([] : List Value).toArray ++ Builtin.zeroCells (Value.agg #[.int .i64 0, .int .i64 0, .int .i64 0, .string ByteArray.empty, .int .i64 0, .string ByteArray.empty]).cells n ++ Builtin.zeroCells (Value.agg #[.int .i64 0, .int .i64 0, .int .i64 0, .string ByteArray.empty, .int .i64 0, .string ByteArray.empty]).cells (G - n)) = cur at hrz hs
    have OWN : Hid ((w.drew.alloc (.cells cur 34)).ownsRow w.heap.size 34 6 (.slice (some ⟨w.heap.size, 0, none⟩) 0 G) 0 []) := World.ownsRow_made w.drew cur G (Nat.le_refl _) hM hs
    have BEL : Hid (Below w.heap.size w (w.drew.alloc (.cells cur 34))) := (Below.refl _ w).drew.alloc (Nat.le_refl _) _
    have hG2 : (0 : Int) ≤ G := by omega
    have hM2 : G ≤ 9223372036854775807 := by unfold maxLen at hM; omega
    clear hold hs
    go_enter Tryd.func39, Tryd.ntmps39
    go_wp2_with (at_builtin; refine Lib.wpList_append_run _ rfl _ _ _ _ rfl _ _ rfl rfl _ _ (hrz _) ?_)
    all_goals (go_ret; exact ⟨_, rfl, OWN.out, BEL.out⟩)
/-- as many as the first k of two parts have -/
def partW (n m : Nat) : Nat → Nat
  | 0 => 0
  | 1 => n
  | _ => n + m
def partsW (l m : List Wr) : Nat → List Wr
  | 0 => []
  | 1 => l
  | _ => l ++ m

set_option maxHeartbeats 4000000 in
set_option maxRecDepth 100000 in
theorem concatW (R c p1c p2c : Nat) (p1 p2 : Option Addr) (l m : List Wr) (w : World) (h1 : WrsAt w p1 l) (h2 : WrsAt w p2 m) (n1 : p1 = none → l = [] ∧ p1c = 0) (n2 : p2 = none → m = [] ∧ p2c = 0) (hlm : l.length + m.length ≤ 1000000)
    (hc1 : w.cell? ⟨R, 0, none⟩ = some (.slice p1 l.length p1c)) (hc2 : w.cell? ⟨R, 1, none⟩ = some (.slice p2 m.length p2c)) :
    Calls Tryd.prog 17 #[.slice (some ⟨R, 0, none⟩) 2 2] w (RetOwnW w (l ++ m)) := by
  have H1 := Lib.hid h1; have H2 := Lib.hid h2; have N1 := Lib.hid n1; have N2 := Lib.hid n2; have C1 := Lib.hid hc1; have C2 := Lib.hid hc2
  have G := Lib.hid (growW (l.length + m.length) w (by omega))
  have LL := Lib.hid hlm
  have PL : Hid (∀ v w', w'.ownsRow w.heap.size 34 6 v (partsW l m 2).length (wcl (partsW l m 2)) → Below w.heap.size w w' → RetOwnW w (l ++ m) (.returned v) w') := fun v w' ho hb =>
    ⟨v, rfl, ho, hb⟩
  clear h1 h2 n1 n2
  go_enter Tryd.func17, Tryd.ntmps17
  go_wp2
  go_loopw [3, 11] (fun sz i wr => ∃ k : Nat, k ≤ 2 ∧ i = .int .i64 k ∧ sz = .int .i64 (partW l.length m.length k : Nat) ∧ wr = w) (fun _ i _ => 2 - (intOf i).toNat)
  case atStart => exact ⟨0, Nat.zero_le _, rfl, rfl, rfl⟩
  case round =>
    obtain ⟨k, hk, rfl, rfl, hw⟩ := hrel
    subst wr
    rcases (show k = 0 ∨ k = 1 ∨ k = 2 by omega) with rfl | rfl | rfl
    · simp only [partW]
      have a1 : ¬ ((l.length : Int) < 0) := by omega
      have a2 : wrap64 (l.length : Int) = l.length := by unfold wrap64; omega
      go_wp2
      go_roundw
      case rel => exact ⟨1, by omega, by simp, by simp [partW], by simp⟩
      case measure => simp [intOf]
    · simp only [partW]
      have a1 : ¬ ((l.length : Int) + m.length < 0) := by omega
      have a2 : wrap64 ((l.length : Int) + m.length) = (l.length : Int) + m.length := by unfold wrap64; omega
      go_wp2
      go_roundw
      case rel => exact ⟨2, by omega, by simp, by simp [partW], by simp⟩
      case measure => simp [intOf]
    · simp only [partW]
      go_wp2_with fail
      have hsum : (l.length : Int) + m.length = ((l.length + m.length : Nat) : Int) := by omega
      refine (G.out).mono ?_
      rintro e w1 ⟨v, rfl, hown, hb⟩
      have O := Lib.hid hown; have BW := Lib.hid hb
      clear hown hb G hsum
      go_wp2
      go_loopw [6, 27] (fun v i wx => ∃ k : Nat, k ≤ 2 ∧ i = .int .i64 k ∧ wx.ownsRow w.heap.size 34 6 v (partsW l m k).length (wcl (partsW l m k)) ∧ Below w.heap.size w wx) (fun _ i _ => 2 - (intOf i).toNat)
      case atStart => exact ⟨0, Nat.zero_le _, rfl, O.out, BW.out⟩
      case round =>
        obtain ⟨k, hk, rfl, hown, hb⟩ := hrel
        have O2 := Lib.hid hown; have B2 := Lib.hid hb
        have hz := hb.size
        have c1 := B2.out.cell (p := ⟨R, 0, none⟩) (World.block_lt_of_cell? w _ C1.out)
        have c2 := B2.out.cell (p := ⟨R, 1, none⟩) (World.block_lt_of_cell? w _ C2.out)
        rw [C1.out] at c1; rw [C2.out] at c2
        clear hown hb O BW
        rcases (show k = 0 ∨ k = 1 ∨ k = 2 by omega) with rfl | rfl | rfl
        · go_wp2_with (at_builtin; refine wpList_wrsA _ rfl _ _ rfl w.heap.size (partsW l m 0) _ rfl O2.out p1 l.length p1c l rfl (H1.out.below B2.out) rfl (fun e => by obtain ⟨rfl, h⟩ := N1.out e; exact ⟨rfl, h⟩) (by have := LL.out; simp only [partsW, List.length_nil]; omega) hz ?_)
          intro v' w2 ho2 hb2
          have O3 := Lib.hid ho2; have B3 := Lib.hid (B2.out.trans hb2)
          clear ho2 hb2
          go_wp2
          go_roundw
          case rel => exact ⟨1, by omega, by simp, by simpa [partsW] using O3.out, B3.out⟩
          case measure => simp [intOf]
        · go_wp2_with (at_builtin; refine wpList_wrsA _ rfl _ _ rfl w.heap.size (partsW l m 1) _ rfl O2.out p2 m.length p2c m rfl (H2.out.below B2.out) rfl (fun e => by obtain ⟨rfl, h⟩ := N2.out e; exact ⟨rfl, h⟩) (by have := LL.out; simp only [partsW]; omega) hz ?_)
          intro v' w2 ho2 hb2
          have O3 := Lib.hid ho2; have B3 := Lib.hid (B2.out.trans hb2)
          clear ho2 hb2
          go_wp2
          go_roundw
          case rel => exact ⟨2, by omega, by simp, by simpa [partsW] using O3.out, B3.out⟩
          case measure => simp [intOf]
        · go_wp2
          go_ret
          exact PL.out _ _ O2.out B2.out
end Go.Proofs.YtdnkhcbglmfjbaaDoor
