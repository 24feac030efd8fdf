/- slices.Grow of nil and slices.Concat of two lists of texts; a box poured into itself. -/
import Derived.Test.YtlojmngolgonlaaBoxListS
import Derived.Test.YtlojmngolgonlaaOpenS
import Derived.Lib.AppendZerosOnto
import Derived.Lib.AppendZeros
import Derived.Lib.SliceRun
namespace Go.Proofs.Ytlojmngolgonlaa
open Go Go.RowKit Go.Conc
set_option linter.unusedVariables false

section
variable {P : Program} {t e : TypeId} {z : Value} {b : Nat} {ops : Array Oper} {rest : List Oper} {o : Oper} {a : Act} {Q : Exit → Act → World → Prop}
/-- a slice of things of one cell put behind a row of the call's own -/
theorem wpList_cat (U : One P t e z b) (w : World) (hg : o.guard = none) (s x : Operand) (ho : o.op = .call { callee := .builtin .append, args := #[s, x], argTypes := #[t, t] })
    (B n : Nat) (xs : List Value) (v : Value) (hs : a.eval s = v) (hown : w.ownsRow B e 1 v n xs) (p : Option Addr) (m c : Nat) (hx : a.eval x = .slice p m c) (news : List Value) (hl : news.length = m)
    (h0 : p = none → m = 0 ∧ c = 0) (hnews : ∀ ad, p = some ad → ∀ (j : Nat) (u : Value), news[j]? = some u → w.cell? (ad.add j) = some u) (h1 : ∀ u ∈ news, u.oneCell' = true)
    (hlen : n + m ≤ 1000000000000) (hB : B ≤ w.heap.size)
    (h : ∀ v' w', w'.ownsRow B e 1 v' (n + m) (xs ++ news) → Below B w w' → wpList P ops Q rest (a.put o.dst v') w') : wpList P ops Q (o :: rest) a w := by
  obtain ⟨i0, hi, hz0, hz1, hz2⟩ := info_parts U.info
  have hb := U.le
  have hm : (n + m) * b ≤ 140737488355328 := Nat.le_trans (Nat.mul_le_mul_left _ hb) (by omega)
  cases p with
  | none =>
    obtain ⟨rfl, rfl⟩ := h0 rfl
    obtain rfl := List.length_eq_zero_iff.1 hl
    exact wpList_append_own_none hg s x t ho B e i0 1 U.slice hi v n xs hs hown hx (h v w (by simpa using hown) (Below.refl _ _))
  | some ad =>
    refine wpList_append_own _ hg s x t ho B e i0 z 1 b U.slice hi hz0 hz1 hz2 U.one (by decide) v n xs hs hown ad m c news hx (by omega) (hnews ad rfl) h1 (by unfold maxLen; omega) hm hB ?_
    intro v' w' g1 g2 _
    exact h v' w' g1 ((Below.refl B w).grown g2 hB (fun k hk => (hown.lt k hk).1))
end

def Grown0 (w : World) (e : Ending) (w' : World) : Prop := ∃ v, e = .returned v ∧ w'.ownsRow w.heap.size 9 1 v 0 [] ∧ Below w.heap.size w w'

set_option maxHeartbeats 2000000 in
theorem growS (n : Nat) (w : World) (hn : n ≤ 4096) : Calls Try.prog 41 #[.slice none 0 0, .int .i64 (n : Int)] w (Grown0 w) := by
  obtain ⟨i0, hi, hz0, hz1, hz2⟩ := info_parts infoS
  have h1 : ¬ ((n : Int) < 0) := by omega
  have h2 : wrap64 (n : Int) = n := by unfold wrap64; omega
  rcases Nat.eq_zero_or_pos n with rfl | hp
  · go_enter Try.func41, Try.ntmps41
    go_wp2
    go_ret
    exact ⟨_, rfl, World.ownsRow_nil _ _ _ _, Below.refl _ _⟩
  · have h4 : (0 : Int) < n := by omega
    have h5 : (n : Int) > 0 := h4
    have hold : (Builtin.firstCells i0.size 0 (.slice none 0 0)).run Try.prog w.drew = .ok ([] : List Value).toArray w.drew := run_firstCells_none w.drew i0.size 0 0 0
    have hrz : ∀ ty, (Builtin.append_ #[40, 3] ty #[.slice none 0 0, .int .i64 (n : Int)]).run Try.prog w =
        .ok (.slice (some ⟨w.heap.size, 0, none⟩) n (grownCap w n 0 9)) (w.drew.alloc (.cells (([] : List Value).toArray ++ Builtin.zeroCells (Value.string ByteArray.empty).cells n ++ Builtin.zeroCells (Value.string ByteArray.empty).cells (grownCap w n 0 9 - n)) 9)) := fun ty => by
      have hf : Builtin.nextslicecap (0 + n) 0 * i0.bytes ≤ 281474976710656 := growslice_fits (by omega) (by rw [hz2]; omega)
      have h := Lib.run_append_grow_zeros w 40 3 ty 9 i0 (.string ByteArray.empty) .i64 .i64 Try.underlying40 Try.underlying3 hi hz0 none 0 0 [] hold n hp (by rw [hz1]; decide) (by omega) (by omega) (by rw [hz2]; omega) hf
      simpa using h
    have hG : n ≤ grownCap w n 0 9 := grownCap_ge w _ _ _
    have hM : grownCap w n 0 9 ≤ maxLen := grownCap_le_maxLen w n 0 9 (by unfold maxLen; omega)
    have hs : (([] : List Value).toArray ++ Builtin.zeroCells (Value.string ByteArray.empty).cells n ++ Builtin.zeroCells (Value.string ByteArray.empty).cells (grownCap w n 0 9 - n)).size = grownCap w n 0 9 * 1 := by
      simp [Builtin.zeroCells, Value.cells]; omega
    generalize grownCap w n 0 9 = G at hrz hG hM hs
    generalize (([] : List Value).toArray ++ Builtin.zeroCells (Value.string ByteArray.empty).cells n ++ Builtin.zeroCells (Value.string ByteArray.empty).cells (G - n)) = cur at hrz hs
    have OWN : Hid ((w.drew.alloc (.cells cur 9)).ownsRow w.heap.size 9 1 (.slice (some ⟨w.heap.size, 0, none⟩) 0 G) 0 []) := World.ownsRow_made w.drew cur G (Nat.le_refl _) hM hs
    have BEL : Hid (Below w.heap.size w (w.drew.alloc (.cells cur 9))) := (Below.refl _ w).drew.alloc (Nat.le_refl _) _
    have hG2 : (0 : Int) ≤ G := by omega
    have hM2 : G ≤ 9223372036854775807 := by unfold maxLen at hM; omega
    clear hold hs
    go_enter Try.func41, Try.ntmps41
    go_wp2_with (at_builtin; refine Lib.wpList_append_run _ rfl _ _ _ _ rfl _ _ rfl rfl _ _ (hrz _) ?_)
    all_goals (go_ret; exact ⟨_, rfl, OWN.out, BEL.out⟩)
/-- as many as the first k of two parts have -/
def part (n m : Nat) : Nat → Nat
  | 0 => 0
  | 1 => n
  | _ => n + m
def parts (l m : List ByteArray) : Nat → List ByteArray
  | 0 => []
  | 1 => l
  | _ => l ++ m
def encT (l : List ByteArray) : List Value := l.map Value.string
theorem liesS_news {w : World} {p : Option Addr} {l : List ByteArray} (h : LiesS w p l) : ∀ ad, p = some ad → ∀ (j : Nat) (u : Value), (encT l)[j]? = some u → w.cell? (ad.add j) = some u := by
  intro ad hp j u hu
  have hj : j < l.length := by have := (List.getElem?_eq_some_iff.1 hu).1; simpa [encT] using this
  obtain ⟨b, o, e, _, hc⟩ := h.at (by omega)
  rw [hp] at e; cases e
  have := hc j hj
  rw [show (⟨b, o, none⟩ : Addr).add j = ⟨b, o + j, none⟩ from by cases j <;> simp [Addr.add], this]
  simp only [encT, List.getElem?_map, List.getElem?_eq_getElem hj, Option.map_some, Option.some.injEq] at hu
  rw [← hu, List.getD, List.getElem?_eq_getElem hj]; rfl
theorem liesS_own {w : World} {B : Nat} {t : TypeId} {v : Value} {n : Nat} {l : List ByteArray} (h : w.ownsRow B t 1 v n (encT l)) : ∃ p c, v = .slice p n c ∧ n ≤ c ∧ n = l.length ∧ LiesS w p l := by
  obtain ⟨p, c, rfl, hc, hn, hcells⟩ := ownV_cells h
  have hn' : n = l.length := by rw [hn]; simp [encT]
  refine ⟨p, c, rfl, hc, hn', fun hne => ?_⟩
  have hpos : 0 < l.length := List.length_pos_iff.2 hne
  have get : ∀ i, i < l.length → (encT l)[i]? = some (.string (l.getD i ByteArray.empty)) := fun i hi => by
    simp [encT, List.getD, List.getElem?_eq_getElem hi]
  obtain ⟨b, o, hp, _⟩ := hcells 0 _ (get 0 hpos)
  refine ⟨b, o, hp, fun i hi => ?_⟩
  obtain ⟨b', o', hp', hx⟩ := hcells i _ (get i hi)
  rw [hp] at hp'; cases hp'
  exact hx
def CatTo (w : World) (l m : List ByteArray) (e : Ending) (w' : World) : Prop := ∃ p c, e = .returned (.slice p (l ++ m).length c) ∧ LiesS w' p (l ++ m) ∧ Below w.heap.size w w'

set_option maxHeartbeats 4000000 in
set_option maxRecDepth 100000 in
theorem concatS (R c p1c p2c : Nat) (p1 p2 : Option Addr) (l m : List ByteArray) (w : World) (h1 : LiesS w p1 l) (h2 : LiesS w p2 m) (n1 : p1 = none → l = [] ∧ p1c = 0) (n2 : p2 = none → m = [] ∧ p2c = 0) (hl : l.length ≤ 2000) (hm : m.length ≤ 2000)
    (hc1 : w.cell? ⟨R, 0, none⟩ = some (.slice p1 l.length p1c)) (hc2 : w.cell? ⟨R, 1, none⟩ = some (.slice p2 m.length p2c)) :
    Calls Try.prog 22 #[.slice (some ⟨R, 0, none⟩) 2 2] w (CatTo w l m) := by
  have H1 := Lib.hid h1; have H2 := Lib.hid h2; have N1 := Lib.hid n1; have N2 := Lib.hid n2; have C1 := Lib.hid hc1; have C2 := Lib.hid hc2
  have G := Lib.hid (growS (l.length + m.length) w (by omega))
  have LL := Lib.hid hl; have LM := Lib.hid hm
  have HL : Hid ((encT l).length = l.length) := by show (encT l).length = _; simp [encT]
  have HM : Hid ((encT m).length = m.length) := by show (encT m).length = _; simp [encT]
  have PL : Hid (∀ v w', w'.ownsRow w.heap.size 9 1 v (part l.length m.length 2) (encT (parts l m 2)) → Below w.heap.size w w' → CatTo w l m (.returned v) w') := fun v w' ho hb => by
    obtain ⟨p, c, rfl, _, hn, hL⟩ := liesS_own ho
    exact ⟨p, c, by rw [hn]; rfl, hL, hb⟩
  clear h1 h2 n1 n2
  go_enter Try.func22, Try.ntmps22
  go_wp2
  go_loopw [3, 11] (fun sz i wr => ∃ k : Nat, k ≤ 2 ∧ i = .int .i64 k ∧ sz = .int .i64 (part l.length m.length k : Nat) ∧ wr = w) (fun _ i _ => 2 - (intOf i).toNat)
  case atStart => exact ⟨0, Nat.zero_le _, rfl, rfl, rfl⟩
  case round =>
    obtain ⟨k, hk, rfl, rfl, hw⟩ := hrel
    subst wr
    rcases (show k = 0 ∨ k = 1 ∨ k = 2 by omega) with rfl | rfl | rfl
    · simp only [part]
      have a1 : ¬ ((l.length : Int) < 0) := by omega
      have a2 : wrap64 (l.length : Int) = l.length := by unfold wrap64; omega
      go_wp2
      go_roundw
      case rel => exact ⟨1, by omega, by simp, by simp [part], by simp⟩
      case measure => simp [intOf]
    · simp only [part]
      have a1 : ¬ ((l.length : Int) + m.length < 0) := by omega
      have a2 : wrap64 ((l.length : Int) + m.length) = (l.length : Int) + m.length := by unfold wrap64; omega
      go_wp2
      go_roundw
      case rel => exact ⟨2, by omega, by simp, by simp [part], by simp⟩
      case measure => simp [intOf]
    · simp only [part]
      go_wp2_with fail
      have hsum : (l.length : Int) + m.length = ((l.length + m.length : Nat) : Int) := by omega
      refine (G.out).mono ?_
      rintro e w1 ⟨v, rfl, hown, hb⟩
      have O := Lib.hid hown; have BW := Lib.hid hb
      clear hown hb G hsum
      go_wp2
      go_loopw [6, 27] (fun v i wx => ∃ k : Nat, k ≤ 2 ∧ i = .int .i64 k ∧ wx.ownsRow w.heap.size 9 1 v (part l.length m.length k) (encT (parts l m k)) ∧ Below w.heap.size w wx) (fun _ i _ => 2 - (intOf i).toNat)
      case atStart => exact ⟨0, Nat.zero_le _, rfl, O.out, BW.out⟩
      case round =>
        obtain ⟨k, hk, rfl, hown, hb⟩ := hrel
        have O2 := Lib.hid hown; have B2 := Lib.hid hb
        have hz := hb.size
        have c1 := B2.out.cell (p := ⟨R, 0, none⟩) (World.block_lt_of_cell? w _ C1.out)
        have c2 := B2.out.cell (p := ⟨R, 1, none⟩) (World.block_lt_of_cell? w _ C2.out)
        rw [C1.out] at c1; rw [C2.out] at c2
        clear hown hb O BW
        rcases (show k = 0 ∨ k = 1 ∨ k = 2 by omega) with rfl | rfl | rfl
        · go_wp2_with (refine wpList_cat isOneS _ rfl _ _ rfl w.heap.size _ _ _ rfl O2.out p1 l.length p1c rfl (encT l) HL.out (fun e => by obtain ⟨rfl, h⟩ := N1.out e; exact ⟨rfl, h⟩) (liesS_news (H1.out.below B2.out)) (by simp [encT, Value.oneCell']) (by have := LL.out; have := LM.out; simp only [part]; omega) hz ?_)
          intro v' w2 ho2 hb2
          have O3 := Lib.hid ho2; have B3 := Lib.hid (B2.out.trans hb2)
          clear ho2 hb2
          go_wp2
          go_roundw
          case rel => exact ⟨1, by omega, by simp, by simpa [part, parts, encT] using O3.out, B3.out⟩
          case measure => simp [intOf]
        · go_wp2_with (refine wpList_cat isOneS _ rfl _ _ rfl w.heap.size _ _ _ rfl O2.out p2 m.length p2c rfl (encT m) HM.out (fun e => by obtain ⟨rfl, h⟩ := N2.out e; exact ⟨rfl, h⟩) (liesS_news (H2.out.below B2.out)) (by simp [encT, Value.oneCell']) (by have := LL.out; have := LM.out; simp only [part]; omega) hz ?_)
          intro v' w2 ho2 hb2
          have O3 := Lib.hid ho2; have B3 := Lib.hid (B2.out.trans hb2)
          clear ho2 hb2
          go_wp2
          go_roundw
          case rel => exact ⟨2, by omega, by simp, by simpa [part, parts, encT] using O3.out, B3.out⟩
          case measure => simp [intOf]
        · go_wp2
          go_ret
          exact PL.out _ _ O2.out B2.out
end Go.Proofs.Ytlojmngolgonlaa
