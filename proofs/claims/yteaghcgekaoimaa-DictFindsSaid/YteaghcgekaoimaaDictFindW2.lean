/- Dictionaries: Seek, sort.Search over a dictionary's words, Range. -/
import Derived.Test.YteaghcgekaoimaaDictFindW
namespace Go.Proofs.Yteaghcgekaoimaa
open Go Go.RowKit
set_option linter.unusedVariables false

theorem among_iff (l : List ByteArray) (x : ByteArray) : among l l.length x = true ↔ ∃ t, t < l.length ∧ l.getD t noW = x := by
  simp [among]
theorem binW_is (q : Option Addr) (c : Nat) (l : List ByteArray) (x : ByteArray) (A : Nat) (w : World) (hl : LiesS w q l) (hA : Cut l x A) (hp : Proper l) (hn : l.length ≤ 1000000) :
    Calls Try.prog 26 #[.slice q l.length c, .string x] w fun e w' => e = .returned (.tuple #[.int .i64 (A : Nat), .bool (among l l.length x)]) ∧ Below w.heap.size w w' := by
  have hAl := hA.le
  by_cases h0 : l = []
  · subst h0
    obtain rfl : A = 0 := by simpa using hAl
    refine (Any2.slices_BinarySearch_string_empty Try.laysNm226 q c x w).mono ?_
    rintro e w' ⟨rfl, h⟩
    refine ⟨rfl, ?_⟩
    first
      | (subst h; exact Below.refl _ _)
      | (obtain ⟨k, rfl⟩ := h; exact belowD (Below.refl _ _) k)
  · obtain ⟨b, o, rfl, hc⟩ := hl h0
    obtain ⟨Sx, hSx⟩ : ∃ Sx : Nat → ByteArray, Sx = fun t => if t < l.length then l.getD t ByteArray.empty else x := ⟨_, rfl⟩
    have h := Any2.slices_BinarySearch_string Try.laysNm226 b o l.length c Sx x w (by omega) (fun j hj => by rw [hSx]; simp only [hj, if_true]; exact hc j hj)
    have hgo : Lib.bsGo (fun t => Op.bytesLess (Sx t).toList x.toList) l.length 0 l.length = A := by
      refine Lib.bsGo_spec _ A (fun t ht => ?_) (fun t ht => ?_) _ _ _ (by omega) (by omega) hAl
      · rw [hSx]; simp only [show t < l.length by omega, if_true]
        exact hA.yes t ht
      · rw [hSx]
        by_cases h2 : t < l.length
        · simp only [h2, if_true]; exact hA.no t ht h2
        · simp only [h2, if_false]; exact lin_B.irr x
    rw [hgo] at h
    have hbool : decide (A < l.length ∧ Sx A = x) = among l l.length x := by
      rw [Bool.eq_iff_iff, decide_eq_true_eq, among_iff]
      constructor
      · rintro ⟨h1, h2⟩
        rw [hSx] at h2; simp only [h1, if_true] at h2
        exact ⟨A, h1, h2⟩
      · rintro ⟨t, h1, h2⟩
        obtain rfl := hA.there hp h1 h2
        refine ⟨h1, ?_⟩
        rw [hSx]; simp only [h1, if_true]; exact h2
    rw [hbool] at h
    refine h.mono ?_
    rintro e w' ⟨rfl, k, rfl⟩
    exact ⟨rfl, belowD (Below.refl _ _) k⟩
theorem dictSeek_is (D : Nat) (l : List ByteArray) (x : ByteArray) (A : Nat) (w : World) (h : Dc w D l) (hA : Cut l x A) (hp : Proper l) (hn : l.length ≤ 1000000) :
    Calls Try.prog 14 #[.pointer (some ⟨D, 0, none⟩), .string x] w fun e w' => e = .returned (.tuple #[.int .i64 (A : Nat), .bool (among l l.length x)]) ∧ Below w.heap.size w w' := by
  obtain ⟨p, c, h1, h2, h3⟩ := h
  have c0 := (cell_of_row w D 0 _ _ _ h1).trans rfl
  have BS := Lib.hid (binW_is p c l x A w h2 hA hp hn)
  clear h1 h2 h3 hA
  generalize among l l.length x = am at BS ⊢
  go_enter Try.func14, Try.ntmps14
  go_wp2_with fail
  refine BS.out.mono ?_
  rintro e w2 ⟨rfl, hb⟩
  have B2 := Lib.hid hb
  clear hb BS
  go_wp2
  go_ret2
  exact ⟨rfl, B2.out⟩
/-- what Range's closure looks at -/
structure RSt (w : World) (Bd Bf Bp D : Nat) (l : List ByteArray) (A : Nat) (x : ByteArray) : Prop where
  d : w.cell? ⟨Bd, 0, none⟩ = some (.pointer (some ⟨D, 0, none⟩))
  f : w.cell? ⟨Bf, 0, none⟩ = some (.int .i64 (A : Nat))
  p : w.cell? ⟨Bp, 0, none⟩ = some (.string x)
  dict : Dc w D l
theorem RSt.below {w w' : World} {Bd Bf Bp D : Nat} {l : List ByteArray} {A : Nat} {x : ByteArray} (h : RSt w Bd Bf Bp D l A x) (hb : Below w.heap.size w w') : RSt w' Bd Bf Bp D l A x :=
  ⟨(hb.cell (p := ⟨Bd, 0, none⟩) (World.block_lt_of_cell? w _ h.d)).trans h.d, (hb.cell (p := ⟨Bf, 0, none⟩) (World.block_lt_of_cell? w _ h.f)).trans h.f, (hb.cell (p := ⟨Bp, 0, none⟩) (World.block_lt_of_cell? w _ h.p)).trans h.p, h.dict.below hb⟩
set_option maxHeartbeats 4000000 in
theorem rangeF_is (Bd Bf Bp D : Nat) (l : List ByteArray) (A t : Nat) (x : ByteArray) (w : World) (h : RSt w Bd Bf Bp D l A x) (ht : A + t < l.length) (hl : l.length ≤ 1000000) :
    Calls Try.prog 28 #[.int .i64 (t : Nat), .pointer (some ⟨Bd, 0, none⟩), .pointer (some ⟨Bf, 0, none⟩), .pointer (some ⟨Bp, 0, none⟩)] w fun e w' => e = .returned (.bool (!starts (l.getD (A + t) noW) x)) ∧ Below w.heap.size w w' := by
  obtain ⟨h1, h2, h3, p, c, h4, h5, _⟩ := h
  have c0 := (cell_of_row w D 0 _ _ _ h4).trans rfl
  obtain ⟨b, o, rfl, _, hc⟩ := h5.at (by omega)
  have hct := hc (A + t) ht
  obtain ⟨s, hs⟩ : ∃ s, A + t = s := ⟨_, rfl⟩
  have wr : IntKind.i64.wrap ((A : Int) + (t : Int)) = ((s : Nat) : Int) := by rw [IntWalk.i64_in _ ⟨by omega, by omega⟩]; omega
  have ht' : (s : Int) < l.length := by omega
  rw [hs] at hct ⊢
  clear h4 h5 hc hs
  have HP := Lib.hid (fun w => (hasP_is (l.getD s noW) x w).mono fun e w' h => (And.intro h.1 h.2.symm : e = _ ∧ w' = w))
  generalize l.getD s noW = y at hct HP ⊢
  generalize starts y x = st at HP ⊢
  go_enter Try.func28, Try.ntmps28
  go_wp2
  go_quiet ((go_at_call 29; exact Calls.quiet_of_same (HP.out _)))
  go_wp2
  go_ret
  exact ⟨rfl, belowD (Below.refl _ _) _⟩
set_option maxHeartbeats 4000000 in
theorem searchR_is (n M Bd Bf Bp D : Nat) (l : List ByteArray) (A : Nat) (x : ByteArray) (w : World) (h : RSt w Bd Bf Bp D l A x) (hn : A + n = l.length) (hM : Starts l x A M) (hl : l.length ≤ 1000000) :
    Calls Try.prog 27 #[.int .i64 (n : Nat), .func (.func 28) #[] #[.pointer (some ⟨Bd, 0, none⟩), .pointer (some ⟨Bf, 0, none⟩), .pointer (some ⟨Bp, 0, none⟩)]] w fun e w' => e = .returned (.int .i64 (M : Nat)) ∧ Below w.heap.size w w' := by
  have H := Lib.hid h; have HM := Lib.hid hM
  have hMn : M ≤ n := by have := hM.le; omega
  clear h hM
  go_enter Try.func27, Try.ntmps27
  go_wp2
  go_loopw [5, 6] (fun i j wr => ∃ (a b : Nat), a ≤ M ∧ M ≤ b ∧ b ≤ n ∧ i = .int .i64 a ∧ j = .int .i64 b ∧ Below w.heap.size w wr) (fun i j _ => (intOf j).toNat - (intOf i).toNat)
  case atStart => exact ⟨0, n, Nat.zero_le _, hMn, Nat.le_refl _, rfl, rfl, Below.refl _ _⟩
  case round =>
    obtain ⟨a, b, ha, hb, hbn, rfl, rfl, hbl⟩ := hrel
    have BB := Lib.hid hbl
    have HR := Lib.hid (H.out.below hbl)
    clear hbl
    by_cases hab : a < b
    · have hab' : (a : Int) < b := by omega
      obtain ⟨m, hm⟩ : ∃ m, (a + b) / 2 = m := ⟨_, rfl⟩
      have hm1 : a ≤ m := by omega
      have hm2 : m < b := by omega
      have F := Lib.hid (rangeF_is Bd Bf Bp D l A m x wr HR.out (by omega) hl)
      have FM : Hid (m < M → starts (l.getD (A + m) noW) x = true) := HM.out.yes m
      have FN : Hid (M ≤ m → starts (l.getD (A + m) noW) x = false) := fun h => HM.out.no m h (by omega)
      generalize starts (l.getD (A + m) noW) x = s at F FM FN
      have hmi : ((a : Int) + (b : Int)) / 2 = (m : Int) := by omega
      clear hm
      cases s with
      | true =>
        have hM1 : m < M := by
          rcases Nat.lt_or_ge m M with h | h
          · exact h
          · have := FN.out h; cases this
        clear FM FN
        go_wp2_with fail
        refine F.out.mono ?_
        rintro e w2 ⟨rfl, hb2⟩
        have B2 := Lib.hid (thenBelow BB.out hb2)
        clear hb2 F BB HR
        go_wp2
        go_roundw
        case rel => exact ⟨m + 1, b, by omega, by omega, by omega, by go_num, rfl, B2.out⟩
        case measure => simp [intOf]; omega
      | false =>
        have hM1 : M ≤ m := by
          rcases Nat.lt_or_ge m M with h | h
          · have := FM.out h; cases this
          · exact h
        clear FM FN
        go_wp2_with fail
        refine F.out.mono ?_
        rintro e w2 ⟨rfl, hb2⟩
        have B2 := Lib.hid (thenBelow BB.out hb2)
        clear hb2 F BB HR
        go_wp2
        go_roundw
        case rel => exact ⟨a, m, by omega, by omega, by omega, rfl, rfl, B2.out⟩
        case measure => simp [intOf]; omega
    · have hab' : ¬ (a : Int) < b := by omega
      obtain rfl : a = M := by omega
      go_wp2
      go_ret
      exact ⟨rfl, BB.out⟩
end Go.Proofs.Yteaghcgekaoimaa
