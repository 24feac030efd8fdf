/- The contracts of fold's Lower, Letter, Digit, Word, and of the document's own. -/
import Derived.Test.YtldfomggeleolaaDoorStd
import Derived.Test.YtldfomggeleolaaDoorMemRows
import Derived.Test.YtldfomggeleolaaDoorFoldPlain
import Derived.Outline
namespace Go.Proofs.YtldfomggeleolaaDoor
open Go Go.RowKit

/-- a table of rows that a variable leads to -/
def RowsAt (w : World) (g m : Nat) (rows : List (List Int)) : Prop :=
  ∃ b o c, w.cell? ⟨g, 0, none⟩ = some (.slice (some ⟨b, o, none⟩) rows.length c) ∧ rows.length ≤ c ∧ ∀ i, i < rows.length → ∀ j, j < m → w.cell? ⟨b, o + (i * m + j), none⟩ = some (.int .i64 ((rows.getD i []).getD j 0))
theorem RowsAt.below {w w' : World} {g m : Nat} {rows : List (List Int)} (h : RowsAt w g m rows) (hb : Below w.heap.size w w') : RowsAt w' g m rows := by
  obtain ⟨b, o, c, h1, h2, h3⟩ := h
  exact ⟨b, o, c, by rw [hb.cell (p := ⟨g, 0, none⟩) (World.block_lt_of_cell? w _ h1)]; exact h1, h2, fun i hi j hj => by
    have := h3 i hi j hj
    rw [hb.cell (p := ⟨b, o + (i * m + j), none⟩) (World.block_lt_of_cell? w _ this)]; exact this⟩
def Great (w : World) : Prop := RowsAt w 1 4 Fol.great
def Letters (w : World) : Prop := RowsAt w 2 2 Fol.letters

theorem int_range {n : Int} (h : (Lit.int .i64 n).wf = true) : -9223372036854775808 ≤ n ∧ n ≤ 9223372036854775807 := by
  simp [Lit.wf, IntKind.min, IntKind.max, IntKind.bits, IntKind.signed] at h; omega
theorem ret_int {k : IntKind} {a b : Int} (h : a = b) : Ending.returned (.int k a) = .returned (.int k b) := by rw [h]

def RetI (w : World) (n : Int) (e : Ending) (w' : World) : Prop := e = .returned (.int .i64 n) ∧ Below w.heap.size w w'
def RetB (w : World) (b : Bool) (e : Ending) (w' : World) : Prop := e = .returned (.bool b) ∧ Below w.heap.size w w'

theorem great_row : ∀ i, i < 13 → 0 ≤ (Fol.great.getD i []).getD 0 0 ∧ (Fol.great.getD i []).getD 1 0 ≤ 1152 ∧ 1 ≤ (Fol.great.getD i []).getD 2 0 ∧ (Fol.great.getD i []).getD 2 0 ≤ 2 ∧ 1 ≤ (Fol.great.getD i []).getD 3 0 ∧ (Fol.great.getD i []).getD 3 0 ≤ 80 := by decide
theorem low_step (rows : List (List Int)) (i : Nat) (hi : i < rows.length) (r : Int) : Fol.low (rows.drop i) r =
    if (rows.getD i []).getD 0 0 ≤ r ∧ r ≤ (rows.getD i []).getD 1 0 ∧ (r - (rows.getD i []).getD 0 0) % (rows.getD i []).getD 2 0 = 0 then r + (rows.getD i []).getD 3 0 else Fol.low (rows.drop (i + 1)) r := by
  rw [List.drop_eq_getElem_cons hi]
  have : rows.getD i [] = rows[i] := by simp [List.getD, List.getElem?_eq_getElem hi]
  rw [this]; rfl

set_option maxHeartbeats 4000000 in
theorem lower_any (r : Int) (w : World) (hr : (Lit.int .i64 r).wf = true) (hT : Great w) :
    Calls Tryd.prog 29 #[.int .i64 r] w (RetI w (Fol.lower r)) := by
  obtain ⟨r1, r2⟩ := int_range hr
  clear hr
  have hlow := Fol.low_great r
  have HLow := Lib.hid hlow; clear hlow
  obtain ⟨b, o, c, hg, hc, hcells⟩ := hT
  have HC := Lib.hid hcells
  have hlen : Fol.great.length = 13 := rfl
  rw [hlen] at hg hc
  clear hcells hlen
  go_enter Tryd.func29, Tryd.ntmps29
  go_wp2
  go_loopw [7] (fun i wr => ∃ k : Nat, k ≤ 13 ∧ i = .int .i64 k ∧ Below w.heap.size w wr ∧ Fol.low Fol.great r = Fol.low (Fol.great.drop k) r) (fun i _ => 13 - (intOf i).toNat)
  case atStart => exact ⟨0, Nat.zero_le _, rfl, Below.refl _ _, rfl⟩
  case round =>
    obtain ⟨k, hk, rfl, hb, hrest⟩ := hrel
    have HR := Lib.hid hrest; clear hrest
    have hsz := hb.size
    by_cases hk13 : k < 13
    · have hrow := great_row k hk13
      have hst := low_step Fol.great k hk13 r
      have hcell : ∀ j, j < 4 → wr.cell? ⟨b, o + (k * 4 + j), none⟩ = some (.int .i64 ((Fol.great.getD k []).getD j 0)) := fun j hj => by
        have := HC.out k hk13 j hj
        rw [hb.cell (p := ⟨b, o + (k * 4 + j), none⟩) (World.block_lt_of_cell? w _ this)]; exact this
      simp only [← Nat.add_assoc] at hcell
      have q0 := hcell 0 (by omega); rw [Nat.add_zero] at q0; have q1 := hcell 1 (by omega); have q2 := hcell 2 (by omega); have q3 := hcell 3 (by omega)
      obtain ⟨f, hf⟩ : ∃ f, f = (Fol.great.getD k []).getD 0 0 := ⟨_, rfl⟩
      obtain ⟨t, ht⟩ : ∃ t, t = (Fol.great.getD k []).getD 1 0 := ⟨_, rfl⟩
      obtain ⟨s, hs⟩ : ∃ s, s = (Fol.great.getD k []).getD 2 0 := ⟨_, rfl⟩
      obtain ⟨u, hu⟩ : ∃ u, u = (Fol.great.getD k []).getD 3 0 := ⟨_, rfl⟩
      rw [← hf, ← ht, ← hs, ← hu] at hrow hst
      rw [← hf] at q0; rw [← ht] at q1; rw [← hs] at q2; rw [← hu] at q3
      obtain ⟨z1, z2, z3, z4, z5, z6⟩ := hrow
      have HST := Lib.hid hst
      clear hst hf ht hs hu hcell
      by_cases hyes : f ≤ r ∧ r ≤ t ∧ (r - f) % s = 0
      · have HY := Lib.hid hyes
        obtain ⟨y1, y2, y3⟩ := hyes
        have y4 : ((r - f) % s == 0) = true := by simp [y3]
        clear y3
        go_wp2
        go_ret
        exact ⟨ret_int (by rw [← HLow.out, HR.out, HST.out, if_pos HY.out]), (hb.alloc (by omega) _)⟩
      · have HY := Lib.hid hyes
        go_wp2
        all_goals
          go_roundw
          case rel => exact ⟨k + 1, by omega, by go_num, hb.alloc (by omega) _, by rw [HR.out, HST.out, if_neg HY.out]⟩
          case measure => simp [intOf]; omega
    · obtain rfl : k = 13 := by omega
      go_wp2
      go_ret
      exact ⟨ret_int (by rw [← HLow.out, HR.out]; rfl), hb⟩

theorem letter_row : ∀ i, i < 8 → 0 ≤ (Fol.letters.getD i []).getD 0 0 ∧ (Fol.letters.getD i []).getD 1 0 ≤ 1327 := by decide
theorem has_step (rows : List (List Int)) (i : Nat) (hi : i < rows.length) (r : Int) : Fol.has (rows.drop i) r =
    if (rows.getD i []).getD 0 0 ≤ r ∧ r ≤ (rows.getD i []).getD 1 0 then true else Fol.has (rows.drop (i + 1)) r := by
  rw [List.drop_eq_getElem_cons hi]
  have : rows.getD i [] = rows[i] := by simp [List.getD, List.getElem?_eq_getElem hi]
  rw [this]; rfl

set_option maxHeartbeats 4000000 in
theorem letter_any (r : Int) (w : World) (hr : (Lit.int .i64 r).wf = true) (hT : Letters w) :
    Calls Tryd.prog 50 #[.int .i64 r] w (RetB w (Fol.letter r)) := by
  obtain ⟨r1, r2⟩ := int_range hr
  clear hr
  have hlow := Fol.has_letters r
  have HLow := Lib.hid hlow; clear hlow
  obtain ⟨b, o, c, hg, hc, hcells⟩ := hT
  have HC := Lib.hid hcells
  have hlen : Fol.letters.length = 8 := rfl
  rw [hlen] at hg hc
  clear hcells hlen
  go_enter Tryd.func50, Tryd.ntmps50
  go_wp2
  go_loopw [7] (fun i wr => ∃ k : Nat, k ≤ 8 ∧ i = .int .i64 k ∧ Below w.heap.size w wr ∧ Fol.has Fol.letters r = Fol.has (Fol.letters.drop k) r) (fun i _ => 8 - (intOf i).toNat)
  case atStart => exact ⟨0, Nat.zero_le _, rfl, Below.refl _ _, rfl⟩
  case round =>
    obtain ⟨k, hk, rfl, hb, hrest⟩ := hrel
    have HR := Lib.hid hrest; clear hrest
    have hsz := hb.size
    by_cases hk13 : k < 8
    · have hrow := letter_row k hk13
      have hst := has_step Fol.letters k hk13 r
      have hcell : ∀ j, j < 2 → wr.cell? ⟨b, o + (k * 2 + j), none⟩ = some (.int .i64 ((Fol.letters.getD k []).getD j 0)) := fun j hj => by
        have := HC.out k hk13 j hj
        rw [hb.cell (p := ⟨b, o + (k * 2 + j), none⟩) (World.block_lt_of_cell? w _ this)]; exact this
      simp only [← Nat.add_assoc] at hcell
      have q0 := hcell 0 (by omega); rw [Nat.add_zero] at q0; have q1 := hcell 1 (by omega)
      obtain ⟨f, hf⟩ : ∃ f, f = (Fol.letters.getD k []).getD 0 0 := ⟨_, rfl⟩
      obtain ⟨t, ht⟩ : ∃ t, t = (Fol.letters.getD k []).getD 1 0 := ⟨_, rfl⟩
      rw [← hf, ← ht] at hrow hst
      rw [← hf] at q0; rw [← ht] at q1
      obtain ⟨z1, z2⟩ := hrow
      have HST := Lib.hid hst
      clear hst hf ht hcell
      by_cases hyes : f ≤ r ∧ r ≤ t
      · have HY := Lib.hid hyes
        obtain ⟨y1, y2⟩ := hyes
        go_wp2
        go_ret
        exact ⟨ret_bool (by rw [← HLow.out, HR.out, HST.out, if_pos HY.out]), (hb.alloc (by omega) _)⟩
      · have HY := Lib.hid hyes
        go_wp2
        all_goals
          go_roundw
          case rel => exact ⟨k + 1, by omega, by go_num, hb.alloc (by omega) _, by rw [HR.out, HST.out, if_neg HY.out]⟩
          case measure => simp [intOf]; omega
    · obtain rfl : k = 8 := by omega
      go_wp2
      go_ret
      exact ⟨ret_bool (by rw [← HLow.out, HR.out]; rfl), hb⟩

set_option maxHeartbeats 1000000 in
theorem digit_any (r : Int) (w : World) : Calls Tryd.prog 51 #[.int .i64 r] w fun e w' => e = .returned (.bool (Fol.digit r)) ∧ w = w' := by
  by_cases h1 : 48 ≤ r
  · by_cases h2 : r ≤ 57
    · have e : Fol.digit r = true := by unfold Fol.digit; simp; omega
      rw [e]; clear e
      go_enter Tryd.func51, Tryd.ntmps51
      go_wp2
      go_ret
      exact ⟨rfl, rfl⟩
    · have e : Fol.digit r = false := by unfold Fol.digit; simp; omega
      rw [e]; clear e
      go_enter Tryd.func51, Tryd.ntmps51
      go_wp2
      go_ret
      exact ⟨ret_bool (by first | (simp; done) | (simp; omega)), rfl⟩
  · have e : Fol.digit r = false := by unfold Fol.digit; simp; omega
    rw [e]; clear e
    go_enter Tryd.func51, Tryd.ntmps51
    go_wp2
    go_ret
    exact ⟨ret_bool (by first | (simp; done) | (simp; omega)), rfl⟩

def word (r : Int) : Bool := Fol.letter r || Fol.digit r
set_option maxHeartbeats 1000000 in
theorem word_any (r : Int) (w : World) (hr : (Lit.int .i64 r).wf = true) (hT : Letters w) : Calls Tryd.prog 47 #[.int .i64 r] w (RetB w (word r)) := by
  have hl := letter_any r w hr hT
  have hd := digit_any r
  unfold word
  cases h : Fol.letter r
  all_goals
    rw [h] at hl
    have HL := Lib.hid hl; have HD := Lib.hid hd
    clear h hl hd hT
    go_enter Tryd.func47, Tryd.ntmps47
    go_wp2_with fail
    refine HL.out.mono ?_
    rintro e w1 ⟨rfl, hb⟩
  · go_wp2_with fail
    refine (HD.out w1).mono ?_
    rintro e w' ⟨rfl, rfl⟩
    go_wp2_with fail
    go_ret
    exact ⟨rfl, hb⟩
  · go_wp2_with fail
    go_ret
    exact ⟨rfl, hb⟩
end Go.Proofs.YtldfomggeleolaaDoor
