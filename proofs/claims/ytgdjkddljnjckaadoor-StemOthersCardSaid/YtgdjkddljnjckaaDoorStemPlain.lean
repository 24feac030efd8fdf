/- Stems as lists of bytes: what the program says (a table of ends), what the document's own answer says, that they are one, and what follows. No number of a program stands here. -/
import Derived.Lib.Strings
namespace Go.Proofs.YtgdjkddljnjckaaDoor
open Go

namespace Stm
structure Row where
  step : Int
  fin : List UInt8
  ahead : Nat
  put : List UInt8

def rows : List Row := [⟨1, [115, 115, 101, 115], 0, [115, 115]⟩, ⟨1, [105, 101, 115], 2, [121]⟩, ⟨1, [115, 115], 0, [115, 115]⟩, ⟨1, [117, 115], 0, [117, 115]⟩, ⟨1, [105, 115], 0, [105, 115]⟩, ⟨1, [115], 0, []⟩,
  ⟨2, [105, 110, 103], 3, []⟩, ⟨2, [101, 100], 3, []⟩,
  ⟨3, [105, 122, 97, 116, 105, 111, 110], 3, [105, 122, 101]⟩, ⟨3, [97, 116, 105, 111, 110], 3, [97, 116, 101]⟩, ⟨3, [102, 117, 108, 108, 121], 3, [102, 117, 108]⟩, ⟨3, [110, 101, 115, 115], 3, []⟩, ⟨3, [109, 101, 110, 116], 3, []⟩, ⟨3, [97, 108, 108, 121], 3, [97, 108]⟩, ⟨3, [108, 121], 3, []⟩]

def hit (r : Row) (w : List UInt8) : Bool := r.fin.isSuffixOf w && decide (r.ahead ≤ w.length - r.fin.length)
def did (r : Row) (w : List UInt8) : List UInt8 := w.take (w.length - r.fin.length) ++ r.put
/-- what a step makes of a word, by the rows that are left -/
def chg (st : Int) : List Row → List UInt8 → List UInt8
  | [], w => w
  | r :: rs, w => if r.step = st ∧ hit r w = true then did r w else chg st rs w

def vowels : List UInt8 := [97, 101, 105, 111, 117, 121]
def stay : List UInt8 := [97, 101, 105, 111, 117, 121, 108, 115, 122]
def some (w : List UInt8) : Bool := w.any fun c => vowels.contains c
def last (w : List UInt8) : UInt8 := w.getD (w.length - 1) 0
def dbl (w : List UInt8) : Bool := [last w, last w].isSuffixOf w && !stay.contains (last w)
def cut (w : List UInt8) : List UInt8 := if dbl w then w.take (w.length - 1) else w
def bare (w : List UInt8) : List UInt8 := if chg 2 rows w = w ∨ some (chg 2 rows w) = false then w else cut (chg 2 rows w)
def letter (c : UInt8) : Bool := decide (97 ≤ c.toNat) && decide (c.toNat ≤ 122)
def plain (w : List UInt8) : Bool := w.all letter && decide (4 ≤ w.length)
def step (st : Int) (w : List UInt8) : List UInt8 := if st = 2 then bare w else chg st rows w
def stem (w : List UInt8) : List UInt8 := if plain w then (if plain (step 1 w) then (if plain (step 2 (step 1 w)) then step 3 (step 2 (step 1 w)) else step 2 (step 1 w)) else step 1 w) else w

/-! what the document's own answer says -/
def ends (w e : List UInt8) : Bool := e.isSuffixOf w
def less (w : List UInt8) (n : Nat) : List UInt8 := w.take (w.length - n)
def first (w : List UInt8) : List UInt8 :=
  if ends w [115, 115, 101, 115] then less w 2 else
  if ends w [105, 101, 115] && decide (4 < w.length) then less w 3 ++ [121] else
  if ends w [115, 115] || ends w [117, 115] || ends w [105, 115] || !ends w [115] then w else less w 1
def okay (w : List UInt8) (n : Nat) : Bool := some (less w n) && decide (2 < (less w n).length)
def twin (r : List UInt8) : List UInt8 := if r.getD (r.length - 1) 0 = r.getD (r.length - 2) 0 ∧ stay.contains (last r) = false then less r 1 else r
def second (w : List UInt8) : List UInt8 :=
  if ends w [105, 110, 103] && okay w 3 then twin (less w 3) else if ends w [101, 100] && okay w 2 then twin (less w 2) else w
def pairs : List (List UInt8 × List UInt8) := [([105, 122, 97, 116, 105, 111, 110], [105, 122, 101]), ([97, 116, 105, 111, 110], [97, 116, 101]), ([102, 117, 108, 108, 121], [102, 117, 108]), ([110, 101, 115, 115], []), ([109, 101, 110, 116], []), ([97, 108, 108, 121], [97, 108]), ([108, 121], [])]
def thirdOf : List (List UInt8 × List UInt8) → List UInt8 → List UInt8
  | [], w => w
  | (e, q) :: r, w => if ends w e = true ∧ e.length + 3 ≤ w.length then less w e.length ++ q else thirdOf r w
def third (w : List UInt8) : List UInt8 := thirdOf pairs w
def refStem (w : List UInt8) : List UInt8 := if plain w then (if plain (first w) then (if plain (second (first w)) then third (second (first w)) else second (first w)) else first w) else w

theorem ends_iff (w e : List UInt8) : ends w e = true ↔ ∃ u, w = u ++ e := by
  unfold ends
  rw [List.isSuffixOf_iff_suffix]
  exact ⟨fun ⟨u, h⟩ => ⟨u, h.symm⟩, fun ⟨u, h⟩ => ⟨u, h.symm⟩⟩
theorem less_app (u e : List UInt8) (n : Nat) (h : n = e.length) : less (u ++ e) n = u := by
  subst h; unfold less; rw [List.length_append, Nat.add_sub_cancel, List.take_left']; rfl
theorem hit_iff (r : Row) (w : List UInt8) : hit r w = true ↔ ∃ u, w = u ++ r.fin ∧ r.ahead ≤ u.length := by
  unfold hit
  rw [Bool.and_eq_true, decide_eq_true_eq, show r.fin.isSuffixOf w = ends w r.fin from rfl, ends_iff]
  constructor
  · rintro ⟨⟨u, rfl⟩, h⟩; exact ⟨u, rfl, by simpa using h⟩
  · rintro ⟨u, rfl, h⟩; exact ⟨⟨u, rfl⟩, by simpa using h⟩
theorem did_app (r : Row) (u : List UInt8) : did r (u ++ r.fin) = u ++ r.put := by
  unfold did; rw [List.length_append, Nat.add_sub_cancel, List.take_left']; rfl

theorem first_eq (w : List UInt8) : chg 1 rows w = first w := by
  have e1 : hit ⟨1, [115, 115, 101, 115], 0, [115, 115]⟩ w = ends w [115, 115, 101, 115] := by simp [hit, ends]
  have e2 : hit ⟨1, [105, 101, 115], 2, [121]⟩ w = (ends w [105, 101, 115] && decide (4 < w.length)) := by
    simp only [hit, ends, List.length_cons, List.length_nil]; congr 1; apply decide_eq_decide.2; omega
  have e3 : hit ⟨1, [115, 115], 0, [115, 115]⟩ w = ends w [115, 115] := by simp [hit, ends]
  have e4 : hit ⟨1, [117, 115], 0, [117, 115]⟩ w = ends w [117, 115] := by simp [hit, ends]
  have e5 : hit ⟨1, [105, 115], 0, [105, 115]⟩ w = ends w [105, 115] := by simp [hit, ends]
  have e6 : hit ⟨1, [115], 0, []⟩ w = ends w [115] := by simp [hit, ends]
  simp only [rows, chg, first, e1, e2, e3, e4, e5, e6, true_and, show ((2 : Int) = 1) = False from by simp, show ((3 : Int) = 1) = False from by simp, false_and, if_false]
  by_cases h1 : ends w [115, 115, 101, 115] = true
  · rw [if_pos h1, if_pos h1]
    obtain ⟨u, rfl⟩ := (ends_iff _ _).1 h1
    rw [did_app ⟨1, [115, 115, 101, 115], 0, [115, 115]⟩ u]
    show u ++ [115, 115] = less (u ++ ([115, 115] ++ [101, 115])) 2
    rw [← List.append_assoc, less_app _ [101, 115] 2 rfl]
  rw [if_neg h1, if_neg h1]
  by_cases h2 : (ends w [105, 101, 115] && decide (4 < w.length)) = true
  · rw [if_pos h2, if_pos h2]; rfl
  rw [if_neg h2, if_neg h2]
  by_cases h3 : ends w [115, 115] = true
  · rw [if_pos h3, if_pos (by simp [h3])]
    obtain ⟨u, rfl⟩ := (ends_iff _ _).1 h3
    exact did_app ⟨1, [115, 115], 0, [115, 115]⟩ u
  rw [if_neg h3]
  by_cases h4 : ends w [117, 115] = true
  · rw [if_pos h4, if_pos (by simp [h4])]
    obtain ⟨u, rfl⟩ := (ends_iff _ _).1 h4
    exact did_app ⟨1, [117, 115], 0, [117, 115]⟩ u
  rw [if_neg h4]
  by_cases h5 : ends w [105, 115] = true
  · rw [if_pos h5, if_pos (by simp [h5])]
    obtain ⟨u, rfl⟩ := (ends_iff _ _).1 h5
    exact did_app ⟨1, [105, 115], 0, [105, 115]⟩ u
  rw [if_neg h5]
  by_cases h6 : ends w [115] = true
  · rw [if_pos h6, if_neg (by simp [h3, h4, h5, h6])]
    simp [did, less]
  · rw [if_neg h6, if_pos (by simp [h6])]

theorem last_get (w : List UInt8) : last w = w.getD (w.length - 1) 0 := rfl
theorem twin_eq (r : List UInt8) (h : 2 < r.length) : cut r = twin r := by
  have hd : [last r, last r].isSuffixOf r = decide (r.getD (r.length - 1) 0 = r.getD (r.length - 2) 0) := by
    rw [Bool.eq_iff_iff, decide_eq_true_eq, show [last r, last r].isSuffixOf r = ends r [last r, last r] from rfl, ends_iff]
    have hsplit : r = r.take (r.length - 2) ++ [r.getD (r.length - 2) 0, r.getD (r.length - 1) 0] := by
      apply List.ext_getElem?
      intro i
      by_cases hi : i < r.length - 2
      · rw [List.getElem?_append_left (by rw [List.length_take]; omega), List.getElem?_take_of_lt hi]
      · rw [List.getElem?_append_right (by rw [List.length_take]; omega), List.length_take, show min (r.length - 2) r.length = r.length - 2 from by omega]
        rcases (show i = r.length - 2 ∨ i = r.length - 1 ∨ r.length ≤ i by omega) with e | e | e
        · subst e; rw [Nat.sub_self]; simp [List.getD, List.getElem?_eq_getElem (show r.length - 2 < r.length by omega)]
        · subst e; rw [show r.length - 1 - (r.length - 2) = 1 from by omega]; simp [List.getD, List.getElem?_eq_getElem (show r.length - 1 < r.length by omega)]
        · rw [List.getElem?_eq_none e, List.getElem?_eq_none (by simp; omega)]
    constructor
    · rintro ⟨u, hu⟩
      have hul : u.length = r.length - 2 := by have := congrArg List.length hu; simp at this; omega
      have g2 : r.getD (r.length - 2) 0 = last r := by
        rw [← hul]; conv => lhs; rw [hu]
        simp [List.getD]
      rw [g2, last_get]
    · intro he
      refine ⟨r.take (r.length - 2), ?_⟩
      conv => lhs; rw [hsplit]
      rw [last_get, he]
  unfold cut twin dbl
  rw [hd]
  cases hs : stay.contains (last r) with
  | true => rw [if_neg (by rw [Bool.not_true, Bool.and_false]; exact Bool.false_ne_true), if_neg (fun h => Bool.noConfusion h.2)]
  | false =>
    by_cases h1 : r.getD (r.length - 1) 0 = r.getD (r.length - 2) 0
    · rw [if_pos (by rw [decide_eq_true h1]; rfl), if_pos ⟨h1, rfl⟩]; rfl
    · rw [if_neg (by rw [decide_eq_false h1]; exact Bool.false_ne_true), if_neg (fun h => h1 h.1)]

theorem chg2 (w : List UInt8) : chg 2 rows w = if ends w [105, 110, 103] = true ∧ 6 ≤ w.length then less w 3 else if ends w [101, 100] = true ∧ 5 ≤ w.length then less w 2 else w := by
  have e1 : hit ⟨2, [105, 110, 103], 3, []⟩ w = (ends w [105, 110, 103] && decide (6 ≤ w.length)) := by
    simp only [hit, ends, List.length_cons, List.length_nil]; congr 1; apply decide_eq_decide.2; omega
  have e2 : hit ⟨2, [101, 100], 3, []⟩ w = (ends w [101, 100] && decide (5 ≤ w.length)) := by
    simp only [hit, ends, List.length_cons, List.length_nil]; congr 1; apply decide_eq_decide.2; omega
  simp only [rows, chg, e1, e2, true_and, show ((1 : Int) = 2) = False from by simp, show ((3 : Int) = 2) = False from by simp, false_and, if_false, Bool.and_eq_true, decide_eq_true_eq]
  simp only [did, List.length_cons, List.length_nil, List.append_nil, less]
theorem not_both (w : List UInt8) (h1 : ends w [105, 110, 103] = true) (h2 : ends w [101, 100] = true) : False := by
  obtain ⟨u, rfl⟩ := (ends_iff _ _).1 h1
  obtain ⟨v, hv⟩ := (ends_iff _ _).1 h2
  have := congrArg (fun l => l.reverse.head?) hv
  simp at this
theorem len_of_ends (w e : List UInt8) (h : ends w e = true) : e.length ≤ w.length := by
  obtain ⟨u, rfl⟩ := (ends_iff _ _).1 h; simp
theorem less_ne (w : List UInt8) (n : Nat) (h : 0 < n) (hn : n ≤ w.length) : less w n ≠ w := by
  intro e
  have := congrArg List.length e
  simp [less] at this; omega
theorem less_len (w : List UInt8) (n : Nat) : (less w n).length = w.length - n := by simp [less]
theorem bare_own (w : List UInt8) (h : chg 2 rows w = w) : bare w = w := by unfold bare; rw [if_pos (.inl h)]
theorem bare_less (w : List UInt8) (n : Nat) (h : chg 2 rows w = less w n) (h0 : 0 < n) (hn : n + 3 ≤ w.length) : bare w = if some (less w n) = true then twin (less w n) else w := by
  unfold bare
  rw [h]
  cases hs : some (less w n) with
  | true => rw [if_neg (fun e => e.elim (less_ne w n h0 (by omega)) (fun e => Bool.noConfusion e)), if_pos rfl, twin_eq _ (by rw [less_len]; omega)]
  | false => rw [if_pos (.inr rfl), if_neg Bool.false_ne_true]
theorem second_eq (w : List UInt8) : bare w = second w := by
  have hc := chg2 w
  unfold second okay
  rw [less_len, less_len]
  cases h1 : ends w [105, 110, 103] with
  | true =>
    have h2 : ends w [101, 100] = false := by
      cases h : ends w [101, 100] with
      | false => rfl
      | true => exact (not_both w h1 h).elim
    rw [h1, h2] at hc
    rw [h2]
    by_cases h3 : 6 ≤ w.length
    · rw [if_pos ⟨rfl, h3⟩] at hc
      rw [bare_less w 3 hc (by omega) (by omega), decide_eq_true (show 2 < w.length - 3 by omega), Bool.and_true, Bool.true_and, Bool.false_and, if_neg (c := false = true) Bool.false_ne_true]
    · rw [if_neg (fun h => h3 h.2), if_neg (fun h => Bool.noConfusion h.1)] at hc
      rw [bare_own w hc, decide_eq_false (show ¬ 2 < w.length - 3 by omega), Bool.and_false, Bool.and_false, Bool.false_and, if_neg Bool.false_ne_true, if_neg Bool.false_ne_true]
  | false =>
    rw [h1, if_neg (fun h => Bool.noConfusion h.1)] at hc
    rw [Bool.false_and, if_neg (c := false = true) Bool.false_ne_true]
    cases h2 : ends w [101, 100] with
    | true =>
      rw [h2] at hc
      by_cases h3 : 5 ≤ w.length
      · rw [if_pos ⟨rfl, h3⟩] at hc
        rw [bare_less w 2 hc (by omega) (by omega), decide_eq_true (show 2 < w.length - 2 by omega), Bool.and_true, Bool.true_and]
      · rw [if_neg (fun h => h3 h.2)] at hc
        rw [bare_own w hc, decide_eq_false (show ¬ 2 < w.length - 2 by omega), Bool.and_false, Bool.and_false, if_neg Bool.false_ne_true]
    | false =>
      rw [h2, if_neg (fun h => Bool.noConfusion h.1)] at hc
      rw [bare_own w hc, Bool.false_and, if_neg Bool.false_ne_true]
theorem third_eq (w : List UInt8) : chg 3 rows w = third w := by
  have e (f q : List UInt8) : hit ⟨3, f, 3, q⟩ w = true ↔ (ends w f = true ∧ f.length + 3 ≤ w.length) := by
    simp only [hit, Bool.and_eq_true, decide_eq_true_eq]
    constructor
    · rintro ⟨h1, h2⟩; exact ⟨h1, by have := len_of_ends w f h1; omega⟩
    · rintro ⟨h1, h2⟩; exact ⟨h1, by omega⟩
  simp only [rows, chg, third, thirdOf, pairs, true_and, show ((1 : Int) = 3) = False from by simp, show ((2 : Int) = 3) = False from by simp, false_and, if_false, e]
  rfl
theorem stem_eq (w : List UInt8) : stem w = refStem w := by
  unfold stem refStem step
  simp only [if_neg (show ¬ (1 : Int) = 2 by decide), if_neg (show ¬ (3 : Int) = 2 by decide), if_true, first_eq, second_eq, third_eq]

/-! what follows -/
def Keeps (w s : List UInt8) : Prop := s.length ≤ w.length ∧ s.head? = w.head?
theorem Keeps.refl (w : List UInt8) : Keeps w w := ⟨Nat.le_refl _, rfl⟩
theorem Keeps.trans {a b c : List UInt8} (h : Keeps a b) (k : Keeps b c) : Keeps a c := ⟨Nat.le_trans k.1 h.1, k.2.trans h.2⟩
theorem chg_keeps (st : Int) (w : List UInt8) (hw : 4 ≤ w.length) : ∀ rs : List Row, (∀ r ∈ rs, r.put.length ≤ r.fin.length ∧ (r.ahead = 0 → 4 ≤ r.fin.length → r.put.head? = r.fin.head?)) → Keeps w (chg st rs w)
  | [], _ => Keeps.refl w
  | r :: rs, h => by
    unfold chg
    split
    · rename_i hh
      obtain ⟨u, rfl, hu⟩ := (hit_iff r w).1 hh.2
      obtain ⟨h1, h2⟩ := h r (by simp)
      rw [did_app]
      refine ⟨by simp; omega, ?_⟩
      cases u with
      | nil => simpa using h2 (by simpa using hu) (by simpa using hw)
      | cons c t => rfl
    · exact chg_keeps st w hw rs fun r' hr => h r' (by simp [hr])
theorem rows_ok : ∀ r ∈ rows, r.put.length ≤ r.fin.length ∧ (r.ahead = 0 → 4 ≤ r.fin.length → r.put.head? = r.fin.head?) := by decide
theorem plain_len (w : List UInt8) (h : plain w = true) : 4 ≤ w.length := by
  unfold plain at h; simp only [Bool.and_eq_true, decide_eq_true_eq] at h; exact h.2
theorem cut_keeps (w : List UInt8) (h : 2 ≤ w.length) : Keeps w (cut w) := by
  unfold cut
  split
  · refine ⟨by simp, ?_⟩
    match w, h with
    | a :: b :: t, _ => simp
  · exact Keeps.refl w
theorem chg2_len (w : List UInt8) (hw : 4 ≤ w.length) : 3 ≤ (chg 2 rows w).length := by
  rw [chg2]
  split
  · rename_i h; rw [less_len]; omega
  · split
    · rename_i h; rw [less_len]; omega
    · omega
theorem step_keeps (st : Int) (w : List UInt8) (hw : plain w = true) : Keeps w (step st w) := by
  have hl := plain_len w hw
  unfold step
  split
  · unfold bare
    split
    · exact Keeps.refl w
    · exact (chg_keeps 2 w hl rows rows_ok).trans (cut_keeps _ (by have := chg2_len w hl; omega))
  · exact chg_keeps st w hl rows rows_ok
theorem stem_keeps (w : List UInt8) : Keeps w (stem w) := by
  unfold stem
  split
  · rename_i h1
    split
    · rename_i h2
      split
      · rename_i h3
        exact ((step_keeps 1 w h1).trans (step_keeps 2 _ h2)).trans (step_keeps 3 _ h3)
      · exact (step_keeps 1 w h1).trans (step_keeps 2 _ h2)
    · exact step_keeps 1 w h1
  · exact Keeps.refl w
theorem stem_own (w : List UInt8) (h : plain w = false) : stem w = w := by
  unfold stem; rw [if_neg (by simp [h])]
theorem short_own (w : List UInt8) (h : w.length < 4) : stem w = w := stem_own w (by simp [plain]; intro _; omega)
theorem other_own (w : List UInt8) (c : UInt8) (h : c ∈ w) (hc : letter c = false) : stem w = w := stem_own w (by
  unfold plain
  rw [show w.all letter = false from by rw [← Bool.not_eq_true, List.all_eq_true]; intro hh; rw [hh c h] at hc; cases hc]
  rfl)

def stops : List (List UInt8) := [[97], [97, 110], [97, 110, 100], [97, 115], [97, 116], [98, 101], [98, 121], [102, 111, 114], [105, 110], [105, 115], [105, 116], [111, 102], [111, 110], [111, 114], [116, 104, 101], [116, 111]]
def stop (w : List UInt8) : Bool := stops.contains w
theorem ex1 : stem [114, 117, 110, 110, 105, 110, 103] = [114, 117, 110] := by decide +kernel
theorem ex2 : stem [102, 111, 120, 101, 115] = [102, 111, 120, 101] := by decide +kernel
theorem ex3 : stem [112, 111, 110, 105, 101, 115] = [112, 111, 110, 121] := by decide +kernel
theorem ex4 : stem [107, 105, 110, 100, 110, 101, 115, 115] = [107, 105, 110, 100] := by decide +kernel
end Stm
end Go.Proofs.YtgdjkddljnjckaaDoor
