/- slices.Insert of one int into ints of the call's own. -/
import Derived.Test.YtiadljcfcncbkaaSrtAt
import Derived.Test.YtiadljcfcncbkaaSrtLaysI
import Derived.Shelf.Spec.SlicesInsert
import Derived.Shelf.Spec.SlicesInsertGrow
import Derived.Lib.LazyBuf
import Derived.Deep.OwnRows
import Derived.Test.YtiadljcfcncbkaaTabPlain
namespace Go.Proofs.Ytiadljcfcncbkaa
open Go Go.RowKit
set_option linter.unusedVariables false

theorem some_getD (cs : Array Value) (i : Nat) (h : i < cs.size) : cs[i]? = some ((cs[i]?).getD default) := by simp [h]
theorem own_rowIs {w : World} {B n g cap : Nat} {e : TypeId} {xs : List Value} (h : w.ownsRow B e 1 (.slice (some ⟨g, 0, none⟩) n cap) n xs) : B ≤ g ∧ n ≤ cap ∧ cap ≤ maxLen ∧ xs.length = n ∧ g < w.heap.size ∧ ∃ f, w.rowIs g e cap f ∧ ∀ j, j < n → xs[j]? = some (f j) := by
  have hl : xs.length = n := by simpa using h.1
  rcases h.2 with ⟨e0, _⟩ | ⟨g', cap', cur, e0, hb, hg, hn, hm, hs, ht⟩
  · cases e0
  · injection e0 with e1 _ e3
    injection e1 with e1
    injection e1 with e1
    subst e1; subst e3
    have hs' : cur.size = cap := by simpa using hs
    refine ⟨hb, hn, hm, hl, (Array.getElem?_eq_some_iff.1 hg).1, fun j => (cur[j]?).getD default, ⟨cur, hg, hs', fun i hi => some_getD cur i (by omega)⟩, fun j hj => ?_⟩
    have h1 : j < cur.size := by omega
    rw [← ht, List.getElem?_take, if_pos (by omega), Array.getElem?_toList]
    simp [h1]
theorem rowIs_own {w : World} {B n g cap : Nat} {e : TypeId} {xs : List Value} {f : Nat → Value} (h : w.rowIs g e cap f) (hB : B ≤ g) (hn : n ≤ cap) (hm : cap ≤ maxLen) (hl : xs.length = n) (hx : ∀ j, j < n → xs[j]? = some (f j)) : w.ownsRow B e 1 (.slice (some ⟨g, 0, none⟩) n cap) n xs := by
  obtain ⟨c, h1, h2, h3⟩ := h
  refine ⟨by simpa using hl, .inr ⟨g, cap, c, rfl, hB, h1, hn, hm, by simpa using h2, ?_⟩⟩
  apply List.ext_getElem?
  intro j
  by_cases hj : j < n
  · rw [List.getElem?_take, if_pos (by omega), Array.getElem?_toList, h3 j (by omega), hx j hj]
  · rw [List.getElem?_eq_none (by rw [List.length_take]; omega), List.getElem?_eq_none (by omega)]
theorem rowIs_drew {w : World} {g n : Nat} {e : TypeId} {f : Nat → Value} (h : w.rowIs g e n f) : w.drew.rowIs g e n f := h
theorem grown_setCells (g : Nat) : ∀ (vs : List Value) (o : Nat) (w : World), w.grownBy (w.setCells g o vs) (some g)
  | [], _, w => ⟨rfl, rfl, rfl, Nat.le_refl _, fun _ _ _ => rfl⟩
  | v :: r, o, w => by
    have h := grown_setCells g r (o + 1) (w.setCell ⟨g, o, none⟩ v)
    have hs : (w.setCell ⟨g, o, none⟩ v).heap.size = w.heap.size := by simp
    exact ⟨h.os, h.tape, h.output, by rw [← hs]; exact h.size, fun k hk hne => (h.block k (by omega) hne).trans (Below.heap_setCell _ _ _ k (fun e => hne (by rw [e])))⟩
theorem grown_two {w w1 w2 : World} {row : Option Nat} (h : w.grownBy w1 row) (k : w1.grownBy w2 row) : w.grownBy w2 row :=
  ⟨k.os.trans h.os, k.tape.trans h.tape, k.output.trans h.output, Nat.le_trans h.size k.size, fun i hi hne => (k.block i (Nat.lt_of_lt_of_le hi h.size) hne).trans (h.block i hi hne)⟩
/-- one more, at a place -/
def insV (xs : List Value) (i : Nat) (x : Value) : List Value := xs.take i ++ x :: xs.drop i
theorem insV_len (xs : List Value) (i : Nat) (x : Value) (h : i ≤ xs.length) : (insV xs i x).length = xs.length + 1 := by simp [insV]; omega
theorem insV_get (xs : List Value) (i : Nat) (x : Value) (h : i ≤ xs.length) (j : Nat) : (insV xs i x)[j]? = if j < i then xs[j]? else if j = i then some x else xs[j - 1]? := by
  unfold insV
  by_cases h1 : j < i
  · rw [if_pos h1, List.getElem?_append_left (by simp; omega), List.getElem?_take, if_pos h1]
  · rw [if_neg h1, List.getElem?_append_right (by simp; omega), List.length_take, Nat.min_eq_left h]
    by_cases h2 : j = i
    · subst h2; simp
    · rw [if_neg h2, show j - i = (j - i - 1) + 1 by omega, List.getElem?_cons_succ, List.getElem?_drop]
      congr 1; omega
/-- what the four roads of slices.Insert come to: the row with one more -/
def InsPost (w : World) (B : Nat) (e : TypeId) (v : Value) (ys : List Value) (en : Ending) (w' : World) : Prop :=
  ∃ v', en = .returned v' ∧ w'.ownsRow B e 1 v' ys.length ys ∧ w.grownBy w' v.ownBlock ∧ AtRow v v' w.heap.size
theorem ins_place {w : World} {B n g cap i vb : Nat} {e : TypeId} {xs : List Value} {x : Value} (h : w.ownsRow B e 1 (.slice (some ⟨g, 0, none⟩) n cap) n xs) (hi : i ≤ n) (hc : n + 1 ≤ cap) :
    InsPost w B e (.slice (some ⟨g, 0, none⟩) n cap) (insV xs i x) (.returned (.slice (some ⟨g, 0, none⟩) (n + 1) cap)) ((w.drew.setCells g (0 + (i + 1)) (xs.drop i)).setCells g (0 + i) [x]) := by
  obtain ⟨hB, hn, hm, hl, hgs, f, hf, hx⟩ := own_rowIs h
  have h1 := Go.rowIs_setCells (xs.drop i) (0 + (i + 1)) w.drew f (rowIs_drew hf)
  have h2 := Go.rowIs_setCells [x] (0 + i) _ _ h1
  refine ⟨_, rfl, ?_, ?_, .inl rfl⟩
  · rw [insV_len _ _ _ (by omega), hl]
    refine rowIs_own h2 hB hc hm (by rw [insV_len _ _ _ (by omega), hl]) (fun j hj => ?_)
    rw [insV_get _ _ _ (by omega)]
    simp only [List.length_singleton, List.length_drop]
    by_cases h3 : j < i
    · rw [if_pos h3, if_neg (by omega), if_neg (by omega), hx j (by omega)]
    · rw [if_neg h3]
      by_cases h4 : j = i
      · subst h4; rw [if_pos rfl, if_pos (by omega)]; simp
      · rw [if_neg h4, if_neg (by omega), if_pos (by omega), List.getElem?_drop, show i + (j - (0 + (i + 1))) = j - 1 by omega, hx (j - 1) (by omega)]
        rfl
  · have g0 : w.grownBy w.drew (some g) := ⟨rfl, rfl, rfl, Nat.le_refl _, fun _ _ _ => rfl⟩
    exact grown_two (grown_two g0 (grown_setCells g _ _ _)) (grown_setCells g _ _ _)
theorem ins_end {w : World} {B n g cap : Nat} {e : TypeId} {xs : List Value} {x : Value} (h : w.ownsRow B e 1 (.slice (some ⟨g, 0, none⟩) n cap) n xs) (hc : n + 1 ≤ cap) :
    InsPost w B e (.slice (some ⟨g, 0, none⟩) n cap) (insV xs n x) (.returned (.slice (some ⟨g, 0, none⟩) (n + 1) cap)) (w.setCells g (0 + n) [x]) := by
  obtain ⟨hB, hn, hm, hl, hgs, f, hf, hx⟩ := own_rowIs h
  have h2 := Go.rowIs_setCells [x] (0 + n) w f hf
  refine ⟨_, rfl, ?_, grown_setCells g _ _ _, .inl rfl⟩
  rw [insV_len _ _ _ (by omega), hl]
  refine rowIs_own h2 hB hc hm (by rw [insV_len _ _ _ (by omega), hl]) (fun j hj => ?_)
  rw [insV_get _ _ _ (by omega)]
  simp only [List.length_singleton]
  by_cases h3 : j < n
  · rw [if_pos h3, if_neg (by omega), hx j (by omega)]
  · obtain rfl : j = n := by omega
    rw [if_neg h3, if_pos rfl, if_pos (by omega)]; simp
/-- a row that is new -/
theorem ins_new {w w' : World} {B n cap : Nat} {e : TypeId} {v : Value} {ys : List Value} {cs : Array Value} (hB : B ≤ w.heap.size) (hw : w'.heap = (w.heap.push (.cells cs e (0, 0)))) (ho : w'.os = w.os) (ht : w'.tape = w.tape) (hu : w'.output = w.output) (hc : cs.size = cap) (hm : cap ≤ maxLen) (hn : ys.length = n) (hnc : n ≤ cap) (hx : ∀ j, j < n → cs[j]? = ys[j]?) :
    InsPost w B e v ys (.returned (.slice (some ⟨w.heap.size, 0, none⟩) n cap)) w' := by
  refine ⟨_, rfl, ?_, ⟨ho, ht, hu, by rw [hw]; simp, fun k hk _ => by rw [hw, Array.getElem?_push_lt hk, Array.getElem?_eq_getElem hk]⟩, .inr ⟨_, Nat.le_refl _, rfl⟩⟩
  rw [hn]
  refine rowIs_own (f := fun j => (cs[j]?).getD default) ⟨cs, by rw [hw, Array.getElem?_push_size], hc, fun i hi => some_getD cs i (by omega)⟩ hB hnc hm hn (fun j hj => ?_)
  rw [← hx j hj]
  exact some_getD cs j (by omega)
theorem ins_fresh {w : World} {B n cap i : Nat} {e : TypeId} {v : Value} {xs : List Value} {x : Value} (arr : Array Value) (hB : B ≤ w.heap.size) (hsz : arr.size = cap) (hm : cap ≤ maxLen) (hl : xs.length = n) (hi : i ≤ n) (hc : n + 1 ≤ cap) (hpre : ∀ j, j < i → arr[j]? = xs[j]?) :
    InsPost w B e v (insV xs i x) (.returned (.slice (some ⟨w.heap.size, 0, none⟩) (n + 1) cap)) ((((w.alloc (.cells arr e)).drew.setCells w.heap.size i [x]).drew).setCells w.heap.size (i + 1) (xs.drop i)) := by
  have h0 : (w.alloc (.cells arr e)).drew.rowIs w.heap.size e cap (fun j => (arr[j]?).getD default) := ⟨arr, heap_alloc_new w (.cells arr e), hsz, fun j hj => some_getD arr j (by omega)⟩
  have h1 := Go.rowIs_setCells [x] i _ _ h0
  have h2 := Go.rowIs_setCells (xs.drop i) (i + 1) _ _ (rowIs_drew h1)
  refine ⟨_, rfl, ?_, ?_, .inr ⟨_, Nat.le_refl _, rfl⟩⟩
  · rw [insV_len _ _ _ (by omega), hl]
    refine rowIs_own h2 hB hc hm (by rw [insV_len _ _ _ (by omega), hl]) (fun j hj => ?_)
    rw [insV_get _ _ _ (by omega)]
    simp only [List.length_singleton, List.length_drop]
    by_cases h3 : j < i
    · rw [if_pos h3, if_neg (by omega), if_neg (by omega), ← hpre j h3]; exact some_getD arr j (by omega)
    · rw [if_neg h3]
      by_cases h4 : j = i
      · subst h4; rw [if_pos rfl, if_neg (by omega), if_pos (by omega)]; simp
      · rw [if_neg h4, if_pos (by omega), List.getElem?_drop, show i + (j - (i + 1)) = j - 1 by omega, List.getElem?_eq_getElem (by omega)]
        rfl
  · have g0 : w.grownBy (w.alloc (.cells arr e)).drew (some w.heap.size) := ⟨rfl, rfl, rfl, by show w.heap.size ≤ (w.alloc (.cells arr e)).heap.size; simp, fun k hk _ => Below.heap_alloc w _ k hk⟩
    have g1 := grown_two g0 (grown_setCells w.heap.size [x] i (w.alloc (.cells arr e)).drew)
    have gd : ((w.alloc (.cells arr e)).drew.setCells w.heap.size i [x]).grownBy ((w.alloc (.cells arr e)).drew.setCells w.heap.size i [x]).drew (some w.heap.size) := ⟨rfl, rfl, rfl, Nat.le_refl _, fun _ _ _ => rfl⟩
    have g2 := grown_two (grown_two g1 gd) (grown_setCells w.heap.size (xs.drop i) (i + 1) _)
    exact ⟨g2.os, g2.tape, g2.output, g2.size, fun k hk _ => g2.block k hk (fun e => by injection e with e; omega)⟩
theorem ins_grown {w : World} {B n cap : Nat} {e : TypeId} {v : Value} {xs : List Value} {x : Value} (rest : Array Value) (hB : B ≤ w.heap.size) (hl : xs.length = n) (hsz : n + 1 + rest.size = cap) (hm : cap ≤ maxLen) :
    InsPost w B e v (insV xs n x) (.returned (.slice (some ⟨w.heap.size, 0, none⟩) (n + 1) cap)) (w.drew.alloc (.cells ((xs ++ [x]).toArray ++ rest) e)) := by
  have hy : insV xs n x = xs ++ [x] := by unfold insV; rw [List.take_of_length_le (by omega), List.drop_eq_nil_of_le (by omega)]
  rw [hy]
  exact ins_new hB rfl rfl rfl rfl (by simp; omega) hm (by simp; omega) (by omega) (fun j hj => by rw [Array.getElem?_append_left (by simp; omega)]; simp)
theorem ints_insV (l : List Int) (i : Nat) (x : Int) : insV (ints l) i (.int .i64 x) = ints (insI l i x) := by simp [insV, insI, ints]
theorem ints_cell {w : World} {g n cap B : Nat} {l : List Int} (h : w.ownsRow B 3 1 (.slice (some ⟨g, 0, none⟩) n cap) n (ints l)) : ∀ (j : Nat) (u : Value), (ints l)[j]? = some u → w.cell? ⟨g, 0 + j, none⟩ = some u := fun j u hu => by
  obtain ⟨_, _, _, hl, _, f, hf, hx⟩ := own_rowIs h
  have hj := (List.getElem?_eq_some_iff.1 hu).1
  rw [Nat.zero_add, h.cellAt j (by omega), hu]
set_option maxHeartbeats 1000000 in
theorem insertI_is (B i : Nat) (l : List Int) (v : Value) (w : World) (vb : Nat) (x : Int) (hown : w.ownsRow B 3 1 v l.length (ints l)) (hi : i ≤ l.length) (hn : l.length ≤ 100000) (hB : B ≤ w.heap.size) (hvb : w.heap[vb]? = some (Obj.cells #[.int .i64 x] 3 (0, 0))) (hne : v.ownBlock ≠ some vb) :
    Calls Try.prog 46 #[v, .int .i64 (i : Int), .slice (some ⟨vb, 0, none⟩) 1 1] w (InsPost w B 3 v (insV (ints l) i (.int .i64 x))) := by
  have hvs : ∀ (j : Nat) (u : Value), [Value.int .i64 x][j]? = some u → w.cell? ⟨vb, 0 + j, none⟩ = some u := fun j u hu => by
    match j, hu with
    | 0, hu => simp at hu; subst hu; exact (cell_of_row w vb 0 _ _ _ hvb).trans rfl
  have h1v : ∀ u ∈ [Value.int .i64 x], u.oneCell' = true := fun u hu => by rw [List.mem_singleton.1 hu]; rfl
  have hil : (ints l).length = l.length := ints_length l
  by_cases hv : v = .slice none 0 0
  · subst hv
    obtain rfl : l = [] := by
      rcases hown.2 with ⟨_, h0⟩ | ⟨g, cap, cur, h0, _⟩
      · exact List.eq_nil_of_length_eq_zero h0
      · cases h0
    obtain rfl : i = 0 := by simpa using hi
    refine (Any2.slices_Insert_int_end_grow Try.laysNm221 none 0 0 vb 0 1 1 [] [.int .i64 x] w (by omega) (by omega) (by omega) (by omega) rfl rfl (fun _ => rfl) (fun a e => by cases e) hvs h1v).mono ?_
    rintro e w' ⟨rfl, rfl⟩
    have hg := grownCap_ge w (0 + 1) 0 (Try.laysNm221_ren.t 3)
    have hm := grownCap_le_maxLen w (0 + 1) 0 (Try.laysNm221_ren.t 3) (by unfold maxLen; omega)
    exact ins_grown (xs := []) _ hB rfl (by have hg' : 1 ≤ grownCap w 1 0 (Try.laysNm221_ren.t 3) := hg
                                            simp [size_zeroCells, Value.cells]; omega) hm
  · rcases hown.2 with ⟨h0, _⟩ | ⟨g, cap, cur, rfl, hBg, hgc, hnc, hcm, hcs, _⟩
    · exact absurd h0 hv
    · have hcc := ints_cell hown
      have hgv : vb ≠ g := fun e => hne (by rw [e]; rfl)
      have hcs' : cur.size = cap := by simpa using hcs
      have hc63 : cap ≤ 9223372036854775807 := by unfold maxLen at hcm; omega
      have hsome : ∀ j, j < cap → (w.cell? ⟨g, 0 + j, none⟩).isSome = true := fun j hj => by
        rw [Nat.zero_add, cell_of_row w g j _ _ _ hgc, Array.getElem?_eq_getElem (by omega)]; rfl
      have hfz : ∀ j, w.frozen? ⟨g, 0 + j, none⟩ = false := fun j => by simp [World.frozen?, hgc]
      rcases Nat.lt_or_ge i l.length with hlt | hge
      · by_cases hroom : l.length + 1 ≤ cap
        · refine (Any2.slices_Insert_int_shift Try.laysNm221 g 0 l.length cap i vb 0 1 1 (ints l) [.int .i64 x] w hlt (by omega) hroom hc63 hgv hil rfl hcc (fun j hj => hsome j (by omega)) (fun j _ => hfz j) hvs (ints_one l) h1v 3 3 1 cap (by simp [World.shape?, hvb]) (by simp [World.shape?, hgc, hcs']) (by omega) (by simp [World.frozen?, hvb]) (by simp [World.frozen?, hvb])).mono ?_
          rintro e w' ⟨rfl, rfl⟩
          exact ins_place (vb := vb) hown (by omega) hroom
        · refine (Any2.slices_Insert_int_grow Try.laysNm221 g 0 l.length cap i vb 0 1 1 (ints l) [.int .i64 x] w hlt (by omega) hnc (by omega) (by omega) hil rfl hcc hvs (ints_one l) h1v).mono ?_
          rintro e w' ⟨rfl, rfl⟩
          have hg := grownCap_ge w (l.length + 1) cap (Try.laysNm221_ren.t 3)
          have hm := grownCap_le_maxLen w (l.length + 1) cap (Try.laysNm221_ren.t 3) (by unfold maxLen; omega)
          refine ins_fresh _ hB ?_ hm hil (by omega) hg (fun j hj => ?_)
          · simp [size_zeroCells, Value.cells, ints_length]; omega
          · rw [Array.append_assoc, Array.getElem?_append_left (by simp [ints_length]; omega)]
            simp [List.getElem?_take, hj]
      · obtain rfl : i = l.length := by omega
        by_cases hroom : l.length + 1 ≤ cap
        · refine (Any2.slices_Insert_int_end_room Try.laysNm221 g 0 l.length cap vb 0 1 1 [.int .i64 x] w (by omega) hroom hc63 rfl (fun j hj => by rw [Nat.add_assoc]; exact hsome _ (by omega)) (fun j _ => by rw [Nat.add_assoc]; exact hfz _) hvs h1v).mono ?_
          rintro e w' ⟨rfl, rfl⟩
          exact ins_end hown hroom
        · refine (Any2.slices_Insert_int_end_grow Try.laysNm221 (some ⟨g, 0, none⟩) l.length cap vb 0 1 1 (ints l) [.int .i64 x] w (by omega) hnc (by omega) (by omega) hil rfl (fun e => by cases e) (fun a e j u hu => by injection e with e; subst e; rw [Addr.add_lit]; exact hcc j u hu) hvs h1v).mono ?_
          rintro e w' ⟨rfl, rfl⟩
          have hg := grownCap_ge w (l.length + 1) cap (Try.laysNm221_ren.t 3)
          have hm := grownCap_le_maxLen w (l.length + 1) cap (Try.laysNm221_ren.t 3) (by unfold maxLen; omega)
          exact ins_grown _ hB hil (by simp [size_zeroCells, Value.cells]; omega) hm
end Go.Proofs.Ytiadljcfcncbkaa
