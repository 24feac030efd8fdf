/- A set behind some deeds, and the document's. -/
import Derived.Test.YtmblkccfgncngaaDoorBitsRef
import Derived.Test.YtmblkccfgncngaaDoorOpenS
namespace Go.Proofs.YtmblkccfgncngaaDoor
open Go Go.RowKit

theorem St.apart {w : World} {a G n : Nat} {f : Nat → Bool} (h : St w a G n f) {b o : Nat} {v : Value} (hc : w.cell? ⟨b, o, none⟩ = some v) (hv : ∀ x, v ≠ .int .u64 x) : b ≠ G := by
  rintro rfl
  rw [cell_of_row w b o _ _ _ h.words] at hc
  by_cases e : o < wcount n
  · rw [wcells_get n f o e] at hc; exact hv _ (Option.some.inj hc).symm
  · rw [Array.getElem?_eq_none (by rw [wcells_size]; omega)] at hc; cases hc
theorem RSt.apart {w : World} {a G n : Nat} {f : Nat → Bool} (h : RSt w a G n f) {b o : Nat} {v : Value} (hc : w.cell? ⟨b, o, none⟩ = some v) (hv : ∀ x, v ≠ .bool x) : b ≠ G := by
  rintro rfl
  rw [cell_of_row w b o _ _ _ h.ins] at hc
  by_cases e : o < n
  · rw [bcells_get n f o e] at hc; exact hv _ (Option.some.inj hc).symm
  · rw [Array.getElem?_eq_none (by rw [bcells_size]; omega)] at hc; cases hc
theorem sets_apart {w : World} {a G n a2 G2 n2 : Nat} {f f2 : Nat → Bool} (h : St w a G n f) (k : RSt w a2 G2 n2 f2) : G ≠ G2 := by
  rintro rfl
  have := h.words.symm.trans k.ins
  simp only [Option.some.injEq, Obj.cells.injEq] at this
  exact absurd this.2.1 (by decide)
/-- what a set becomes where i is put in, or taken out -/
def turnI (f : Nat → Bool) (n : Nat) (i : Int) (b : Bool) : Nat → Bool := if 0 ≤ i ∧ i < n then Bit.turn f i.toNat b else f
def inB (n : Nat) (i : Int) : Bool := decide (0 ≤ i ∧ i < n)
def PutAny (w : World) (a G n : Nat) (f : Nat → Bool) (i : Int) (b : Bool) (e : Ending) (w' : World) : Prop := e = .returned (.bool (inB n i)) ∧ St w' a G n (turnI f n i b) ∧ w.grownBy w' (some G)
theorem grown_refl (w : World) (row : Option Nat) : w.grownBy w row := ⟨rfl, rfl, rfl, Nat.le_refl _, fun _ _ _ => rfl⟩
theorem putB_any (a G n : Nat) (f : Nat → Bool) (i : Int) (w : World) (h : St w a G n f) : Calls Tryd.prog 22 #[.pointer (some ⟨a, 0, none⟩), .int .i64 i] w (PutAny w a G n f i true) := by
  by_cases hi : 0 ≤ i ∧ i < n
  · obtain ⟨k, rfl⟩ := Int.eq_ofNat_of_zero_le hi.1
    refine (put_in a G n f k w h (by omega)).mono fun e w' ⟨h1, h2, h3⟩ => ⟨by rw [h1]; simp [inB, hi], ?_, h3⟩
    unfold turnI; rw [if_pos hi]; exact h2
  · refine (put_out _ n i w h.sized hi).mono fun e w' ⟨h1, h2⟩ => ⟨by rw [h1]; unfold inB; rw [decide_eq_false hi], ?_, by subst h2; exact grown_refl _ _⟩
    unfold turnI; rw [if_neg hi]; subst h2; exact h
theorem cutB_any (a G n : Nat) (f : Nat → Bool) (i : Int) (w : World) (h : St w a G n f) : Calls Tryd.prog 28 #[.pointer (some ⟨a, 0, none⟩), .int .i64 i] w (PutAny w a G n f i false) := by
  by_cases hi : 0 ≤ i ∧ i < n
  · obtain ⟨k, rfl⟩ := Int.eq_ofNat_of_zero_le hi.1
    refine (cut_in a G n f k w h (by omega)).mono fun e w' ⟨h1, h2, h3⟩ => ⟨by rw [h1]; simp [inB, hi], ?_, h3⟩
    unfold turnI; rw [if_pos hi]; exact h2
  · refine (cut_out _ n i w h.sized hi).mono fun e w' ⟨h1, h2⟩ => ⟨by rw [h1]; unfold inB; rw [decide_eq_false hi], ?_, by subst h2; exact grown_refl _ _⟩
    unfold turnI; rw [if_neg hi]; subst h2; exact h
def SetAny (w : World) (a G n : Nat) (f : Nat → Bool) (i : Int) (b : Bool) (e : Ending) (w' : World) : Prop := e = .returned (.bool (inB n i)) ∧ RSt w' a G n (turnI f n i b) ∧ w.grownBy w' (some G)
theorem set_any (a G n : Nat) (f : Nat → Bool) (i : Int) (b : Bool) (w : World) (h : RSt w a G n f) : Calls Tryd.prog 42 #[.pointer (some ⟨a, 0, none⟩), .int .i64 i, .bool b] w (SetAny w a G n f i b) := by
  by_cases hi : 0 ≤ i ∧ i < n
  · obtain ⟨k, rfl⟩ := Int.eq_ofNat_of_zero_le hi.1
    refine (refSet_in a G n f k b w h (by omega)).mono fun e w' ⟨h1, h2, h3⟩ => ⟨by rw [h1]; simp [inB, hi], ?_, h3⟩
    unfold turnI; rw [if_pos hi]; exact h2
  · refine (refSet_out a G n f i b w h hi).mono fun e w' ⟨h1, h2⟩ => ⟨by rw [h1]; unfold inB; rw [decide_eq_false hi], ?_, by subst h2; exact grown_refl _ _⟩
    unfold turnI; rw [if_neg hi]; subst h2; exact h

/-- both sets, and the deed that is done -/
def Both1 (w0 : World) (a G a2 G2 n : Nat) (f f2 : Nat → Bool) (X : Nat) (N : Int) (v : Bool) (e : Ending) (w' : World) : Prop :=
  e = .returned (.bool v) ∧ St w' a G n f ∧ RSt w' a2 G2 n f2 ∧ w'.cell? ⟨X, 1, none⟩ = some (.int .i64 N) ∧ Below w0.heap.size w0 w'
theorem both_put {w0 w w' : World} {a G a2 G2 n : Nat} {f f' f2 : Nat → Bool} {X : Nat} {N : Int} {v : Bool} {e : Ending} (hs : St w a G n f) (hr : RSt w a2 G2 n f2) (hX : w.cell? ⟨X, 1, none⟩ = some (.int .i64 N)) (hb : Below w0.heap.size w0 w) (hG : w0.heap.size ≤ G)
    (he : e = .returned (.bool v)) (hs' : St w' a G n f') (hg : w.grownBy w' (some G)) : Both1 w0 a G a2 G2 n f' f2 X N v e w' :=
  ⟨he, hs', hr.kept hg (fun q => hs.apart hr.c0 (fun _ q2 => by cases q2) (Option.some.inj q)) (fun q => sets_apart hs hr (Option.some.inj q).symm), hg.cell hX (fun q => hs.apart hX (fun _ q2 => by cases q2) (Option.some.inj q)),
    hb.grown hg hb.size (fun k hk => by have := Option.some.inj hk; omega)⟩
theorem put1 (w0 w : World) (a G a2 G2 n : Nat) (f f2 : Nat → Bool) (X : Nat) (N : Int) (hs : St w a G n f) (hr : RSt w a2 G2 n f2) (hX : w.cell? ⟨X, 1, none⟩ = some (.int .i64 N)) (hb : Below w0.heap.size w0 w) (hG : w0.heap.size ≤ G) :
    Calls Tryd.prog 22 #[.pointer (some ⟨a, 0, none⟩), .int .i64 N] w (Both1 w0 a G a2 G2 n (turnI f n N true) f2 X N (inB n N)) :=
  (putB_any a G n f N w hs).mono fun _ _ ⟨h1, h2, h3⟩ => both_put hs hr hX hb hG h1 h2 h3
theorem cut1 (w0 w : World) (a G a2 G2 n : Nat) (f f2 : Nat → Bool) (X : Nat) (N : Int) (hs : St w a G n f) (hr : RSt w a2 G2 n f2) (hX : w.cell? ⟨X, 1, none⟩ = some (.int .i64 N)) (hb : Below w0.heap.size w0 w) (hG : w0.heap.size ≤ G) :
    Calls Tryd.prog 28 #[.pointer (some ⟨a, 0, none⟩), .int .i64 N] w (Both1 w0 a G a2 G2 n (turnI f n N false) f2 X N (inB n N)) :=
  (cutB_any a G n f N w hs).mono fun _ _ ⟨h1, h2, h3⟩ => both_put hs hr hX hb hG h1 h2 h3
theorem set1 (w0 w : World) (a G a2 G2 n : Nat) (f f2 : Nat → Bool) (X : Nat) (N : Int) (b : Bool) (hs : St w a G n f) (hr : RSt w a2 G2 n f2) (hX : w.cell? ⟨X, 1, none⟩ = some (.int .i64 N)) (hb : Below w0.heap.size w0 w) (hG : w0.heap.size ≤ G2) :
    Calls Tryd.prog 42 #[.pointer (some ⟨a2, 0, none⟩), .int .i64 N, .bool b] w (Both1 w0 a G a2 G2 n f (turnI f2 n N b) X N (inB n N)) :=
  (set_any a2 G2 n f2 N b w hr).mono fun _ _ ⟨h1, h2, h3⟩ =>
    ⟨h1, hs.kept h3 (fun q => hr.apart hs.c0 (fun _ q2 => by cases q2) (Option.some.inj q)) (fun q => sets_apart hs hr (Option.some.inj q)), h2, h3.cell hX (fun q => hr.apart hX (fun _ q2 => by cases q2) (Option.some.inj q)),
      hb.grown h3 hb.size (fun k hk => by have := Option.some.inj hk; omega)⟩
/-- both sets, made -/
def MadeTo (w : World) (n : Nat) (e : Ending) (w' : World) : Prop :=
  ∃ a G a2 G2 f, e = .returned (.tuple #[.pointer (some ⟨a, 0, none⟩), .pointer (some ⟨a2, 0, none⟩), .bool true]) ∧ w.heap.size ≤ G ∧ w.heap.size ≤ G2 ∧ St w' a G n f ∧ RSt w' a2 G2 n f ∧ Below w.heap.size w w'

set_option maxHeartbeats 4000000 in
set_option maxRecDepth 100000 in
theorem made_is (x : Int) (n : Nat) (p : Option Addr) (c : Nat) (l : List (Int × Int)) (w : World) (h1 : -9223372036854775808 ≤ x) (h2 : x ≤ 9223372036854775807) (hx : (n : Int) = min (max x 0) 2000) (h : LiesD w p l) (hlc : l.length ≤ c) (hc : c ≤ 8796093022208) :
    Calls Tryd.prog 10 #[.int .i64 x, .slice p l.length c] w (MadeTo w n) := by
  have hn : n ≤ 2000 := by omega
  obtain ⟨X, key, N1, N2⟩ : ∃ X : Int, (x < 2000 ∧ X = x ∨ x = 2000 ∧ X = 2000 ∨ 2000 < x ∧ X = 2000) ∧ Hid (Calls Tryd.prog 19 #[.int .i64 X] w (NewSet w n)) ∧ Hid (∀ w : World, Calls Tryd.prog 41 #[.int .i64 X] w (NewR w n)) :=
    ⟨min x 2000, by omega, newSet _ n w (by omega) (by omega) (by omega), fun w => newR _ n w (by omega) (by omega) (by omega)⟩
  clear hx
  have H := Lib.hid h
  clear h
  rcases key with ⟨kx, rfl⟩ | ⟨rfl, rfl⟩ | ⟨kx, rfl⟩
  all_goals
    go_enter Tryd.func10, Tryd.ntmps10
    go_wp2_with fail
    refine N1.out.mono ?_
    rintro e w1 ⟨a, G, rfl, ha, hG, hst, hb1⟩
    have B1 := Lib.hid hb1; have S1 := Lib.hid hst
    clear N1 hst hb1
    go_wp2_with fail
    refine (N2.out w1).mono ?_
    rintro e w2 ⟨a2, G2, rfl, ha2, hG2, hrs, hb2⟩
    have B2 := Lib.hid (B1.out.trans (hb2.mono B1.out.size)); have S2 := Lib.hid (S1.out.below hb2); have R2 := Lib.hid hrs
    have hG2' : w.heap.size ≤ G2 := Nat.le_trans B1.out.size hG2
    clear N2 hrs hb2 hG2 ha2 S1
    go_wp2
    go_loopw [20] (fun i wr => ∃ (k : Nat) (f : Nat → Bool), k ≤ l.length ∧ k ≤ 200 ∧ i = .int .i64 k ∧ St wr a G n f ∧ RSt wr a2 G2 n f ∧ Below w.heap.size w wr) (fun i _ => 201 - (intOf i).toNat)
    case atStart => exact ⟨0, _, Nat.zero_le _, by omega, rfl, S2.out, R2.out, B2.out⟩
    case round =>
      obtain ⟨k, f, hk, hk2, rfl, hst, hrs, hb⟩ := hrel
      have S := Lib.hid hst; have R := Lib.hid hrs; have B := Lib.hid hb
      have hz := hb.size
      clear hst hrs hb
      by_cases hlt : k < l.length
      · obtain ⟨bb, o, rfl, _, hcell⟩ := (H.out.below B.out).at (by omega)
        obtain ⟨h1, h2⟩ := hcell k hlt
        clear hcell
        generalize (l.getD k (0, 0)).1 = op at h1
        generalize (l.getD k (0, 0)).2 = N at h2
        have hlt' : (k : Int) < l.length := by omega
        by_cases hk3 : k < 200
        · have hk3' : ¬ (k : Int) ≥ 200 := by omega
          by_cases hop : bits .and .i64 op 1 = 0
          · skip
            have hbA : Below wr.heap.size wr (wr.alloc (.cells #[.int .i64 op, .int .i64 N] 62)) := (Below.refl _ _).alloc (Nat.le_refl _) _
            have PA : Hid (∀ w' : World, Below (wr.alloc (.cells #[.int .i64 op, .int .i64 N] 62)).heap.size (wr.alloc (.cells #[.int .i64 op, .int .i64 N] 62)) w' → Calls Tryd.prog 22 #[.pointer (some ⟨a, 0, none⟩), .int .i64 N] w' (Both1 w a G a2 G2 n (turnI f n N true) f wr.heap.size N (inB n N))) := fun w' hb =>
              put1 w w' a G a2 G2 n f f wr.heap.size N ((S.out.below hbA).below hb) ((R.out.below hbA).below hb)
                (by rw [hb.cell (p := ⟨wr.heap.size, 1, none⟩) (by simp), cell_of_row _ wr.heap.size 1 _ _ _ (heap_alloc_new wr _)]; rfl) (B.out.trans ((thenBelow hbA hb).mono hz)) hG
            clear hbA
            go_wp2
            go_region_law (go_simp; first | (go_at_call 22; refine (PA.out _ (by first | exact (Below.refl _ _).drew | exact Below.refl _ _)).mono ?_; rintro e w5 ⟨rfl, hs5, hr5, hc5, hb5⟩; have hz5 := hb5.size) | (go_at_call 42; refine (set1 w w5 a G a2 G2 n _ _ wr.heap.size N true hs5 hr5 hc5 hb5 hG2').mono ?_; rintro e w6 ⟨rfl, hs6, hr6, hc6, hb6⟩))
            all_goals
              have S6 := Lib.hid hs6; have R6 := Lib.hid hr6; have B6 := Lib.hid hb6
              clear hs5 hr5 hc5 hb5 hs6 hr6 hc6 hb6 PA h1 h2
              generalize inB n N = v
              go_wp2
              go_roundw
              case rel => exact ⟨k + 1, _, by omega, by omega, by go_num, S6.out, R6.out, B6.out⟩
              case measure => simp [intOf]; omega
          · have hop' : (bits .and .i64 op 1 == 0) = false := by simpa using hop
            have hbA : Below wr.heap.size wr (wr.alloc (.cells #[.int .i64 op, .int .i64 N] 62)) := (Below.refl _ _).alloc (Nat.le_refl _) _
            have PA : Hid (∀ w' : World, Below (wr.alloc (.cells #[.int .i64 op, .int .i64 N] 62)).heap.size (wr.alloc (.cells #[.int .i64 op, .int .i64 N] 62)) w' → Calls Tryd.prog 28 #[.pointer (some ⟨a, 0, none⟩), .int .i64 N] w' (Both1 w a G a2 G2 n (turnI f n N false) f wr.heap.size N (inB n N))) := fun w' hb =>
              cut1 w w' a G a2 G2 n f f wr.heap.size N ((S.out.below hbA).below hb) ((R.out.below hbA).below hb)
                (by rw [hb.cell (p := ⟨wr.heap.size, 1, none⟩) (by simp), cell_of_row _ wr.heap.size 1 _ _ _ (heap_alloc_new wr _)]; rfl) (B.out.trans ((thenBelow hbA hb).mono hz)) hG
            clear hbA
            go_wp2
            go_region_law (go_simp; first | (go_at_call 28; refine (PA.out _ (by first | exact (Below.refl _ _).drew | exact Below.refl _ _)).mono ?_; rintro e w5 ⟨rfl, hs5, hr5, hc5, hb5⟩; have hz5 := hb5.size) | (go_at_call 42; refine (set1 w w5 a G a2 G2 n _ _ wr.heap.size N false hs5 hr5 hc5 hb5 hG2').mono ?_; rintro e w6 ⟨rfl, hs6, hr6, hc6, hb6⟩))
            all_goals
              have S6 := Lib.hid hs6; have R6 := Lib.hid hr6; have B6 := Lib.hid hb6
              clear hs5 hr5 hc5 hb5 hs6 hr6 hc6 hb6 PA h1 h2
              generalize inB n N = v
              go_wp2
              go_roundw
              case rel => exact ⟨k + 1, _, by omega, by omega, by go_num, S6.out, R6.out, B6.out⟩
              case measure => simp [intOf]; omega
        · have hk3' : (k : Int) ≥ 200 := by omega
          go_wp2
          go_ret3
          exact ⟨a, G, a2, G2, f, rfl, hG, hG2', S.out.below ((Below.refl _ _).alloc (Nat.le_refl _) _), R.out.below ((Below.refl _ _).alloc (Nat.le_refl _) _), B.out.alloc hz _⟩
      · have hlt' : ¬ (k : Int) < l.length := by omega
        go_wp2
        go_ret3
        exact ⟨a, G, a2, G2, f, rfl, hG, hG2', S.out, R.out, B.out⟩

end Go.Proofs.YtmblkccfgncngaaDoor
