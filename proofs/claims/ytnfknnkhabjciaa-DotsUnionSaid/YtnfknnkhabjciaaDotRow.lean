/- Rows of dots in memory; slices.Clone and SortFunc of any dots. -/
import Derived.Test.YtnfknnkhabjciaaDotLists
import Derived.Test.YtnfknnkhabjciaaDotLays
import Derived.Test.YtnfknnkhabjciaaMemOne
import Derived.BigRegion
import Derived.Shelf.SlSortCmp.QuietGrown
namespace Go.Proofs.Ytnfknnkhabjciaa
open Go Go.RowKit
set_option linter.unusedVariables false

def dvs (d : Dt) : List Value := [.int .i64 d.1, .int .i64 d.2]
def dcl (l : List Dt) : List Value := l.flatMap dvs
theorem dcl_cons (d : Dt) (l : List Dt) : dcl (d :: l) = .int .i64 d.1 :: .int .i64 d.2 :: dcl l := rfl
theorem dcl_length : ∀ l : List Dt, (dcl l).length = l.length * 2
  | [] => rfl
  | d :: l => by rw [dcl_cons, List.length_cons, List.length_cons, dcl_length l, List.length_cons]; omega
theorem dcl_append (a b : List Dt) : dcl (a ++ b) = dcl a ++ dcl b := by simp [dcl]
theorem dcl_get : ∀ (l : List Dt) (i : Nat) (hi : i < l.length), (dcl l)[i * 2]? = some (.int .i64 l[i].1) ∧ (dcl l)[i * 2 + 1]? = some (.int .i64 l[i].2)
  | d :: l, 0, _ => ⟨rfl, rfl⟩
  | d :: l, i + 1, hi => by
    have := dcl_get l i (by simpa using hi)
    rw [dcl_cons, show (i + 1) * 2 = i * 2 + 1 + 1 from by omega, show i * 2 + 1 + 1 + 1 = (i * 2 + 1) + 1 + 1 from rfl]
    simpa using this
theorem dcl_one (l : List Dt) : ∀ u ∈ dcl l, u.oneCell' = true := by
  intro u hu
  obtain ⟨d, _, h⟩ := List.mem_flatMap.1 hu
  simp [dvs] at h
  rcases h with rfl | rfl <;> rfl
theorem dcl_at (l : List Dt) (j : Nat) (u : Value) (h : (dcl l)[j]? = some u) : ∃ i, ∃ hi : i < l.length, (j = i * 2 ∧ u = .int .i64 l[i].1) ∨ (j = i * 2 + 1 ∧ u = .int .i64 l[i].2) := by
  have hj : j < l.length * 2 := by rw [← dcl_length]; exact (List.getElem?_eq_some_iff.1 h).1
  refine ⟨j / 2, by omega, ?_⟩
  obtain ⟨g1, g2⟩ := dcl_get l (j / 2) (by omega)
  rcases Nat.mod_two_eq_zero_or_one j with e | e
  · left
    have e2 : j / 2 * 2 = j := by omega
    rw [e2, h] at g1
    exact ⟨e2.symm, Option.some.inj g1⟩
  · right
    have e2 : j / 2 * 2 + 1 = j := by omega
    rw [e2, h] at g2
    exact ⟨e2.symm, Option.some.inj g2⟩

/-- dots that lie at p -/
def DRow (w : World) (p : Option Addr) (l : List Dt) : Prop := l ≠ [] → ∃ b o, p = some ⟨b, o, none⟩ ∧ w.rangeAt b o (dcl l)
theorem range_lt {w : World} {b o : Nat} {l : List Dt} (h : w.rangeAt b o (dcl l)) (hn : l ≠ []) : b < w.heap.size := by
  cases l with
  | nil => exact absurd rfl hn
  | cons d l => exact World.block_lt_of_cell? w _ (h 0 _ rfl)
theorem DRow.below {w w' : World} {p : Option Addr} {l : List Dt} (h : DRow w p l) (hb : Below w.heap.size w w') : DRow w' p l := fun hn => by
  obtain ⟨b, o, rfl, hr⟩ := h hn
  exact ⟨b, o, rfl, range_below hr hb⟩
theorem DRow.nil (w : World) (p : Option Addr) : DRow w p [] := fun h => absurd rfl h
/-- a row of dots, one's own -/
structure OwnD (w : World) (g : Nat) (l : List Dt) : Prop where
  range : w.rangeAt g 0 (dcl l)
  free : ∀ j, j < l.length * 2 → w.frozen? ⟨g, j, none⟩ = false
  lt : g < w.heap.size
theorem OwnD.later {w w' : World} {g : Nat} {l : List Dt} (h : OwnD w g l) (hb : Below w.heap.size w w') : OwnD w' g l :=
  ⟨range_below h.range hb, fun j hj => (hb.frozen (p := ⟨g, j, none⟩) h.lt).trans (h.free j hj), Nat.lt_of_lt_of_le h.lt hb.size⟩
theorem OwnD.kept {w w' : World} {g : Nat} {l : List Dt} (h : OwnD w g l) {row : Option Nat} (hg : w.grownBy w' row) (hne : some g ≠ row) : OwnD w' g l :=
  ⟨fun j u hu => by
    have h1 := h.range j u hu
    rw [World.cell?_of_block (w := w) (a := ⟨g, 0 + j, none⟩) (hg.block g h.lt hne)]; exact h1,
  fun j hj => by rw [World.frozen?_of_block (w := w) (a := ⟨g, j, none⟩) (hg.block g h.lt hne)]; exact h.free j hj, Nat.lt_of_lt_of_le h.lt hg.size⟩
theorem OwnD.row {w : World} {g : Nat} {l : List Dt} (h : OwnD w g l) : DRow w (some ⟨g, 0, none⟩) l := fun _ => ⟨g, 0, rfl, h.range⟩
theorem OwnD.cells {w : World} {g : Nat} {l : List Dt} (h : OwnD w g l) (i : Nat) (hi : i < l.length) : w.cell? ⟨g, i * 2, none⟩ = some (.int .i64 l[i].1) ∧ w.cell? ⟨g, i * 2 + 1, none⟩ = some (.int .i64 l[i].2) := by
  obtain ⟨g1, g2⟩ := dcl_get l i hi
  have h1 := h.range _ _ g1
  have h2 := h.range _ _ g2
  rw [Nat.zero_add] at h1 h2
  exact ⟨h1, h2⟩

theorem infoDt : (Try.prog.info? 28).map (fun i => (i.zero, i.size, i.bytes)) = some (some (.agg #[.int .i64 0, .int .i64 0]), 2, 16) := by kernel_rfl
/-- what a call owns lies where it is -/
theorem own_drow {w : World} {B : Nat} {v : Value} {n : Nat} {l : List Dt} (h : w.ownsRow B 28 2 v n (dcl l)) :
    n = l.length ∧ ∃ p cap, v = .slice p l.length cap ∧ l.length ≤ cap ∧ DRow w p l ∧ (p = none → l = [] ∧ cap = 0) ∧ (∀ a, p = some a → ∃ g, a = ⟨g, 0, none⟩ ∧ B ≤ g ∧ OwnD w g l) := by
  have hlen : n = l.length := by have := h.1; rw [dcl_length] at this; omega
  subst hlen
  refine ⟨rfl, ?_⟩
  rcases h.2 with ⟨rfl, hn⟩ | ⟨g, cap, cur, rfl, hle, hcur, hnc, hcm, hsz, htk⟩
  · obtain rfl := List.eq_nil_of_length_eq_zero hn
    exact ⟨none, 0, rfl, Nat.le_refl _, DRow.nil _ _, fun _ => ⟨rfl, rfl⟩, fun a ha => by cases ha⟩
  · have hO : OwnD w g l := by
      refine ⟨fun j u hu => ?_, fun j _ => frozen_of_row _ _ _ _ _ hcur, (Array.getElem?_eq_some_iff.1 hcur).1⟩
      have hj : j < l.length * 2 := by rw [← dcl_length]; exact (List.getElem?_eq_some_iff.1 hu).1
      have := congrArg (·[j]?) htk
      simp only [List.getElem?_take, if_pos hj, Array.getElem?_toList] at this
      rw [Nat.zero_add, cell_of_row _ g j _ _ _ hcur, this]; exact hu
    exact ⟨some ⟨g, 0, none⟩, cap, rfl, hnc, hO.row, fun e => (by cases e), fun a ha => by
      obtain rfl := Option.some.inj ha
      exact ⟨g, rfl, hle, hO⟩⟩

/-- slices.Clone -/
theorem cloneD_is (p : Option Addr) (c : Nat) (l : List Dt) (w : World) (h : DRow w p l) (hp : p = none → l = []) (ho : ∀ a, p = some a → ∃ b o, a = ⟨b, o, none⟩) (hbig : l.length ≤ 10000) :
    Calls Try.prog 18 #[.slice p l.length c] w fun e w' => ∃ v, e = .returned v ∧ w'.ownsRow w.heap.size 28 2 v l.length (dcl l) ∧ Below w.heap.size w w' := by
  cases p with
  | none =>
    obtain rfl := hp rfl
    exact (AnyE.slices_Clone_nil Try.laysClone 0 c w).mono fun e w' ⟨h1, h2⟩ => ⟨_, h1, h2 ▸ ⟨rfl, .inl ⟨rfl, rfl⟩⟩, h2 ▸ Below.refl _ _⟩
  | some a =>
    obtain ⟨b, o, rfl⟩ := ho a rfl
    obtain ⟨i0, hi, hz0, hz1, hz2⟩ := info_parts infoDt
    refine (AnyE.slices_Clone Try.laysClone i0 _ 2 16 hi hz0 hz1 hz2 rfl (by decide) Try.sizeOf28 b o l.length c (dcl l) w (dcl_length l) (by unfold maxLen; omega) (by omega) ?_ (dcl_one l)).mono fun e w' ⟨v, h1, h2, h3, h4⟩ => ⟨v, h1, h2, h4⟩
    intro j u hu
    by_cases hn : l = []
    · subst hn; simp [dcl] at hu
    · obtain ⟨b', o', e, hr⟩ := h hn
      cases e
      exact hr j u hu

/-- the worlds that draws and blocks of one's own make -/
def Grew (w w' : World) : Prop := ∃ q os, w' = Sort.grow (w.drewN q) os
theorem Grew.refl (w : World) : Grew w w := ⟨0, #[], by rw [Sort.grow_empty]; rfl⟩
theorem Grew.alloc {w w' : World} (h : Grew w w') (o : Obj) : Grew w (w'.alloc o) := by
  obtain ⟨q, os, rfl⟩ := h
  exact ⟨q, os ++ #[o], by rw [Sort.alloc_eq_grow, Sort.grow_grow]⟩
theorem Grew.grow {w w' : World} (h : Grew w w') (n : Nat) (os : Array Obj) : Grew w (Sort.grow (w'.drewN n) os) := by
  obtain ⟨q, os1, rfl⟩ := h
  exact ⟨q + n, os1 ++ os, by show Sort.grow (Sort.grow ((w.drewN q).drewN n) os1) os = _; rw [Sort.grow_grow, World.drewN_drewN]⟩

set_option maxHeartbeats 1000000 in
set_option maxRecDepth 100000 in
theorem dotCompareG (x y : Dt) (w : World) : Calls Try.prog 20 #[.agg (dvs x).toArray, .agg (dvs y).toArray] w fun e w' => e = .returned (.int .i64 (cmpD x.1 x.2 y.1 y.2)) ∧ Grew w w' := by
  obtain ⟨r, n⟩ := x
  obtain ⟨r', n'⟩ := y
  simp only [dvs]
  go_enter Try.func20, Try.ntmps20
  go_wp2
  have hA := heap_alloc_new w (.cells #[.int .i64 r, .int .i64 n] 28)
  have hB := heap_alloc_new (w.alloc (.cells #[.int .i64 r, .int .i64 n] 28)) (.cells #[.int .i64 r', .int .i64 n'] 28)
  have hbel : Grew w ((w.alloc (.cells #[.int .i64 r, .int .i64 n] 28)).alloc (.cells #[.int .i64 r', .int .i64 n'] 28)) := ((Grew.refl w).alloc _).alloc _
  have hz : (w.alloc (.cells #[.int .i64 r, .int .i64 n] 28)).heap.size = w.heap.size + 1 := by simp
  have hz2 : ((w.alloc (.cells #[.int .i64 r, .int .i64 n] 28)).alloc (.cells #[.int .i64 r', .int .i64 n'] 28)).heap.size = w.heap.size + 2 := by simp
  rw [hz] at hB
  have a0 := cell_alloc (.cells #[.int .i64 r', .int .i64 n'] 28) ((cell_of_row _ w.heap.size 0 _ _ _ hA).trans (show _ = some (.int .i64 r) from rfl))
  have a1 := cell_alloc (.cells #[.int .i64 r', .int .i64 n'] 28) ((cell_of_row _ w.heap.size 1 _ _ _ hA).trans (show _ = some (.int .i64 n) from rfl))
  have b0 := (cell_of_row _ (w.heap.size + 1) 0 _ _ _ hB).trans (show _ = some (.int .i64 r') from rfl)
  have b1 := (cell_of_row _ (w.heap.size + 1) 1 _ _ _ hB).trans (show _ = some (.int .i64 n') from rfl)
  generalize (w.alloc (.cells #[.int .i64 r, .int .i64 n] 28)).alloc (.cells #[.int .i64 r', .int .i64 n'] 28) = w2 at hbel hz2 a0 a1 b0 b1 ⊢
  have B2 := Lib.hid hbel
  have a0 := cell_grown (show w.heap.size < w2.heap.size by omega) a0; have a1 := cell_grown (show w.heap.size < w2.heap.size by omega) a1; have b0 := cell_grown (show w.heap.size + 1 < w2.heap.size by omega) b0; have b1 := cell_grown (show w.heap.size + 1 < w2.heap.size by omega) b1
  clear hA hB hz hz2
  have c1 : ∀ (n : Nat) (os : Array Obj), Calls Try.prog 35 #[.int .i64 r, .int .i64 r'] (Sort.grow (w2.drewN n) os) fun e w'' => e = .returned (.int .i64 (cmpI r r')) ∧ ∃ p : GrownBy, w'' = Sort.grow (w2.drewN p.n) p.os :=
    fun n os => Calls.grown_of ((compare_is r r' _).mono fun e w' ⟨h1, h2⟩ => ⟨h1, 0, #[], by rw [Sort.grow_empty]; exact h2.symm⟩)
  have c2 : ∀ (k : Nat) (os : Array Obj), Calls Try.prog 35 #[.int .i64 n, .int .i64 n'] (Sort.grow (w2.drewN k) os) fun e w'' => e = .returned (.int .i64 (cmpI n n')) ∧ ∃ p : GrownBy, w'' = Sort.grow (w2.drewN p.n) p.os :=
    fun k os => Calls.grown_of ((compare_is n n' _).mono fun e w' ⟨h1, h2⟩ => ⟨h1, 0, #[], by rw [Sort.grow_empty]; exact h2.symm⟩)
  have HD : Hid (cmpD r n r' n' = orI (cmpI r r') (cmpI n n')) := rfl
  generalize cmpI r r' = x at c1 HD
  generalize cmpI n n' = y at c2 HD
  refine wp_region_tail (C := fun w' => ∃ p : GrownBy, w' = Sort.grow (w2.drewN p.n) p.os) 10 (by kernel_rfl) (by kernel_rfl) ⟨⟨1, #[]⟩, by rw [Sort.grow_empty]; rfl⟩ ?_
  simp only [List.take_succ_cons, List.take_zero, List.drop_succ_cons, List.drop_zero]
  iterate 4 (quiet_step (fail))
  quiet_step (exact c1 _ _)
  iterate 4 (quiet_step (fail))
  quiet_step (exact c2 _ _)
  refine wpQuiet_nil ?_
  rintro _ ⟨⟨dq, osq⟩, rfl⟩
  have B3 := Lib.hid (B2.out.grow dq osq)
  generalize Sort.grow (w2.drewN dq) osq = w3 at B3 ⊢
  clear a0 a1 b0 b1 c1 c2
  have hO := Lib.hid (or_is w3.heap.size x y (w3.alloc (.cells #[.int .i64 x, .int .i64 y] 3)) ((cell_of_row _ w3.heap.size 0 _ _ _ (heap_alloc_new w3 _)).trans rfl) ((cell_of_row _ w3.heap.size 1 _ _ _ (heap_alloc_new w3 _)).trans rfl))
  have B4 := Lib.hid (B3.out.alloc (.cells #[.int .i64 x, .int .i64 y] 3))
  go_wp2_with fail
  refine hO.out.mono ?_
  rintro e w' ⟨rfl, rfl⟩
  go_wp2
  go_ret
  exact ⟨by rw [HD.out]; rfl, B4.out⟩

def cfD (x y : Dt) : Int := cmpD x.1 x.2 y.1 y.2
theorem ltOf_cfD (x y : Dt) : ltOf cfD x y = ltD x y := cmpD_lt x.1 x.2 y.1 y.2
theorem swoD : Sort.SWO (ltOf cfD) where
  irrefl x := by rw [ltOf_cfD]; exact ltD_irrefl x
  trans x y z h1 h2 := by rw [ltOf_cfD] at *; exact ltD_trans h1 h2
  ntrans x y z h1 h2 := by
    rw [ltOf_cfD] at *
    rw [← Bool.not_eq_true, ltD_iff] at *
    omega
end Go.Proofs.Ytnfknnkhabjciaa
