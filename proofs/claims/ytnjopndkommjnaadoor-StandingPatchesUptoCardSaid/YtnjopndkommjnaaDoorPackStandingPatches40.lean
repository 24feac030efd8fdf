/- The statement StandingPatches, proved for every input that its row reads: part 40 of 54. -/
import Derived.Test.YtnjopndkommjnaaDoorPackStandingPatches32
import Derived.Test.YtnjopndkommjnaaDoorStdHitLays
import Derived.Shelf.SlSortCmp.QuietGrown
/- slices.SortFunc of hits by standing.inOrder's closure. -/
namespace Go.Proofs.YtnjopndkommjnaaDoor
open Go Go.RowKit
set_option linter.unusedVariables false
set_option maxRecDepth 1000000

/-- the worlds that draws and blocks of one's own make -/
def Grew (w w' : World) : Prop := ∃ q os, w' = Sort.grow (w.drewN q) os
theorem Grew.refl (w : World) : Grew w w := ⟨0, #[], by rw [Sort.grow_empty]; rfl⟩
theorem Grew.alloc {w w' : World} (h : Grew w w') (o : Obj) : Grew w (w'.alloc o) := by
  obtain ⟨q, os, rfl⟩ := h
  exact ⟨q, os ++ #[o], by rw [Sort.alloc_eq_grow, Sort.grow_grow]⟩
theorem Grew.trans {a b c : World} (h : Grew a b) (k : Grew b c) : Grew a c := by
  obtain ⟨q, os1, rfl⟩ := h
  obtain ⟨n, os, rfl⟩ := k
  exact ⟨q + n, os1 ++ os, by show Sort.grow (Sort.grow ((a.drewN q).drewN n) os1) os = _; rw [Sort.grow_grow, World.drewN_drewN]⟩
theorem Grew.below {w w' : World} (h : Grew w w') : Below w.heap.size w w' := by
  obtain ⟨k, os, rfl⟩ := h
  exact ⟨rfl, rfl, rfl, by show w.heap.size ≤ (w.heap ++ os).size; simp, fun i hi => by
    show (w.heap ++ os)[i]? = w.heap[i]?
    exact Array.getElem?_append_left hi⟩
theorem lessG_is (x y : Ht) (w : World) : Calls Tryd.prog 26 #[.agg x.cells.toArray, .agg y.cells.toArray] w (fun e w' => e = .returned (.bool (ltH x y)) ∧ Grew w w') := by
  obtain ⟨xi, xs⟩ := x
  obtain ⟨yi, ys⟩ := y
  change Calls Tryd.prog 26 #[.agg #[.string xi, .int .i64 xs], .agg #[.string yi, .int .i64 ys]] w _
  by_cases h1 : ys < xs
  · have e : ltH ⟨xi, xs⟩ ⟨yi, ys⟩ = true := by unfold ltH; simp [h1]
    rw [e]
    go_enter Tryd.func26, Tryd.ntmps26
    go_wp2
    go_ret
    exact ⟨rfl, ((Grew.refl w).alloc _).alloc _⟩
  · by_cases h2 : xs = ys
    · subst h2
      cases h3 : ltB xi yi with
      | true =>
        have e : ltH ⟨xi, xs⟩ ⟨yi, xs⟩ = true := by unfold ltH; simp [h3]
        have h3' : Op.bytesLess xi.toList yi.toList = true := h3
        rw [e]
        clear e h3
        go_enter Tryd.func26, Tryd.ntmps26
        go_wp2
        go_ret
        exact ⟨rfl, ((Grew.refl w).alloc _).alloc _⟩
      | false =>
        have e : ltH ⟨xi, xs⟩ ⟨yi, xs⟩ = false := by unfold ltH; simp [h3]
        have h3' : Op.bytesLess xi.toList yi.toList = false := h3
        rw [e]
        clear e h3
        go_enter Tryd.func26, Tryd.ntmps26
        go_wp2
        go_ret
        exact ⟨rfl, ((Grew.refl w).alloc _).alloc _⟩
    · have e : ltH ⟨xi, xs⟩ ⟨yi, ys⟩ = false := by unfold ltH; simp [h1, h2]
      rw [e]
      go_enter Tryd.func26, Tryd.ntmps26
      go_wp2
      go_ret
      exact ⟨rfl, ((Grew.refl w).alloc _).alloc _⟩
/-- how two hits stand, as the closure says it -/
def cfH (x y : Ht) : Int := if ltH x y then -1 else if ltH y x then 1 else 0
theorem ltOf_cfH (x y : Ht) : ltOf cfH x y = ltH x y := by
  unfold ltOf cfH
  cases e : ltH x y with
  | true => simp
  | false => cases e2 : ltH y x <;> simp
theorem swoH : Sort.SWO (ltOf cfH) where
  irrefl := fun x => by rw [ltOf_cfH]; exact sw_H.irr x
  trans := fun x y z h1 h2 => by rw [ltOf_cfH] at *; exact sw_H.tr x y z h1 h2
  ntrans := fun x y z h1 h2 => by rw [ltOf_cfH] at *; exact sw_H.ng x y z h1 h2
set_option maxHeartbeats 1000000 in
theorem orderG (x y : Ht) (w : World) : Calls Tryd.prog 38 #[.agg x.cells.toArray, .agg y.cells.toArray] w (fun e w' => e = .returned (.int .i64 (cfH x y)) ∧ Grew w w') := by
  have L1 := Lib.hid (lessG_is x y); have L2 := Lib.hid (lessG_is y x)
  have e1 : cfH x y = if ltH x y then -1 else if ltH y x then 1 else 0 := rfl
  rw [e1]
  clear e1
  generalize ltH x y = a at L1
  generalize ltH y x = b at L2
  obtain ⟨xi, xs⟩ := x
  obtain ⟨yi, ys⟩ := y
  have L1 : Hid (∀ V : World, Calls Tryd.prog 26 #[.agg #[.string xi, .int .i64 xs], .agg #[.string yi, .int .i64 ys]] V (fun e w' => e = .returned (.bool a) ∧ Grew V w')) := L1
  have L2 : Hid (∀ V : World, Calls Tryd.prog 26 #[.agg #[.string yi, .int .i64 ys], .agg #[.string xi, .int .i64 xs]] V (fun e w' => e = .returned (.bool b) ∧ Grew V w')) := L2
  change Calls Tryd.prog 38 #[.agg #[.string xi, .int .i64 xs], .agg #[.string yi, .int .i64 ys]] w _
  go_enter Tryd.func38, Tryd.ntmps38
  have G2 : Hid (Grew w ((w.alloc (.cells #[.string xi, .int .i64 xs] 28)).alloc (.cells #[.string yi, .int .i64 ys] 28))) := Lib.hid (((Grew.refl w).alloc _).alloc _)
  have k1 := heap_alloc_new w (.cells #[.string xi, .int .i64 xs] 28)
  have k2 := heap_alloc_new (w.alloc (.cells #[.string xi, .int .i64 xs] 28)) (.cells #[.string yi, .int .i64 ys] 28)
  have z1 : (w.alloc (.cells #[.string xi, .int .i64 xs] 28)).heap.size = w.heap.size + 1 := by simp
  have k1' := ((below_alloc (w.alloc (.cells #[.string xi, .int .i64 xs] 28)) (.cells #[.string yi, .int .i64 ys] 28)).block w.heap.size (by rw [z1]; omega)).trans k1
  rw [z1] at k2
  have R1 := Lib.hid (range_of_block k1'); have R2 := Lib.hid (range_of_block k2)
  clear k1 k2 k1' z1
  go_wp2_with fail
  generalize (w.alloc (.cells #[.string xi, .int .i64 xs] 28)).alloc (.cells #[.string yi, .int .i64 ys] 28) = w2 at G2 R1 R2 ⊢
  refine (L1.out _).mono ?_
  rintro e w3 ⟨rfl, g3⟩
  have G3 := Lib.hid (G2.out.trans g3)
  have R13 := Lib.hid (range_below R1.out g3.below); have R23 := Lib.hid (range_below R2.out g3.below)
  clear g3 G2 R1 R2 L1
  dsimp only
  cases a with
  | true =>
    go_wp2
    go_ret
    exact ⟨rfl, G3.out⟩
  | false =>
    have R13 : Hid (w3.rangeAt w.heap.size 0 [.string xi, .int .i64 xs]) := R13
    have R23 : Hid (w3.rangeAt (w.heap.size + 1) 0 [.string yi, .int .i64 ys]) := R23
    go_wp2_with (first | refine wpList_gload rfl _ rfl w.heap.size 0 rfl _ R13.out _ Tryd.underlying28 rfl (sizeHt ⟨xi, xs⟩) ?_ | refine wpList_gload rfl _ rfl (w.heap.size + 1) 0 rfl _ R23.out _ Tryd.underlying28 rfl (sizeHt ⟨yi, ys⟩) ?_)
    refine (L2.out _).mono ?_
    rintro e w4 ⟨rfl, g4⟩
    have G4 := Lib.hid (G3.out.trans g4)
    clear g4 G3 R13 R23 L2
    dsimp only
    cases b with
    | true =>
      go_wp2
      go_ret
      exact ⟨rfl, G4.out⟩
    | false =>
      go_wp2
      go_ret
      exact ⟨rfl, G4.out⟩
instance : Inhabited Ht := ⟨⟨ByteArray.empty, 0⟩⟩
theorem flat_hcl (L : List Ht) : (Sort.flatK Ht.cells 2 L.toArray).toList = hcl L := by
  apply List.ext_getElem?
  intro j
  by_cases hj : j < L.length * 2
  · have hi : j / 2 < L.length := by omega
    have h1 := flat_get Ht.cells_len L (j / 2) hi (j % 2) (by omega)
    rw [show j / 2 * 2 + j % 2 = j by omega] at h1
    change (hcl L)[j]? = _ at h1
    rw [h1]
    have h2 := Sort.get_flatK Ht.cells 2 L.toArray j (by simpa using hj)
    have e1 : L.toArray[j / 2]! = L[j / 2] := by simp [hi]
    rw [e1] at h2
    have hs : j < (Sort.flatK Ht.cells 2 L.toArray).size := by simpa using hj
    rw [Array.getElem?_toList, Array.getElem?_eq_getElem hs]
    rw [getElem!_pos (Sort.flatK Ht.cells 2 L.toArray) j hs] at h2
    rw [h2]
    have hc : j % 2 < (L[j / 2]).cells.length := by rw [Ht.cells_len]; omega
    rw [getElem!_pos (L[j / 2]).cells (j % 2) hc, List.getElem?_eq_getElem hc]
  · rw [List.getElem?_eq_none (by rw [Array.length_toList]; simp; omega), List.getElem?_eq_none (by rw [hcl_length]; omega)]
theorem holds_hcl {w : World} {B g c : Nat} {L : List Ht} (h : w.ownsRow B 28 2 (.slice (some ⟨g, 0, none⟩) L.length c) L.length (hcl L)) : Sort.HoldsK Ht.cells 2 w g 0 L.toArray := by
  intro j hj
  rw [Sort.size_flatK] at hj
  have hj' : j < L.length * 2 := by simpa using hj
  have hs : j < (Sort.flatK Ht.cells 2 L.toArray).size := by simpa using hj'
  refine ⟨?_, by rw [Nat.zero_add]; exact h.frozenAt j⟩
  rw [Nat.zero_add, h.cellAt j hj', ← flat_hcl, Array.getElem?_toList, Array.getElem?_eq_getElem hs, getElem!_pos (Sort.flatK Ht.cells 2 L.toArray) j hs]
  rfl
theorem heap_sortedK {w : World} {g n : Nat} {os : Array Obj} {cur : Array Value} {e : TypeId} {fr : Nat × Nat} (F : Array Value) (hb : w.heap[g]? = some (.cells cur e fr)) :
    (Sort.grow (Sort.putRow id (Sort.ahead w n) g 0 F) os).heap[g]? = some (.cells (Sort.putCells id 0 F cur) e fr) := by
  have hg : g < w.heap.size := (Array.getElem?_eq_some_iff.1 hb).1
  rw [Sort.heap_grow_old _ _ (by simpa using hg)]
  simp [Sort.putRow, Sort.mapBlock, Sort.ahead, Array.getElem?_modify, hb, Sort.onCells]
theorem take_putCellsK (cur F : Array Value) (h : F.size ≤ cur.size) : (Sort.putCells id 0 F cur).toList.take F.size = F.toList := by
  apply List.ext_getElem?
  intro j
  by_cases hj : j < F.size
  · rw [List.getElem?_take_of_lt hj, Array.getElem?_toList]
    simp [Sort.putCells, hj, show j < cur.size by omega]
  · rw [List.getElem?_take_eq_none (by omega), List.getElem?_eq_none (by simp; omega)]
theorem sortHits_is (B : Nat) (p : Option Addr) (c : Nat) (L : List Ht) (w : World) (h : w.ownsRow B 28 2 (.slice p L.length c) L.length (hcl L)) (hn : L.length ≤ 1000000) (hB : B ≤ w.heap.size) :
    Calls Tryd.prog 37 #[.slice p L.length c, .func (.func 38) #[] #[]] w (fun e w' => e = .returned (.tuple #[]) ∧ w'.ownsRow B 28 2 (.slice p L.length c) L.length (hcl (sortH L)) ∧ Below B w w') := by
  rcases h.2 with ⟨h0, h1⟩ | ⟨g, cap, cur, h0, hg, hb, hc, hm, hs, ht⟩
  · injection h0 with h0 h2 h3
    subst h0
    obtain rfl := List.eq_nil_of_length_eq_zero h2
    subst h3
    refine (AnyF.slices_SortFunc_none Tryd.laysSort none 0 _ w).mono ?_
    rintro e w' ⟨rfl, rfl⟩
    exact ⟨rfl, h, Below.refl _ _⟩
  · injection h0 with h0 h2 h3
    subst h0
    subst h3
    have hlt : g < w.heap.size := (Array.getElem?_eq_some_iff.1 hb).1
    have eg : ∀ args w, (callFunc 38 args).run Tryd.prog w = .ok (.enter 38 args) w := enters_of Tryd.func38 (by kernel_rfl) rfl
    have hcmp : CmpLays Tryd.prog 38 #[] Ht.cells 2 cfH g 0 L.toArray.size w := fun m os dk hs x y => orderG x y _
    have hc2 := AnyQ.slices_SortFunc_total Tryd.laysSort 2 Tryd.isAgg28 Tryd.sizeOf28 Ht.cells Ht.cells_len (fun x v hv => x.cells_one v hv) cfH swoH 38 #[] g 0 c L.toArray w eg hcmp (holds_hcl h) hlt (by simp; omega)
      (fun x y h1 h2 => by rw [ltOf_cfH] at h1 h2; exact ltH_tot h1 h2)
    have hsz : L.toArray.size = L.length := by simp
    rw [hsz] at hc2
    refine hc2.mono ?_
    rintro e w' ⟨rfl, n, os, rfl⟩
    have hS : L.mergeSort (fun x y => !(ltOf cfH) y x) = sortH L := by
      refine srtH_unique ?_ (sortH_srt L) ((List.mergeSort_perm _ _).trans (sortH_perm L).symm)
      have := List.pairwise_mergeSort (le := fun x y => !(ltOf cfH) y x)
        (fun a b c h1 h2 => by
          simp only [Bool.not_eq_true', ltOf_cfH] at *
          exact sw_H.ng _ _ _ h2 h1)
        (fun a b => by
          simp only [ltOf_cfH]
          cases h1 : ltH b a with
          | false => rfl
          | true => rw [sw_H.asym h1]; rfl) L
      exact this.imp fun {a b} hab => by simpa [ltOf_cfH] using hab
    have hL : L.toArray.toList = L := rfl
    rw [hL, hS]
    have hsl : (sortH L).length = L.length := (sortH_perm L).length_eq
    have hF : (Sort.flatK Ht.cells 2 (sortH L).toArray).size = L.length * 2 := by simp [hsl]
    refine ⟨rfl, ⟨by rw [hcl_length, hsl], .inr ⟨g, c, _, rfl, hg, heap_sortedK _ hb, hc, hm, by simp [Sort.putCells, hs], ?_⟩⟩, ?_⟩
    · rw [← flat_hcl, ← hF]
      exact take_putCellsK cur _ (by rw [hF, hs]; exact Nat.mul_le_mul_right 2 hc)
    · refine ⟨rfl, rfl, rfl, by simp [sortWorldK, Sort.putRowK], fun k hk => ?_⟩
      show (Sort.grow (Sort.putRow id (Sort.ahead w n) g 0 _) os).heap[k]? = _
      rw [Sort.heap_grow_old _ _ (by simp; omega)]
      have : g ≠ k := by omega
      simp [Sort.putRow, Sort.mapBlock, Sort.ahead, Array.getElem?_modify, this]
end Go.Proofs.YtnjopndkommjnaaDoor
