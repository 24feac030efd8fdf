/- The statement DocsReads, proved for every input that its row reads: part 30 of 54. -/
import Derived.Test.YtijmijokgenflaaGreatDoorPackDocsReads7
import Derived.Test.YtijmijokgenflaaGreatDoorDotSLays
import Derived.BigRegion
import Derived.Shelf.SlSortCmp.QuietGrown
import Derived.Test.YtijmijokgenflaaGreatDoorPackDocsReads6
import Derived.Lib.SliceRun
/- slices.SortFunc of any dots of the call's own. -/
namespace Go.Proofs.YtijmijokgenflaaGreatDoor
open Go Go.RowKit
set_option linter.unusedVariables false

/-- the worlds that draws and blocks of one's own make -/
def Grew (w w' : World) : Prop := ∃ q os, w' = Sort.grow (w.drewN q) os
theorem Grew.refl (w : World) : Grew w w := ⟨0, #[], by rw [Sort.grow_empty]; rfl⟩
theorem Grew.alloc {w w' : World} (h : Grew w w') (o : Obj) : Grew w (w'.alloc o) := by
  obtain ⟨q, os, rfl⟩ := h
  exact ⟨q, os ++ #[o], by rw [Sort.alloc_eq_grow, Sort.grow_grow]⟩
theorem Grew.grow {w w' : World} (h : Grew w w') (n : Nat) (os : Array Obj) : Grew w (Sort.grow (w'.drewN n) os) := by
  obtain ⟨q, os1, rfl⟩ := h
  exact ⟨q + n, os1 ++ os, by show Sort.grow (Sort.grow ((w.drewN q).drewN n) os1) os = _; rw [Sort.grow_grow, World.drewN_drewN]⟩

set_option maxHeartbeats 1000000 in
set_option maxRecDepth 100000 in
theorem dotCompareG (x y : Dt) (w : World) : Calls Tryz.prog 30 #[.agg (dvs x).toArray, .agg (dvs y).toArray] w fun e w' => e = .returned (.int .i64 (cmpD x.1 x.2 y.1 y.2)) ∧ Grew w w' := by
  obtain ⟨r, n⟩ := x
  obtain ⟨r', n'⟩ := y
  simp only [dvs]
  go_enter Tryz.func30, Tryz.ntmps30
  go_wp2
  have hA := heap_alloc_new w (.cells #[.int .i64 r, .int .i64 n] 37)
  have hB := heap_alloc_new (w.alloc (.cells #[.int .i64 r, .int .i64 n] 37)) (.cells #[.int .i64 r', .int .i64 n'] 37)
  have hbel : Grew w ((w.alloc (.cells #[.int .i64 r, .int .i64 n] 37)).alloc (.cells #[.int .i64 r', .int .i64 n'] 37)) := ((Grew.refl w).alloc _).alloc _
  have hz : (w.alloc (.cells #[.int .i64 r, .int .i64 n] 37)).heap.size = w.heap.size + 1 := by simp
  have hz2 : ((w.alloc (.cells #[.int .i64 r, .int .i64 n] 37)).alloc (.cells #[.int .i64 r', .int .i64 n'] 37)).heap.size = w.heap.size + 2 := by simp
  rw [hz] at hB
  have a0 := cell_alloc (.cells #[.int .i64 r', .int .i64 n'] 37) ((cell_of_row _ w.heap.size 0 _ _ _ hA).trans (show _ = some (.int .i64 r) from rfl))
  have a1 := cell_alloc (.cells #[.int .i64 r', .int .i64 n'] 37) ((cell_of_row _ w.heap.size 1 _ _ _ hA).trans (show _ = some (.int .i64 n) from rfl))
  have b0 := (cell_of_row _ (w.heap.size + 1) 0 _ _ _ hB).trans (show _ = some (.int .i64 r') from rfl)
  have b1 := (cell_of_row _ (w.heap.size + 1) 1 _ _ _ hB).trans (show _ = some (.int .i64 n') from rfl)
  generalize (w.alloc (.cells #[.int .i64 r, .int .i64 n] 37)).alloc (.cells #[.int .i64 r', .int .i64 n'] 37) = w2 at hbel hz2 a0 a1 b0 b1 ⊢
  have B2 := Lib.hid hbel
  have a0 := cell_grown (show w.heap.size < w2.heap.size by omega) a0; have a1 := cell_grown (show w.heap.size < w2.heap.size by omega) a1; have b0 := cell_grown (show w.heap.size + 1 < w2.heap.size by omega) b0; have b1 := cell_grown (show w.heap.size + 1 < w2.heap.size by omega) b1
  clear hA hB hz hz2
  have c1 : ∀ (n : Nat) (os : Array Obj), Calls Tryz.prog 59 #[.int .i64 r, .int .i64 r'] (Sort.grow (w2.drewN n) os) fun e w'' => e = .returned (.int .i64 (cmpI r r')) ∧ ∃ p : GrownBy, w'' = Sort.grow (w2.drewN p.n) p.os :=
    fun n os => Calls.grown_of ((compare_is r r' _).mono fun e w' ⟨h1, h2⟩ => ⟨h1, 0, #[], by rw [Sort.grow_empty]; exact h2.symm⟩)
  have c2 : ∀ (k : Nat) (os : Array Obj), Calls Tryz.prog 59 #[.int .i64 n, .int .i64 n'] (Sort.grow (w2.drewN k) os) fun e w'' => e = .returned (.int .i64 (cmpI n n')) ∧ ∃ p : GrownBy, w'' = Sort.grow (w2.drewN p.n) p.os :=
    fun k os => Calls.grown_of ((compare_is n n' _).mono fun e w' ⟨h1, h2⟩ => ⟨h1, 0, #[], by rw [Sort.grow_empty]; exact h2.symm⟩)
  have HD : Hid (cmpD r n r' n' = orI (cmpI r r') (cmpI n n')) := rfl
  generalize cmpI r r' = x at c1 HD
  generalize cmpI n n' = y at c2 HD
  refine wp_region_tail (C := fun w' => ∃ p : GrownBy, w' = Sort.grow (w2.drewN p.n) p.os) 10 (by kernel_rfl) (by kernel_rfl) ⟨⟨1, #[]⟩, by rw [Sort.grow_empty]; rfl⟩ ?_
  simp only [List.take_succ_cons, List.take_zero, List.drop_succ_cons, List.drop_zero]
  iterate 4 (quiet_step (fail))
  quiet_step (exact c1 _ _)
  iterate 4 (quiet_step (fail))
  quiet_step (exact c2 _ _)
  refine wpQuiet_nil ?_
  rintro _ ⟨⟨dq, osq⟩, rfl⟩
  have B3 := Lib.hid (B2.out.grow dq osq)
  generalize Sort.grow (w2.drewN dq) osq = w3 at B3 ⊢
  clear a0 a1 b0 b1 c1 c2
  have hO := Lib.hid (or_is w3.heap.size x y (w3.alloc (.cells #[.int .i64 x, .int .i64 y] 3)) ((cell_of_row _ w3.heap.size 0 _ _ _ (heap_alloc_new w3 _)).trans rfl) ((cell_of_row _ w3.heap.size 1 _ _ _ (heap_alloc_new w3 _)).trans rfl))
  have B4 := Lib.hid (B3.out.alloc (.cells #[.int .i64 x, .int .i64 y] 3))
  go_wp2_with fail
  refine hO.out.mono ?_
  rintro e w' ⟨rfl, rfl⟩
  go_wp2
  go_ret
  exact ⟨by rw [HD.out]; rfl, B4.out⟩

def cfD (x y : Dt) : Int := cmpD x.1 x.2 y.1 y.2
theorem ltOf_cfD (x y : Dt) : ltOf cfD x y = ltD x y := cmpD_lt x.1 x.2 y.1 y.2
theorem swoD : Sort.SWO (ltOf cfD) where
  irrefl x := by rw [ltOf_cfD]; exact ltD_irrefl x
  trans x y z h1 h2 := by rw [ltOf_cfD] at *; exact ltD_trans h1 h2
  ntrans x y z h1 h2 := by
    rw [ltOf_cfD] at *
    rw [← Bool.not_eq_true, ltD_iff] at *
    omega
theorem grown_sortWorld (w : World) (g m : Nat) (d : Array Dt) (os : Array Obj) : w.grownBy (sortWorldK dvs 2 w g 0 m d os) (some g) := by
  refine ⟨rfl, rfl, rfl, size_sortWorldK_c dvs 2 w g 0 m d os, fun k hk hne => ?_⟩
  have hne' : ¬ g = k := fun e => hne (by rw [e])
  show ((w.heap.modify g _) ++ os)[k]? = _
  rw [Array.getElem?_append_left (by simpa using hk), Array.getElem?_modify, if_neg hne']
theorem flat_getD (l : List Dt) (j : Nat) (hj : j < l.length * 2) : ∃ u, (dcl l)[j]? = some u ∧ (Sort.flatK dvs 2 l.toArray)[j]! = u := by
  obtain ⟨u, hu⟩ : ∃ u, (dcl l)[j]? = some u := ⟨_, List.getElem?_eq_getElem (by rw [dcl_length]; exact hj)⟩
  refine ⟨u, hu, ?_⟩
  rw [Sort.get_flatK dvs 2 l.toArray j (by simpa using hj)]
  have hi : j / 2 < l.length := by omega
  have e1 : l.toArray[j / 2]! = l[j / 2] := by simp [hi]
  rw [e1]
  obtain ⟨g1, g2⟩ := dcl_get l (j / 2) hi
  rcases Nat.mod_two_eq_zero_or_one j with e | e
  · rw [show j / 2 * 2 = j from by omega, hu] at g1
    rw [e, Option.some.inj g1]; rfl
  · rw [show j / 2 * 2 + 1 = j from by omega, hu] at g2
    rw [e, Option.some.inj g2]; rfl
theorem OwnD.holds {w : World} {g : Nat} {l : List Dt} (h : OwnD w g l) : Sort.HoldsK dvs 2 w g 0 l.toArray := by
  intro j hj
  rw [Sort.size_flatK] at hj
  have hj' : j < l.length * 2 := by simpa using hj
  obtain ⟨u, h1, h2⟩ := flat_getD l j hj'
  refine ⟨?_, by rw [Nat.zero_add]; exact h.free j hj'⟩
  rw [h2]; exact h.range j u h1
theorem OwnD.of_holds {w : World} {g : Nat} {l : List Dt} (h : Sort.HoldsK dvs 2 w g 0 l.toArray) (hlt : g < w.heap.size) : OwnD w g l := by
  refine ⟨fun j u hu => ?_, fun j hj => ?_, hlt⟩
  · have hj : j < l.length * 2 := by rw [← dcl_length]; exact (List.getElem?_eq_some_iff.1 hu).1
    obtain ⟨v, h1, h2⟩ := flat_getD l j hj
    rw [hu] at h1
    obtain rfl := Option.some.inj h1
    have := (h j (by rw [Sort.size_flatK]; simpa using hj)).1
    rw [h2] at this; exact this
  · have := (h j (by rw [Sort.size_flatK]; simpa using hj)).2
    rwa [Nat.zero_add] at this

/-- put in order -/
def Ordered (l S : List Dt) : Prop := S.Perm l ∧ S.Pairwise fun a b => ltD b a = false
theorem sortD_is (g cap : Nat) (l : List Dt) (w : World) (h : OwnD w g l) (hlen : l.length ≤ 10000) :
    Calls Tryz.prog 29 #[.slice (some ⟨g, 0, none⟩) l.length cap, .func (.func 30) #[] #[]] w
      fun e w' => e = .returned (.tuple #[]) ∧ ∃ S, Ordered l S ∧ OwnD w' g S ∧ w.grownBy w' (some g) := by
  have eg : ∀ args w, (callFunc 30 args).run Tryz.prog w = .ok (.enter 30 args) w := enters_of Tryz.func30 (by kernel_rfl) rfl
  have hcmp : CmpLays Tryz.prog 30 #[] dvs 2 cfD g 0 l.toArray.size w := fun m os dk hs x y => dotCompareG x y _
  have hc := AnyQ.slices_SortFunc_total Tryz.laysSort 2 Tryz.isAgg37 Tryz.sizeOf37 dvs (fun _ => rfl) (fun x v hv => by simp [dvs] at hv; rcases hv with rfl | rfl <;> rfl) cfD swoD 30 #[] g 0 cap l.toArray w eg hcmp h.holds h.lt (by simp; omega)
    (fun x y h1 h2 => by rw [ltOf_cfD] at h1 h2; exact ltD_or x y h1 h2)
  have hsz : l.toArray.size = l.length := by simp
  rw [hsz] at hc
  refine hc.mono ?_
  rintro e w' ⟨rfl, n, os, rfl⟩
  refine ⟨rfl, l.mergeSort (fun x y => !(ltOf cfD) y x), ⟨List.mergeSort_perm _ _, ?_⟩, ?_, grown_sortWorld w g n _ os⟩
  · have := List.pairwise_mergeSort (le := fun x y => !(ltOf cfD) y x)
      (fun a b c h1 h2 => by
        simp only [Bool.not_eq_true', ltOf_cfD] at *
        rw [← Bool.not_eq_true, ltD_iff] at *; omega)
      (fun a b => by
        simp only [ltOf_cfD]
        cases h1 : ltD b a with
        | false => rfl
        | true =>
          cases h2 : ltD a b with
          | false => rfl
          | true => have := ltD_trans h1 h2; rw [ltD_irrefl] at this; cases this) l
    refine this.imp fun {a b} hab => ?_
    simpa [ltOf_cfD] using hab
  · exact OwnD.of_holds (holdsK_sortWorldK_c dvs 2 w g 0 l.toArray (l.mergeSort fun x y => !(ltOf cfD) y x).toArray n os h.holds h.lt (by simp)) (Nat.lt_of_lt_of_le h.lt (size_sortWorldK_c dvs 2 w g 0 n _ os))
theorem sortNone_is (p : Option Addr) (cap : Nat) (fv : Value) (w : World) : Calls Tryz.prog 29 #[.slice p 0 cap, fv] w fun e w' => e = .returned (.tuple #[]) ∧ w = w' :=
  (AnyF.slices_SortFunc_none Tryz.laysSort p cap fv w).mono fun e w' ⟨h1, h2⟩ => ⟨h1, h2.symm⟩
end Go.Proofs.YtijmijokgenflaaGreatDoor
/- slices.Compact of any dots. -/
namespace Go.Proofs.YtijmijokgenflaaGreatDoor
open Go Go.RowKit
set_option linter.unusedVariables false

theorem setCells_grown (g : Nat) : ∀ (vs : List Value) (o : Nat) (w : World), w.grownBy (w.setCells g o vs) (some g) ∧ (∀ j, j < o → (w.setCells g o vs).cell? ⟨g, j, none⟩ = w.cell? ⟨g, j, none⟩) ∧ ∀ a, (w.setCells g o vs).frozen? a = w.frozen? a
  | [], o, w => ⟨⟨rfl, rfl, rfl, Nat.le_refl _, fun _ _ _ => rfl⟩, fun _ _ => rfl, fun _ => rfl⟩
  | v :: vs, o, w => by
    obtain ⟨h1, h2, h3⟩ := setCells_grown g vs (o + 1) (w.setCell ⟨g, o, none⟩ v)
    refine ⟨grown_then (grown_cell w g o v) h1, fun j hj => ?_, fun a => ?_⟩
    · show ((w.setCell ⟨g, o, none⟩ v).setCells g (o + 1) vs).cell? _ = _
      rw [h2 j (by omega), World.cell?_setCell_other _ _ _ _ (by intro e; cases e; omega)]
    · show ((w.setCell ⟨g, o, none⟩ v).setCells g (o + 1) vs).frozen? _ = _
      rw [h3 a, World.frozen?_setCell]
theorem run_clearD (w : World) (ty : TypeId) (b o n c : Nat) (hn : 0 < n) (hc : ∀ j, j < n * 2 → (w.cell? ⟨b, o + j, none⟩).isSome = true) (hf : ∀ j, j < n * 2 → w.frozen? ⟨b, o + j, none⟩ = false) :
    (Builtin.clear_ #[41] ty #[.slice (some ⟨b, o, none⟩) n c]).run Tryz.prog w = .ok (.tuple #[]) (w.setCells b o (List.replicate (n * 2) (.int .i64 0))) := by
  have hv : ∀ w, (zeroValue 37).run Tryz.prog w = .ok (.agg #[.int .i64 0, .int .i64 0]) w := fun w => by kernel_rfl
  have hzc : (Builtin.zeroCells (Value.agg #[.int .i64 0, .int .i64 0]).cells n).toList = List.replicate (n * 2) (.int .i64 0) := by
    simp [Builtin.zeroCells, Value.cells]
    apply List.ext_getElem
    · simp
    · intro i h1 h2
      simp
      rcases Nat.mod_two_eq_zero_or_one i with e | e <;> simp [e]
  have hst := run_storeCells_cells (P := Tryz.prog) b o (List.replicate (n * 2) (.int .i64 0)) 0 w (by simpa using hc) (by simpa using hf) (by intro v hv'; rw [List.eq_of_mem_replicate hv']; rfl)
  simp only [Nat.add_zero] at hst
  obtain ⟨m, rfl⟩ : ∃ m, n = m + 1 := ⟨n - 1, by omega⟩
  simp [Builtin.clear_, run_underlying Tryz.underlying41, hv, hzc, hst]

theorem dedup_one (a b : Dt) (t : List Dt) : dedup (a :: b :: t) = if a = b then dedup (b :: t) else a :: dedup (b :: t) := by rw [dedup]
theorem dedup_snoc : ∀ (t : List Dt) (a b : Dt), dedup (t ++ [a] ++ [b]) = if a = b then dedup (t ++ [a]) else dedup (t ++ [a]) ++ [b]
  | [], a, b => by
    show dedup [a, b] = _
    rw [dedup_one]
    split
    · rename_i e; subst e; rfl
    · rfl
  | [c], a, b => by
    show dedup [c, a, b] = if a = b then dedup [c, a] else dedup [c, a] ++ [b]
    rw [dedup_one c a [b], dedup_one a b [], dedup_one c a []]
    by_cases h1 : c = a
    · rw [if_pos h1, if_pos h1]
      split
      · rename_i e; subst e; rfl
      · rfl
    · rw [if_neg h1, if_neg h1]
      split
      · rename_i e; subst e; rfl
      · rfl
  | c :: d :: t, a, b => by
    have ih := dedup_snoc (d :: t) a b
    simp only [List.cons_append] at ih ⊢
    rw [dedup_one c d, dedup_one c d, ih]
    by_cases h1 : c = d
    · rw [if_pos h1, if_pos h1]
    · rw [if_neg h1, if_neg h1]
      split <;> rfl
theorem dedup_next (S : List Dt) (m : Nat) (hm : m + 1 < S.length) : dedup (S.take (m + 2)) = if S[m] = S[m + 1] then dedup (S.take (m + 1)) else dedup (S.take (m + 1)) ++ [S[m + 1]] := by
  rw [take_next S (m + 1) hm, take_next S m (by omega)]
  exact dedup_snoc _ _ _
theorem dedup_le : ∀ l : List Dt, (dedup l).length ≤ l.length
  | [] => Nat.le_refl _
  | [a] => Nat.le_refl _
  | a :: b :: t => by
    rw [dedup_one]
    have := dedup_le (b :: t)
    split
    · simp only [List.length_cons] at *; omega
    · simp only [List.length_cons] at *; omega

theorem addr_ne (g : Nat) {i j : Nat} (h : i ≠ j) : (⟨g, i, none⟩ : Addr) ≠ ⟨g, j, none⟩ := fun e => h (congrArg Addr.off e)
theorem OwnD.set {w : World} {g : Nat} {L : List Dt} (h : OwnD w g L) (k : Nat) (hk : k < L.length) (d : Dt) : OwnD ((w.setCell ⟨g, k * 2, none⟩ (.int .i64 d.1)).setCell ⟨g, k * 2 + 1, none⟩ (.int .i64 d.2)) g (L.set k d) := by
  refine ⟨fun j u hu => ?_, fun j hj => ?_, by simpa [World.setCell] using h.lt⟩
  · obtain ⟨i, hi, hju⟩ := dcl_at _ j u hu
    rw [List.length_set] at hi
    obtain ⟨c1, c2⟩ := h.cells i hi
    obtain ⟨k1, k2⟩ := h.cells k hk
    rw [Nat.zero_add]
    by_cases hik : k = i
    · subst hik
      rcases hju with ⟨rfl, rfl⟩ | ⟨rfl, rfl⟩
      · rw [World.cell?_setCell_other _ _ _ _ (addr_ne g (by omega)), World.cell?_setCell_same _ _ _ k1]; simp
      · rw [World.cell?_setCell_same _ _ (u := .int .i64 L[k].2) _ (by rw [World.cell?_setCell_other _ _ _ _ (addr_ne g (by omega))]; exact k2)]; simp
    · rcases hju with ⟨rfl, rfl⟩ | ⟨rfl, rfl⟩
      · rw [World.cell?_setCell_other _ _ _ _ (addr_ne g (by omega)), World.cell?_setCell_other _ _ _ _ (addr_ne g (by omega)), c1]
        simp [hik]
      · rw [World.cell?_setCell_other _ _ _ _ (addr_ne g (by omega)), World.cell?_setCell_other _ _ _ _ (addr_ne g (by omega)), c2]
        simp [hik]
  · rw [World.frozen?_setCell, World.frozen?_setCell]; exact h.free j (by rwa [List.length_set] at hj)

theorem dcl_take (L : List Dt) (k j : Nat) (u : Value) (h : (dcl (L.take k))[j]? = some u) : (dcl L)[j]? = some u ∧ j < k * 2 := by
  have e : dcl L = dcl (L.take k) ++ dcl (L.drop k) := by rw [← dcl_append, List.take_append_drop]
  have hj := (List.getElem?_eq_some_iff.1 h).1
  refine ⟨by rw [e, List.getElem?_append_left hj]; exact h, ?_⟩
  rw [dcl_length, List.length_take] at hj; omega
theorem OwnD.cleared {w : World} {g : Nat} {L : List Dt} (h : OwnD w g L) (k : Nat) (hk : k ≤ L.length) (vs : List Value) : OwnD (w.setCells g (k * 2) vs) g (L.take k) := by
  obtain ⟨h1, h2, h3⟩ := setCells_grown g vs (k * 2) w
  refine ⟨fun j u hu => ?_, fun j hj => ?_, Nat.lt_of_lt_of_le h.lt h1.size⟩
  · obtain ⟨e1, e2⟩ := dcl_take L k j u hu
    have := h.range j u e1
    rw [Nat.zero_add] at this ⊢
    rw [h2 j e2]; exact this
  · rw [h3]
    rw [List.length_take] at hj
    exact h.free j (by omega)
theorem set_take (L : List Dt) (k : Nat) (hk : k < L.length) (y : Dt) : (L.set k y).take (k + 1) = L.take k ++ [y] := by
  rw [take_next _ k (by rw [List.length_set]; exact hk)]
  simp [List.take_set_of_le]
theorem set_far (L : List Dt) (k p : Nat) (hkp : k < p) (y : Dt) : (L.set k y).getD p (0, 0) = L.getD p (0, 0) := by
  simp [List.getD, show ¬ k = p by omega]

def Compacted (w : World) (g cap : Nat) (S : List Dt) (e : Ending) (w' : World) : Prop := e = .returned (.slice (some ⟨g, 0, none⟩) (dedup S).length cap) ∧ OwnD w' g (dedup S) ∧ w.grownBy w' (some g)

set_option maxHeartbeats 4000000 in
set_option maxRecDepth 100000 in
theorem compactD_is (g cap : Nat) (S : List Dt) (w : World) (h : OwnD w g S) (hcap : S.length ≤ cap) (hlen : S.length ≤ 10000) :
    Calls Tryz.prog 31 #[.slice (some ⟨g, 0, none⟩) S.length cap] w (Compacted w g cap S) := by
  have H := Lib.hid h
  have G0 : Hid (w.grownBy w (some g)) := ⟨rfl, rfl, rfl, Nat.le_refl _, fun _ _ _ => rfl⟩
  clear h
  by_cases h2 : S.length < 2
  · have h2' : (S.length : Int) < 2 := by omega
    have hD : Hid (dedup S = S) := by
      match S, h2 with
      | [], _ => rfl
      | [a], _ => rfl
      | a :: b :: t, h2 => simp at h2; omega
    go_enter Tryz.func31, Tryz.ntmps31
    go_wp2
    go_ret
    exact ⟨by rw [hD.out]; rfl, by rw [hD.out]; exact H.out, G0.out⟩
  · have h2' : ¬ (S.length : Int) < 2 := by omega
    go_enter Tryz.func31, Tryz.ntmps31
    go_wp2
    go_loopw [3] (fun i wr => ∃ m : Nat, m + 1 ≤ S.length ∧ i = .int .i64 ((m : Int) + 1) ∧ OwnD wr g S ∧ w.grownBy wr (some g) ∧ dedup (S.take (m + 1)) = S.take (m + 1)) (fun i _ => S.length - (intOf i).toNat)
    case atStart => exact ⟨0, by omega, rfl, H.out, G0.out, by
      match S, h2 with
      | [], h2 => simp at h2
      | a :: t, _ => rfl⟩
    case round =>
      obtain ⟨m, hm, rfl, ho, hg, hd⟩ := hrel
      have O := Lib.hid ho; have G := Lib.hid hg; have D := Lib.hid hd
      by_cases hms : m + 1 < S.length
      · have hms' : (m : Int) + 1 < S.length := by omega
        obtain ⟨a0, a1⟩ := ho.cells m (by omega)
        obtain ⟨b0, b1⟩ := ho.cells (m + 1) hms
        have hnx := dedup_next S m hms
        clear ho hg hd H G0
        obtain ⟨x, hx⟩ : ∃ x, x = S[m] := ⟨_, rfl⟩
        obtain ⟨y, hy⟩ : ∃ y, y = S[m + 1] := ⟨_, rfl⟩
        rw [← hx] at a0 a1 hnx
        rw [← hy] at b0 b1 hnx
        have NX := Lib.hid hnx; have HX := Lib.hid hx; have HY := Lib.hid hy
        clear hx hy hnx
        have hw1 : IntKind.i64.wrap ((m : Int) + 1) = (m : Int) + 1 := by simp [IntKind.wrap, IntKind.bits, IntKind.signed]; omega
        have hp0 : (0 : Int) ≤ (m : Int) + 1 := by omega
        have hp1 : (0 : Int) ≤ (m : Int) := by omega
        have hp2 : (m : Int) < S.length := by omega
        have hw0 : IntKind.i64.wrap (m : Int) = (m : Int) := by simp [IntKind.wrap, IntKind.bits, IntKind.signed]; omega
        by_cases hxy : x = y
        · subst hxy
          rw [if_pos rfl] at NX
          go_wp2
          go_quiet (fail)
          have hb2 : Below wr.heap.size wr (wr.drewN nq) := ⟨rfl, rfl, rfl, Nat.le_refl _, fun _ _ => rfl⟩
          have O2 := Lib.hid (O.out.later hb2); have G2 := Lib.hid (grown_then G.out (grown_of_below hb2 : wr.grownBy _ (some g)))
          generalize wr.drewN nq = wq at hb2 O2 G2 ⊢
          clear hb2 a0 a1 b0 b1 hw1 hw0 hp0 hp1 hp2 O G
          go_wp2
          go_loopw [3, 5] (fun i3 i5 wr => ∃ (q kk : Nat) (L : List Dt), i5 = .int .i64 ((q : Int) + 1) ∧ i3 = .int .i64 (kk : Int) ∧ m + q + 2 ≤ S.length ∧ L.length = S.length ∧ kk ≤ m + q + 1 ∧ L.take kk = dedup (S.take (m + q + 2)) ∧ (∀ p, (hp : p < S.length) → m + q + 1 ≤ p → L.getD p (0, 0) = S[p]) ∧ OwnD wr g L ∧ w.grownBy wr (some g)) (fun _ i5 _ => S.length - (intOf i5).toNat)
          case atStart =>
            exact ⟨0, m + 1, S, rfl, by go_num, by omega, rfl, by omega, by rw [show m + 0 + 2 = m + 2 from rfl, NX.out, D.out], fun p hp _ => by simp [List.getD, List.getElem?_eq_getElem hp], O2.out, G2.out⟩
          case round =>
            obtain ⟨q, kk, L, rfl, rfl, hq, hL, hkk, htk, hge, ho, hg⟩ := hrel
            have O := Lib.hid ho; have G := Lib.hid hg; have TK := Lib.hid htk; have GE := Lib.hid hge
            have hklen : kk = (dedup (S.take (m + q + 2))).length := by rw [← htk, List.length_take]; omega
            by_cases hqs : m + q + 2 < S.length
            · have hqs' : (q : Int) + 1 < (S.length - (m + 1) : Nat) := by omega
              have hLq : L[m + q + 1]'(by omega) = S[m + q + 1] := by
                have := hge (m + q + 1) (by omega) (Nat.le_refl _)
                simpa [List.getD, List.getElem?_eq_getElem (show m + q + 1 < L.length by omega)] using this
              have hLq2 : L[m + q + 2]'(by omega) = S[m + q + 2] := by
                have := hge (m + q + 2) hqs (by omega)
                simpa [List.getD, List.getElem?_eq_getElem (show m + q + 2 < L.length by omega)] using this
              obtain ⟨a0, a1⟩ := ho.cells (m + q + 1) (by omega)
              obtain ⟨b0, b1⟩ := ho.cells (m + q + 2) (by omega)
              obtain ⟨k0, k1⟩ := ho.cells kk (by omega)
              have f0 := ho.free (kk * 2) (by omega)
              have f1 := ho.free (kk * 2 + 1) (by omega)
              have hnx := dedup_next S (m + q + 1) hqs
              rw [hLq] at a0 a1
              rw [hLq2] at b0 b1
              obtain ⟨x, hx⟩ : ∃ x, x = S[m + q + 1] := ⟨_, rfl⟩
              obtain ⟨y, hy⟩ : ∃ y, y = S[m + q + 2] := ⟨_, rfl⟩
              rw [← hx] at a0 a1
              rw [← hy] at b0 b1
              rw [show S[m + q + 1 + 1] = y from hy.symm, ← hx] at hnx
              have NX2 := Lib.hid hnx
              rw [show (m + q + 1) * 2 = (m + 1) * 2 + q * 2 from by omega] at a0 a1
              rw [show (m + q + 2) * 2 = (m + 1) * 2 + (q + 1) * 2 from by omega] at b0 b1
              obtain ⟨oldk, hok⟩ : ∃ z, z = L[kk]'(by omega) := ⟨_, rfl⟩
              rw [← hok] at k0 k1
              have HL2 := Lib.hid hLq2
              clear ho hg htk hge hLq hLq2 hnx hx hok hklen
              have HYY := Lib.hid hy
              clear hy
              have hw1 : IntKind.i64.wrap ((q : Int) + 1) = (q : Int) + 1 := by simp [IntKind.wrap, IntKind.bits, IntKind.signed]; omega
              have hw0 : IntKind.i64.wrap (q : Int) = (q : Int) := by simp [IntKind.wrap, IntKind.bits, IntKind.signed]; omega
              have hp0 : (0 : Int) ≤ (q : Int) + 1 := by omega
              have hp1 : (0 : Int) ≤ (q : Int) := by omega
              have hp2 : (q : Int) < (S.length - (m + 1) : Nat) := by omega
              have hp3 : (0 : Int) ≤ (kk : Int) := by omega
              have hp4 : (kk : Int) < S.length := by omega
              by_cases hxy : x = y
              · subst hxy
                rw [if_pos rfl] at NX2
                go_wp2
                go_quiet (fail)
                have hb2 : Below wr.heap.size wr (wr.drewN nq) := ⟨rfl, rfl, rfl, Nat.le_refl _, fun _ _ => rfl⟩
                have O2 := Lib.hid (O.out.later hb2); have G2 := Lib.hid (grown_then G.out (grown_of_below hb2 : wr.grownBy _ (some g)))
                generalize wr.drewN nq = wq at hb2 O2 G2 ⊢
                clear hb2 a0 a1 b0 b1 k0 k1 f0 f1
                go_wp2
                go_roundw
                case rel => exact ⟨q + 1, kk, L, by go_num, rfl, by omega, hL, by omega, by rw [TK.out]; exact NX2.out.symm, fun p hp h => GE.out p hp (by omega), O2.out, G2.out⟩
                case measure => simp [intOf]; omega
              · rw [if_neg hxy] at NX2
                have hxy2 : ¬ y.1 = x.1 ∨ (y.1 = x.1 ∧ ¬ y.2 = x.2) := by
                  by_cases h1 : y.1 = x.1
                  · exact .inr ⟨h1, fun h2 => hxy (Prod.ext h1.symm h2.symm)⟩
                  · exact .inl h1
                clear hxy
                rcases hxy2 with h1 | ⟨h1, h2⟩
                all_goals
                  go_wp2
                  go_quiet (fail)
                  have hb2 : Below wr.heap.size wr (wr.drewN nq) := ⟨rfl, rfl, rfl, Nat.le_refl _, fun _ _ => rfl⟩
                  have O2 := Lib.hid (O.out.later hb2); have G2 := Lib.hid (grown_then G.out (grown_of_below hb2 : wr.grownBy _ (some g)))
                  generalize wr.drewN nq = wq at hb2 O2 G2 ⊢
                  clear hb2 a0 a1 b0 b1 k0 k1 f0 f1
                  obtain ⟨b0, b1⟩ := O2.out.cells (m + q + 2) (by omega)
                  obtain ⟨k0, k1⟩ := O2.out.cells kk (by omega)
                  have f0 := O2.out.free (kk * 2) (by omega)
                  have f1 := O2.out.free (kk * 2 + 1) (by omega)
                  rw [HL2.out, ← HYY.out] at b0 b1
                  rw [show (m + q + 2) * 2 = (m + 1) * 2 + (q + 1) * 2 from by omega] at b0 b1
                  obtain ⟨oldk, hok⟩ : ∃ z, z = L[kk]'(by omega) := ⟨_, rfl⟩
                  rw [← hok] at k0 k1
                  have O3 := Lib.hid (O2.out.set kk (by omega) y)
                  have G3 := Lib.hid (grown_then (grown_then G2.out (grown_cell wq g (kk * 2) (.int .i64 y.1))) (grown_cell _ g (kk * 2 + 1) (.int .i64 y.2)))
                  have f2 : ((wq.setCell ⟨g, kk * 2, none⟩ (.int .i64 y.1))).frozen? ⟨g, kk * 2 + 1, none⟩ = false := by rw [World.frozen?_setCell]; exact f1
                  have k2 : ((wq.setCell ⟨g, kk * 2, none⟩ (.int .i64 y.1))).cell? ⟨g, kk * 2 + 1, none⟩ = some (.int .i64 oldk.2) := by rw [World.cell?_setCell_other _ _ _ _ (addr_ne g (by omega))]; exact k1
                  clear hok
                  go_wp2
                  go_roundw
                  case rel => exact ⟨q + 1, kk + 1, L.set kk y, by go_num, by go_num, by omega, by rw [List.length_set]; exact hL, by omega, by rw [set_take L kk (by omega), TK.out]; exact NX2.out.symm, fun p hp h => by rw [set_far L kk p (by omega)]; exact GE.out p hp (by omega), by have := O3.out; first | exact this | (rw [h1] at this; exact this), by have := G3.out; first | exact this | (rw [h1] at this; exact this)⟩
                  case measure => simp [intOf]; omega
            · have hqe : m + q + 2 = S.length := by omega
              have hqe' : ¬ (q : Int) + 1 < (S.length - (m + 1) : Nat) := by omega
              rw [hqe, List.take_length] at htk
              have TK := Lib.hid htk
              have hkd : Hid ((dedup S).length = kk) := by show (dedup S).length = kk; rw [← htk, List.length_take]; omega
              have hcl : ∀ ty, (Builtin.clear_ #[41] ty #[.slice (some ⟨g, kk * 2, none⟩) (S.length - kk) (cap - kk)]).run Tryz.prog wr = .ok (.tuple #[]) (wr.setCells g (kk * 2) (List.replicate ((S.length - kk) * 2) (.int .i64 0))) :=
                fun ty => run_clearD wr ty g (kk * 2) (S.length - kk) (cap - kk) (by omega) (fun j hj => by
                  have hlt : kk * 2 + j < (dcl L).length := by rw [dcl_length]; omega
                  have := ho.range (kk * 2 + j) _ (List.getElem?_eq_getElem hlt)
                  rw [Nat.zero_add] at this
                  rw [this]; rfl) (fun j hj => ho.free _ (by omega))
              have O3 := Lib.hid (ho.cleared kk (by omega) (List.replicate ((S.length - kk) * 2) (.int .i64 0)))
              have G3 := Lib.hid (grown_then G.out (setCells_grown g (List.replicate ((S.length - kk) * 2) (.int .i64 0)) (kk * 2) wr).1)
              have hp4 : (kk : Int) ≤ S.length := by omega
              clear ho hg htk hge hklen
              go_wp2
              go_ret
              exact ⟨by rw [hkd.out]; rfl, by rw [← TK.out]; exact O3.out, G3.out⟩
        · rw [if_neg hxy] at NX
          have hxy2 : ¬ y.1 = x.1 ∨ (y.1 = x.1 ∧ ¬ y.2 = x.2) := by
            by_cases h1 : y.1 = x.1
            · exact .inr ⟨h1, fun h2 => hxy (Prod.ext h1.symm h2.symm)⟩
            · exact .inl h1
          clear hxy
          rcases hxy2 with h1 | ⟨h1, h2⟩
          all_goals
            go_wp2
            go_quiet (fail)
            have hb2 : Below wr.heap.size wr (wr.drewN nq) := ⟨rfl, rfl, rfl, Nat.le_refl _, fun _ _ => rfl⟩
            have O2 := Lib.hid (O.out.later hb2); have G2 := Lib.hid (grown_then G.out (grown_of_below hb2 : wr.grownBy _ (some g)))
            generalize wr.drewN nq = wq at hb2 O2 G2 ⊢
            clear hb2 a0 a1 b0 b1
            go_wp2
            go_roundw
            case rel => exact ⟨m + 1, by omega, by go_num, O2.out, G2.out, by rw [NX.out, D.out, HY.out, take_next S (m + 1) hms]⟩
            case measure => simp [intOf]; omega
      · have hme : m + 1 = S.length := by omega
        have hme' : ¬ (m : Int) + 1 < S.length := by omega
        have HD : Hid (dedup S = S) := by
          have := D.out
          rwa [hme, List.take_length] at this
        clear ho hg hd H G0
        go_wp2
        go_ret
        exact ⟨by rw [HD.out]; rfl, by rw [HD.out]; exact O.out, G.out⟩
end Go.Proofs.YtijmijokgenflaaGreatDoor
