/- The statement DocsReads, proved for every input that its row reads: part 22 of 54. -/
import Derived.Test.YtijmijokgenflaaGreatDoorPackDocsReads20
import Derived.Shelf.Spec.SlicesInsertGrow
import Derived.Test.YtijmijokgenflaaGreatDoorPackDocsReads21
/- slices.Insert of one write into writes of one's own. -/
namespace Go.Proofs.YtijmijokgenflaaGreatDoor
open Go Go.RowKit Go.Lib
set_option linter.unusedVariables false
set_option maxRecDepth 1000000

theorem run_copyK {P : Program} (w : World) (dT sT ty elem : TypeId) (b o dLen dCap : Nat) (a : Addr) (sLen sCap n k : Nat) (cs : List Value)
    (hu : P.underlying dT = some (.slice elem)) (hs : (P.info? elem).map (·.size) = some k) (hn : n = Nat.min sLen dLen) (hl : cs.length = n * k)
    (hsrc : ∀ j v, cs[j]? = some v → w.cell? (a.add j) = some v) (hc : ∀ j, j < cs.length → (w.cell? ⟨b, o + j, none⟩).isSome = true) (hf : ∀ j, j < cs.length → w.frozen? ⟨b, o + j, none⟩ = false) (h1 : ∀ v ∈ cs, v.oneCell' = true) :
    (Builtin.copy_ #[dT, sT] ty #[.slice (some ⟨b, o, none⟩) dLen dCap, .slice (some a) sLen sCap]).run P w = .ok (goInt n) (w.setCells b o cs) := by
  have hld := run_loadCells_list (P := P) w a cs hsrc
  have hst := run_storeCells_cells (P := P) b o cs 0 w (by simpa using hc) (by simpa using hf) h1
  cases hq : P.info? elem with
  | none => simp [hq] at hs
  | some i =>
    have hi : i.size = k := by simpa [hq] using hs
    rw [hl] at hld
    simp [Builtin.copy_, run_underlying hu, Builtin.lenOf, Builtin.firstCells, sizeOf, typeInfo, hq, hi, ← hn, hld, hst]
theorem shape_of {w : World} {b : Nat} {cs : Array Value} {t : TypeId} {m : Nat × Nat} (h : w.heap[b]? = some (.cells cs t m)) : w.shape? b = some (t, cs.size) := by
  unfold World.shape?
  rw [h]
/-- room for one more -/
theorem own_more {w : World} {B n c g k : Nat} {e : TypeId} {xs : List Value} (h : w.ownsRow B e k (.slice (some ⟨g, 0, none⟩) n c) n xs) (hc : n + 1 ≤ c) : ∃ junk, junk.length = k ∧ w.ownsRow B e k (.slice (some ⟨g, 0, none⟩) (n + 1) c) (n + 1) (xs ++ junk) := by
  have hx := h.1
  rcases h.2 with ⟨h1, _⟩ | ⟨g', cap, cur, h1, hB, hg, hcc, hm, hs, ht⟩
  · cases h1
  · injection h1 with h1 _ h3
    injection h1 with h1
    injection h1 with h1 _ _
    subst h1; subst h3
    have hk : (n + 1) * k ≤ c * k := Nat.mul_le_mul_right k hc
    have hk2 : (n + 1) * k = n * k + k := Nat.succ_mul n k
    have hl : cur.toList.length = c * k := by rw [Array.length_toList, hs]
    refine ⟨(cur.toList.drop (n * k)).take k, by rw [List.length_take, List.length_drop, hl]; omega, ?_, .inr ⟨g, c, cur, rfl, hB, hg, hc, hm, hs, ?_⟩⟩
    · rw [List.length_append, List.length_take, List.length_drop, hl, hx]; omega
    · rw [← ht, hk2, List.take_add]
/-- one put in -/
def insAt (l : List Wr) (i : Nat) (x : Wr) : List Wr := l.take i ++ x :: l.drop i
theorem insAt_len (l : List Wr) (i : Nat) (x : Wr) (h : i ≤ l.length) : (insAt l i x).length = l.length + 1 := by
  unfold insAt; rw [List.length_append, List.length_cons, List.length_take, List.length_drop]; omega
theorem wcl_drop : ∀ (L : List Wr) (k : Nat), wcl (L.drop k) = (wcl L).drop (k * 6)
  | [], k => by simp [wcl]
  | x :: L, 0 => by simp [wcl]
  | x :: L, k + 1 => by
    have h := wcl_drop L k
    rw [List.drop_succ_cons, show wcl (x :: L) = x.cells ++ wcl L from rfl, h, show (k + 1) * 6 = x.cells.length + k * 6 by rw [Wr.cells_len]; omega, List.drop_length_add_append]
/-- whatever stood behind the first ones, a write and the others put there -/
theorem ins_cells (l : List Wr) (i : Nat) (x : Wr) (hi : i ≤ l.length) (xs : List Value) (hl : xs.length = (l.length + 1) * 6) (hf : xs.take (i * 6) = (wcl l).take (i * 6)) :
    setLL (setLL xs ((i + 1) * 6) (wcl (l.drop i))) (i * 6) x.cells = wcl (insAt l i x) ∧ setLL (setLL xs (i * 6) x.cells) ((i + 1) * 6) (wcl (l.drop i)) = wcl (insAt l i x) := by
  have hd : (wcl (l.drop i)).length = (l.length - i) * 6 := by rw [wcl_length, List.length_drop]
  have ht : (wcl (l.take i)).length = i * 6 := by rw [wcl_length, List.length_take]; omega
  have he : wcl (insAt l i x) = wcl (l.take i) ++ (x.cells ++ wcl (l.drop i)) := by unfold insAt; rw [wcl_append]; rfl
  have hx := x.cells_len
  have key : ∀ j, (wcl (insAt l i x))[j]? = if j < i * 6 then xs[j]? else if j < (i + 1) * 6 then x.cells[j - i * 6]? else (wcl (l.drop i))[j - (i + 1) * 6]? := fun j => by
    rw [he]
    by_cases h1 : j < i * 6
    · rw [if_pos h1, List.getElem?_append_left (by omega), wcl_take, ← hf, List.getElem?_take_of_lt h1]
    · rw [if_neg h1, List.getElem?_append_right (by omega), ht]
      by_cases h2 : j < (i + 1) * 6
      · rw [if_pos h2, List.getElem?_append_left (by omega)]
      · rw [if_neg h2, List.getElem?_append_right (by omega), hx]
        congr 1; omega
  constructor
  · apply List.ext_getElem?
    intro j
    rw [key, setLL_get _ _ _ (by rw [setLL_length, hl, hx]; omega), setLL_get _ _ _ (by rw [hl, hd]; omega), hx, hd]
    by_cases h1 : j < i * 6
    · rw [if_pos h1, if_neg (by omega), if_neg (by omega)]
    · rw [if_neg h1]
      by_cases h2 : j < (i + 1) * 6
      · rw [if_pos h2, if_pos (by omega)]
      · rw [if_neg h2, if_neg (by omega)]
        by_cases h3 : j < (i + 1) * 6 + (l.length - i) * 6
        · rw [if_pos (by omega)]
        · rw [if_neg (by omega), List.getElem?_eq_none (by omega), List.getElem?_eq_none (by omega)]
  · apply List.ext_getElem?
    intro j
    rw [key, setLL_get _ _ _ (by rw [setLL_length, hl, hd]; omega), setLL_get _ _ _ (by rw [hl, hx]; omega), hx, hd]
    by_cases h1 : j < i * 6
    · rw [if_pos h1, if_neg (by omega), if_neg (by omega)]
    · rw [if_neg h1]
      by_cases h2 : j < (i + 1) * 6
      · rw [if_pos h2, if_neg (by omega), if_pos (by omega)]
      · rw [if_neg h2]
        by_cases h3 : j < (i + 1) * 6 + (l.length - i) * 6
        · rw [if_pos (by omega)]
        · rw [if_neg (by omega), if_neg (by omega), List.getElem?_eq_none (by omega), List.getElem?_eq_none (by omega)]
/-- writes of one's own, one more among them -/
def InsR (B : Nat) (l : List Wr) (w : World) (e : Ending) (w' : World) : Prop := ∃ v, e = .returned v ∧ w'.ownsRow B 39 6 v l.length (wcl l) ∧ Below B w w'
set_option maxHeartbeats 4000000 in
theorem insEnd_is (B : Nat) (q : Option Addr) (c : Nat) (l : List Wr) (x : Wr) (R : Nat) (w : World) (hO : w.ownsRow B 39 6 (.slice q l.length c) l.length (wcl l)) (hB : B ≤ w.heap.size) (hR : w.heap[R]? = some (.cells x.cells.toArray 39 (0, 0))) (hn : l.length ≤ 10000) (hlc : l.length ≤ c) :
    Calls Tryz.prog 72 #[.slice q l.length c, .int .i64 (l.length : Int), .slice (some ⟨R, 0, none⟩) 1 1] w (InsR B (insAt l l.length x) w) := by
  have HO := Lib.hid hO; have HR := Lib.hid hR
  clear hO hR
  have NW : Hid (∀ j u, x.cells[j]? = some u → w.cell? ((⟨R, 0, none⟩ : Addr).add j) = some u) := Lib.hid fun j u hu => by
    rw [Addr.add_lit, Nat.zero_add, cell_of_row _ R j _ _ _ HR.out]; simpa using hu
  have HX := Lib.hid x.cells_one
  have HI : Hid (wcl l ++ x.cells = wcl (insAt l l.length x)) := Lib.hid (by unfold insAt; rw [List.take_length, List.drop_length, wcl_append]; simp [wcl])
  have HL := Lib.hid (insAt_len l l.length x (Nat.le_refl _))
  obtain ⟨i0, hi, hz0, hz1, hz2⟩ := info_parts infoWr
  obtain ⟨n, hn2⟩ : ∃ n, l.length = n := ⟨_, rfl⟩
  rw [hn2] at HO HL HI hn hlc ⊢
  clear hn2
  have HI0 := Lib.hid hi; have Z0 := Lib.hid hz0; have Z1 := Lib.hid hz1; have Z2 := Lib.hid hz2
  clear hi hz0 hz1 hz2
  by_cases hcn : c = n
  · obtain rfl : n = c := hcn.symm
    clear hcn
    go_enter Tryz.func72, Tryz.ntmps72
    go_wp2_with (at_builtin; refine wpList_append_own _ rfl _ _ 24 rfl B 39 i0 _ 6 64 Tryz.underlying24 HI0.out Z0.out Z1.out Z2.out rfl (by decide) _ n _ rfl HO.out ⟨R, 0, none⟩ 1 1 x.cells rfl (by rw [Wr.cells_len]) NW.out HX.out (by unfold maxLen; omega) (by omega) hB ?_)
    intro v' w' h1 h2 _
    have O1 := Lib.hid h1
    have B1 := Lib.hid ((Below.refl B w).grown h2 hB (fun k hk => (HO.out.lt k hk).1))
    clear h1 h2
    go_wp2
    go_ret
    refine ⟨v', rfl, ?_, B1.out⟩
    rw [HL.out, ← HI.out]; exact O1.out
  · have hcn' : ¬ (n = c) := fun e => hcn e.symm
    go_enter Tryz.func72, Tryz.ntmps72
    go_wp2_with (at_builtin; refine wpList_append_own _ rfl _ _ 24 rfl B 39 i0 _ 6 64 Tryz.underlying24 HI0.out Z0.out Z1.out Z2.out rfl (by decide) _ n _ rfl HO.out ⟨R, 0, none⟩ 1 1 x.cells rfl (by rw [Wr.cells_len]) NW.out HX.out (by unfold maxLen; omega) (by omega) hB ?_)
    intro v' w' h1 h2 _
    have O1 := Lib.hid h1
    have B1 := Lib.hid ((Below.refl B w).grown h2 hB (fun k hk => (HO.out.lt k hk).1))
    clear h1 h2
    go_wp2
    go_ret
    refine ⟨v', rfl, ?_, B1.out⟩
    rw [HL.out, ← HI.out]; exact O1.out
set_option maxHeartbeats 8000000 in
theorem insShift_is (B g c i : Nat) (l : List Wr) (x : Wr) (R : Nat) (w : World) (hO : w.ownsRow B 39 6 (.slice (some ⟨g, 0, none⟩) l.length c) l.length (wcl l)) (hB : B ≤ w.heap.size) (hR : w.heap[R]? = some (.cells x.cells.toArray 39 (0, 0))) (hgR : R ≠ g) (hi : i < l.length) (hn : l.length ≤ 10000) (hlc : l.length + 1 ≤ c) (hc63 : c ≤ 9223372036854775807) :
    Calls Tryz.prog 72 #[.slice (some ⟨g, 0, none⟩) l.length c, .int .i64 (i : Int), .slice (some ⟨R, 0, none⟩) 1 1] w (InsR B (insAt l i x) w) := by
  have hgB := (hO.lt g rfl).1
  obtain ⟨junk, hj, hO'⟩ := own_more hO hlc
  have OD := own_later hO' (to_drew (Below.refl w.heap.size w))
  obtain ⟨IC, _⟩ := ins_cells l i x (by omega) (wcl l ++ junk) (by rw [List.length_append, wcl_length, hj]; omega) (by rw [List.take_append_of_le_length (by rw [wcl_length]; omega)])
  obtain ⟨n, hn2⟩ : ∃ n, l.length = n := ⟨_, rfl⟩
  have hdl : (wcl (l.drop i)).length = (n - i) * 6 := by rw [wcl_length, List.length_drop, hn2]
  have HL := Lib.hid (insAt_len l i x (by omega))
  have hD : ∀ j v, (wcl (l.drop i))[j]? = some v → w.drew.cell? ⟨g, i * 6 + j, none⟩ = some v := fun j v hv => by
    have hj2 : j < (l.length - i) * 6 := by have := (List.getElem?_eq_some_iff.1 hv).1; rw [wcl_length, List.length_drop] at this; exact this
    rw [OD.cellAt (i * 6 + j) (by omega), List.getElem?_append_left (by rw [wcl_length]; omega)]
    rw [wcl_drop, List.getElem?_drop] at hv
    exact hv
  rw [hn2] at hO hO' OD hi hn hlc HL ⊢
  have hcell : ∀ j, j < (n + 1) * 6 → (w.drew.cell? ⟨g, j, none⟩).isSome = true := fun j hjl => by
    rw [OD.cellAt j hjl, List.getElem?_eq_getElem (by rw [List.length_append, wcl_length, hj, hn2]; omega)]; rfl
  have hsz : (Tryz.prog.info? 39).map (·.size) = some 6 := by kernel_rfl
  have hov : ∀ lb cb, (callFunc 100 #[.slice (some ⟨R, 0, none⟩) 1 1, .slice (some ⟨g, (i + 1) * 6, none⟩) lb cb]).run Tryz.prog w = .ok (.value (.bool false)) w := fun lb cb => by
    have hsg : ∃ tB kB, w.shape? g = some (tB, kB) ∧ kB ≠ 0 := by
      rcases hO.2 with ⟨h1, _⟩ | ⟨g', cap, cur, h1, _, hg, hcc, _, hs, _⟩
      · cases h1
      · injection h1 with h1 _ _
        injection h1 with h1
        injection h1 with h1 _ _
        subst h1
        exact ⟨_, _, shape_of hg, by rw [hs]; omega⟩
    obtain ⟨tB, kB, h1, h2⟩ := hsg
    rw [run_callFunc_extern Tryz.func100 (by kernel_rfl) (by kernel_rfl) (by kernel_rfl) (e := Extern.SlicesOverlaps.overlaps #[24, 24] #[4]) (by kernel_rfl),
      Lib.run_overlaps_apart w 24 4 39 Tryz.underlying24 6 Tryz.sizeOf39 ⟨R, 0, none⟩ ⟨g, (i + 1) * 6, none⟩ 1 1 lb cb hgR _ _ _ _ (shape_of hR) h1 h2 (frozen_of_row w R 0 _ _ hR) (frozen_of_row w R _ _ _ hR)]
    rfl
  have hcp1 : ∀ ty dc sc, (Builtin.copy_ #[24, 24] ty #[.slice (some ⟨g, (i + 1) * 6, none⟩) (n + 1 - (i + 1)) dc, .slice (some ⟨g, i * 6, none⟩) (n + 1 - i) sc]).run Tryz.prog w.drew = .ok (goInt ((n - i : Nat) : Int)) (w.drew.setCells g ((i + 1) * 6) (wcl (l.drop i))) := fun ty dc sc =>
    run_copyK w.drew _ _ ty 39 g ((i + 1) * 6) (n + 1 - (i + 1)) dc ⟨g, i * 6, none⟩ (n + 1 - i) sc (n - i) 6 (wcl (l.drop i)) Tryz.underlying24 hsz (by simp only [Nat.min_def]; split <;> omega) hdl
      (fun j v hv => by rw [Addr.add_lit]; exact hD j v hv)
      (fun j hj2 => hcell _ (by rw [hdl] at hj2; omega)) (fun j hj2 => OD.frozenAt _) (wcl_one _)
  have O1 := own_setCells (wcl (l.drop i)) w.drew _ ((i + 1) * 6) OD
  have G1 := grown_setCells g (wcl (l.drop i)) w.drew ((i + 1) * 6)
  have R1 : (w.drew.setCells g ((i + 1) * 6) (wcl (l.drop i))).heap[R]? = some (.cells x.cells.toArray 39 (0, 0)) :=
    (G1.block R (Array.getElem?_eq_some_iff.1 (show w.drew.heap[R]? = _ from hR)).1 (by simpa using hgR)).trans hR
  obtain ⟨W1, hW1⟩ : ∃ W1, w.drew.setCells g ((i + 1) * 6) (wcl (l.drop i)) = W1 := ⟨_, rfl⟩
  rw [hW1] at hcp1 O1 G1 R1
  have hxl : (setLL (wcl l ++ junk) ((i + 1) * 6) (wcl (l.drop i))).length = (n + 1) * 6 := by rw [setLL_length, List.length_append, wcl_length, hj, hn2]; omega
  have hcp2 : ∀ ty dc, (Builtin.copy_ #[24, 24] ty #[.slice (some ⟨g, i * 6, none⟩) (n + 1 - i) dc, .slice (some ⟨R, 0, none⟩) 1 1]).run Tryz.prog W1 = .ok (goInt 1) (W1.setCells g (i * 6) x.cells) := fun ty dc =>
    run_copyK W1 _ _ ty 39 g (i * 6) (n + 1 - i) dc ⟨R, 0, none⟩ 1 1 1 6 x.cells Tryz.underlying24 hsz (by simp only [Nat.min_def]; split <;> omega) (by rw [Wr.cells_len])
      (fun j v hv => by rw [Addr.add_lit, Nat.zero_add, cell_of_row _ R j _ _ _ R1]; simpa using hv)
      (fun j hj2 => by rw [Wr.cells_len] at hj2; rw [O1.cellAt _ (by omega), List.getElem?_eq_getElem (by omega)]; rfl) (fun j hj2 => O1.frozenAt _) x.cells_one
  have O2 := own_setCells x.cells W1 _ (i * 6) O1
  have G2 := grown_setCells g x.cells W1 (i * 6)
  rw [IC] at O2
  have BF : Below B w (W1.setCells g (i * 6) x.cells) := by
    have b1 := grown_below G1 hB hgB
    exact (⟨b1.os, b1.tape, b1.output, b1.size, b1.block⟩ : Below B w W1).trans (grown_below G2 (Nat.le_trans hB G1.size) hgB)
  have OF := Lib.hid O2; have HBF := Lib.hid BF; have CP1 := Lib.hid hcp1; have CP2 := Lib.hid hcp2; have HOV := Lib.hid hov
  clear O2 BF hcp1 hcp2 O1 G1 G2 R1 hxl hcell hD hdl hO hO' OD IC hn2 hR hov hW1 hj
  have hw1 : IntKind.i64.wrap ((i : Int) + 1) = (i : Int) + 1 := by rw [IntKind.wrap_i64]; omega
  have hb1 : (0 : Int) ≤ (i : Int) + 1 := by omega
  have hin : i ≤ n := by omega
  have htn : ((i : Int) + 1).toNat = i + 1 := by omega
  have hb2 : ¬ (c = i + 1) := by omega
  have hb3 : (i : Int) ≤ (n : Int) + 1 := by omega
  have hb4 : ¬ (c = i) := by omega
  have hz2 : ((i : Int) == (n : Int)) = false := beq_eq_false_iff_ne.2 (by omega)
  have hz3 : ¬ ((n : Int) + 1 > (c : Int)) := by omega
  have hov := HOV.out
  go_enter Tryz.func72, Tryz.ntmps72
  go_wp2_with (simp only [hov])
  go_region_law (refine step_copy_runI rfl _ _ 24 24 rfl (.slice (some ⟨g, (i + 1) * 6, none⟩) (n + 1 - (i + 1)) (c - (i + 1))) (.slice (some ⟨g, i * 6, none⟩) (n + 1 - i) (c - i)) (by simp [Act.eval, Act.put]) (by simp [Act.eval, Act.put]) (CP1.out _ _ _) ?_)
  have cp2 := CP2.out 3 (c - i)
  go_wp2
  go_ret
  refine ⟨_, rfl, ?_, HBF.out⟩
  rw [HL.out]; exact OF.out
theorem zeroWrA (w : World) : (zeroValue 39).run Tryz.prog w = .ok (.agg #[.int .i64 0, .int .i64 0, .int .i64 0, .string ByteArray.empty, .int .i64 0, .string ByteArray.empty]) w := by kernel_rfl
set_option maxHeartbeats 8000000 in
theorem insGrow_is (B g c i : Nat) (l : List Wr) (x : Wr) (R : Nat) (w : World) (hO : w.ownsRow B 39 6 (.slice (some ⟨g, 0, none⟩) l.length c) l.length (wcl l)) (hB : B ≤ w.heap.size) (hR : w.heap[R]? = some (.cells x.cells.toArray 39 (0, 0))) (hi : i < l.length) (hn : l.length ≤ 10000) (hnc : l.length ≤ c) (hlc : c < l.length + 1) :
    Calls Tryz.prog 72 #[.slice (some ⟨g, 0, none⟩) l.length c, .int .i64 (i : Int), .slice (some ⟨R, 0, none⟩) 1 1] w (InsR B (insAt l i x) w) := by
  have hglt := (hO.lt g rfl).2
  have hRlt := (Array.getElem?_eq_some_iff.1 hR).1
  have OD := own_later hO (to_drew (Below.refl w.heap.size w))
  obtain ⟨n, hn2⟩ : ∃ n, l.length = n := ⟨_, rfl⟩
  have hdl : (wcl (l.drop i)).length = (n - i) * 6 := by rw [wcl_length, List.length_drop, hn2]
  have htl : (wcl (l.take i)).length = i * 6 := by rw [wcl_length, List.length_take]; omega
  have HL := Lib.hid (insAt_len l i x (by omega))
  have hD : ∀ j v, (wcl l)[j]? = some v → w.cell? ⟨g, j, none⟩ = some v := fun j v hv => by
    have hj2 : j < l.length * 6 := by have := (List.getElem?_eq_some_iff.1 hv).1; rwa [wcl_length] at this
    rw [hO.cellAt j hj2]; exact hv
  obtain ⟨i0, hi0, hz0, hzs, hzb⟩ := info_parts infoWr
  obtain ⟨zs, hzq⟩ : ∃ zs : Array Value, #[Value.int .i64 0, .int .i64 0, .int .i64 0, .string ByteArray.empty, .int .i64 0, .string ByteArray.empty] = zs := ⟨_, rfl⟩
  have hzsz : zs.size = 6 := by rw [← hzq]; rfl
  rw [hzq] at hz0
  have hzc : ∀ k, (Builtin.zeroCells (Value.agg zs).cells k).size = k * 6 := fun k => by simp [Builtin.zeroCells, Value.cells, hzsz]
  have hz1c : ∀ k, ∀ u ∈ (Builtin.zeroCells (Value.agg zs).cells k).toList, u.oneCell' = true ∨ True := fun k u _ => .inr trivial
  rw [hn2] at hO OD hi hn hnc hlc HL ⊢
  have hold : (Builtin.firstCells i0.size i (.slice (some ⟨g, 0, none⟩) i c)).run Tryz.prog w.drew = .ok (wcl (l.take i)).toArray w.drew := by
    rw [hzs]
    exact run_firstCells_some w.drew 6 i ⟨g, 0, none⟩ i c (wcl (l.take i)) htl (fun j v hj => by
      rw [Addr.add_lit, Nat.zero_add]
      rw [wcl_take] at hj
      have hj2 : j < i * 6 := by have := (List.getElem?_eq_some_iff.1 hj).1; rw [List.length_take] at this; omega
      rw [List.getElem?_take_of_lt hj2] at hj
      exact hD j v hj)
  have hik : i + (n + 1 - i) = n + 1 := by omega
  have hrz : ∀ ty, (Builtin.append_ #[24, 3] ty #[.slice (some ⟨g, 0, none⟩) i c, .int .i64 ((n : Int) + 1 - (i : Int))]).run Tryz.prog w =
      .ok (.slice (some ⟨w.heap.size, 0, none⟩) (n + 1) (grownCap w (n + 1) c 39)) (w.drew.alloc (.cells ((wcl (l.take i)).toArray ++ Builtin.zeroCells (Value.agg zs).cells (n + 1 - i) ++ Builtin.zeroCells (Value.agg zs).cells (grownCap w (n + 1) c 39 - (n + 1))) 39)) := fun ty => by
    have h := Lib.run_append_grow_zeros w 24 3 ty 39 i0 _ .i64 .i64 Tryz.underlying24 Tryz.underlying3 hi0 hz0 (some ⟨g, 0, none⟩) i c (wcl (l.take i)) hold (n + 1 - i) (by omega) (by omega) (by omega) (by omega) (by rw [hzb]; omega) (by rw [hzb, hik]; exact growslice_fits hlc (by omega))
    rw [hik] at h
    rw [show (n : Int) + 1 - (i : Int) = ((n + 1 - i : Nat) : Int) by omega]
    exact h
  have hGn := grownCap_ge w (n + 1) c 39
  have hGm := grownCap_le_maxLen w (n + 1) c 39 (by unfold maxLen; omega)
  obtain ⟨G, hG⟩ : ∃ G, grownCap w (n + 1) c 39 = G := ⟨_, rfl⟩
  rw [hG] at hrz hGn hGm
  obtain ⟨ROW, hROW⟩ : ∃ ROW : Array Value, (wcl (l.take i)).toArray ++ Builtin.zeroCells (Value.agg zs).cells (n + 1 - i) ++ Builtin.zeroCells (Value.agg zs).cells (G - (n + 1)) = ROW := ⟨_, rfl⟩
  rw [hROW] at hrz
  have hRs : ROW.size = G * 6 := by
    rw [← hROW, Array.size_append, Array.size_append, hzc, hzc, List.size_toArray, htl]
    omega
  have hRt : (ROW.toList.take ((n + 1) * 6)).take (i * 6) = (wcl l).take (i * 6) := by
    rw [List.take_take, Nat.min_eq_left (by omega), ← hROW, Array.toList_append, Array.toList_append, List.append_assoc, List.take_append_of_le_length (by simp only [List.toList_toArray]; omega)]
    rw [List.toList_toArray, List.take_of_length_le (by omega), wcl_take]
  obtain ⟨xs1, hxs1⟩ : ∃ xs, ROW.toList.take ((n + 1) * 6) = xs := ⟨_, rfl⟩
  have hx1l : xs1.length = (n + 1) * 6 := by rw [← hxs1, List.length_take, Array.length_toList, hRs]; omega
  rw [hxs1] at hRt
  obtain ⟨_, IC⟩ := ins_cells l i x (by omega) xs1 (by rw [hx1l, hn2]) hRt
  obtain ⟨W1, hW1⟩ : ∃ W1, w.drew.alloc (.cells ROW 39) = W1 := ⟨_, rfl⟩
  have N1 : W1.heap[w.heap.size]? = some (.cells ROW 39 (0, 0)) := by rw [← hW1]; exact heap_alloc_new w.drew _
  have B1 : Below w.heap.size w W1 := by rw [← hW1]; exact (to_drew (Below.refl w.heap.size w)).alloc (Nat.le_refl _) _
  rw [hW1] at hrz
  have O1 : W1.ownsRow B 39 6 (.slice (some ⟨w.heap.size, 0, none⟩) (n + 1) G) (n + 1) xs1 := ⟨hx1l, .inr ⟨w.heap.size, G, ROW, rfl, hB, N1, hGn, hGm, hRs, hxs1⟩⟩
  have hsz : (Tryz.prog.info? 39).map (·.size) = some 6 := by kernel_rfl
  have R1 : W1.heap[R]? = some (.cells x.cells.toArray 39 (0, 0)) := (B1.block R hRlt).trans hR
  have hcpA : ∀ ty dc, (Builtin.copy_ #[24, 24] ty #[.slice (some ⟨w.heap.size, i * 6, none⟩) (n + 1 - i) dc, .slice (some ⟨R, 0, none⟩) 1 1]).run Tryz.prog W1 = .ok (goInt 1) (W1.setCells w.heap.size (i * 6) x.cells) := fun ty dc =>
    run_copyK W1 _ _ ty 39 w.heap.size (i * 6) (n + 1 - i) dc ⟨R, 0, none⟩ 1 1 1 6 x.cells Tryz.underlying24 hsz (by simp only [Nat.min_def]; split <;> omega) (by rw [Wr.cells_len])
      (fun j v hv => by rw [Addr.add_lit, Nat.zero_add, cell_of_row _ R j _ _ _ R1]; simpa using hv)
      (fun j hj2 => by rw [Wr.cells_len] at hj2; rw [O1.cellAt _ (by omega), List.getElem?_eq_getElem (by omega)]; rfl) (fun j hj2 => O1.frozenAt _) x.cells_one
  have O2 := own_setCells x.cells W1 _ (i * 6) O1
  have G2 := grown_setCells w.heap.size x.cells W1 (i * 6)
  obtain ⟨W2, hW2⟩ : ∃ W2, W1.setCells w.heap.size (i * 6) x.cells = W2 := ⟨_, rfl⟩
  rw [hW2] at hcpA O2 G2
  have O2d := own_later O2 (to_drew (Below.refl W2.heap.size W2))
  have hx2l : (setLL xs1 (i * 6) x.cells).length = (n + 1) * 6 := by rw [setLL_length, hx1l]
  have hold2 : ∀ j v, (wcl l)[j]? = some v → W2.drew.cell? ⟨g, j, none⟩ = some v := fun j v hv => by
    have h1 := hD j v hv
    have b12 : Below w.heap.size w W2 := B1.trans (grown_below G2 B1.size (Nat.le_refl _))
    rw [World.cell?_of_block (w := w) (a := ⟨g, j, none⟩) ((to_drew b12).block g hglt)]
    exact h1
  have hcpB : ∀ ty dc sc, (Builtin.copy_ #[24, 24] ty #[.slice (some ⟨w.heap.size, (i + 1) * 6, none⟩) (n + 1 - (i + 1)) dc, .slice (some ⟨g, i * 6, none⟩) (n - i) sc]).run Tryz.prog W2.drew = .ok (goInt ((n - i : Nat) : Int)) (W2.drew.setCells w.heap.size ((i + 1) * 6) (wcl (l.drop i))) := fun ty dc sc =>
    run_copyK W2.drew _ _ ty 39 w.heap.size ((i + 1) * 6) (n + 1 - (i + 1)) dc ⟨g, i * 6, none⟩ (n - i) sc (n - i) 6 (wcl (l.drop i)) Tryz.underlying24 hsz (by simp only [Nat.min_def]; split <;> omega) hdl
      (fun j v hv => by
        rw [Addr.add_lit]
        rw [wcl_drop, List.getElem?_drop] at hv
        exact hold2 _ v hv)
      (fun j hj2 => by rw [hdl] at hj2; rw [O2d.cellAt _ (by omega), List.getElem?_eq_getElem (by omega)]; rfl) (fun j hj2 => O2d.frozenAt _) (wcl_one _)
  have O3 := own_setCells (wcl (l.drop i)) W2.drew _ ((i + 1) * 6) O2d
  rw [IC] at O3
  have BF : Below B w (W2.drew.setCells w.heap.size ((i + 1) * 6) (wcl (l.drop i))) := by
    have b1 : Below B w W1 := B1.mono hB
    have b2 := grown_below G2 (Nat.le_trans hB B1.size) hB
    have b3 := grown_below (grown_setCells w.heap.size (wcl (l.drop i)) W2.drew ((i + 1) * 6)) (Nat.le_trans hB (Nat.le_trans B1.size G2.size)) hB
    exact (to_drew (b1.trans b2)).trans b3
  have OF := Lib.hid O3; have HBF := Lib.hid BF; have CPA := Lib.hid hcpA; have CPB := Lib.hid hcpB; have HRZ := Lib.hid hrz
  have hw1 : IntKind.i64.wrap ((i : Int) + 1) = (i : Int) + 1 := by rw [IntKind.wrap_i64]; omega
  have hb1 : (0 : Int) ≤ (i : Int) + 1 := by omega
  have hin : i ≤ n := by omega
  have htn : ((i : Int) + 1).toNat = i + 1 := by omega
  have hb3 : (i : Int) ≤ (n : Int) := by omega
  have hci : ¬ (c = i) := by omega
  have hGi : ¬ (G = i) := by omega
  have hGim : ¬ (G = i + 1) := by omega
  have hG63 : G ≤ 9223372036854775807 := by unfold maxLen at hGm; omega
  have hz2 : ((i : Int) == (n : Int)) = false := beq_eq_false_iff_ne.2 (by omega)
  have hz3 : (n : Int) + 1 > (c : Int) := by omega
  clear O3 BF hcpA hcpB hrz O1 O2 O2d G2 R1 hold2 hx2l hx1l hRt hRs hROW hxs1 hW1 hW2 N1 B1 hold hik hG hD hdl htl hO OD IC hn2 hR hzc hz1c hzsz hzq hi0 hz0 hzs hzb
  go_enter Tryz.func72, Tryz.ntmps72
  have cpA := CPA.out 3 (G - i)
  go_wp2_with (at_builtin; refine Lib.wpList_append_run _ rfl _ _ _ _ rfl _ _ rfl rfl _ _ (HRZ.out _) ?_)
  go_region_law (refine step_copy_runI rfl _ _ 24 24 rfl (.slice (some ⟨w.heap.size, (i + 1) * 6, none⟩) (n + 1 - (i + 1)) (G - (i + 1))) (.slice (some ⟨g, i * 6, none⟩) (n - i) (c - i)) (by simp [Act.eval, Act.put]) (by simp [Act.eval, Act.put]) (CPB.out _ _ _) ?_)
  go_wp2
  go_ret
  refine ⟨_, rfl, ?_, HBF.out⟩
  rw [HL.out]; exact OF.out
/-- slices.Insert of a write at any place -/
theorem insSl_is (B : Nat) (q : Option Addr) (c i : Nat) (l : List Wr) (x : Wr) (R : Nat) (w : World) (hO : w.ownsRow B 39 6 (.slice q l.length c) l.length (wcl l)) (hB : B ≤ w.heap.size) (hR : w.heap[R]? = some (.cells x.cells.toArray 39 (0, 0))) (hqR : ∀ g, q = some ⟨g, 0, none⟩ → R ≠ g) (hi : i ≤ l.length) (hn : l.length ≤ 10000) :
    Calls Tryz.prog 72 #[.slice q l.length c, .int .i64 (i : Int), .slice (some ⟨R, 0, none⟩) 1 1] w (InsR B (insAt l i x) w) := by
  have hlc : l.length ≤ c ∧ c ≤ 9223372036854775807 ∧ (l ≠ [] → ∃ g, q = some ⟨g, 0, none⟩) := by
    rcases hO.2 with ⟨h1, h2⟩ | ⟨g, cap, cur, h1, _, _, h4, h5, _⟩
    · injection h1 with _ _ h3
      exact ⟨by omega, by omega, fun h => absurd (List.eq_nil_of_length_eq_zero h2) h⟩
    · injection h1 with h1 _ h3
      unfold maxLen at h5
      exact ⟨by omega, by omega, fun _ => ⟨g, h1⟩⟩
  obtain ⟨h1, h2, h3⟩ := hlc
  by_cases he : i = l.length
  · subst he
    exact insEnd_is B q c l x R w hO hB hR hn h1
  · obtain ⟨g, rfl⟩ := h3 (by intro e; subst e; simp at hi; exact he hi)
    by_cases hc : l.length + 1 ≤ c
    · exact insShift_is B g c i l x R w hO hB hR (hqR g rfl) (by omega) hn hc h2
    · exact insGrow_is B g c i l x R w hO hB hR (by omega) hn h1 (by omega)
open Go Go.RowKit
set_option maxRecDepth 1000000

/-- does a write stand ahead of another? -/
def ltW (x y : Wr) : Bool := decide (cmpW x y < 0)
def posW (l : List Wr) (x : Wr) : Nat := (l.takeWhile fun y => ltW y x).length
def insW (l : List Wr) (x : Wr) : List Wr := insAt l (posW l x) x
theorem posW_le (l : List Wr) (x : Wr) : posW l x ≤ l.length := by
  unfold posW
  exact List.Sublist.length_le (List.takeWhile_sublist _)
theorem posW_is : ∀ (l : List Wr) (x : Wr) (k : Nat) (hk : k ≤ l.length) (h1 : ∀ i (h : i < l.length), i < k → ltW l[i] x = true) (h2 : ∀ h : k < l.length, ltW l[k] x = false), posW l x = k
  | [], x, k, hk, _, _ => by
    have : k = 0 := by simpa using hk
    subst this; rfl
  | y :: l, x, 0, hk, _, h2 => by
    have h3 : ltW y x = false := h2 (by simp)
    unfold posW
    rw [List.takeWhile_cons_of_neg (by simp [h3])]; rfl
  | y :: l, x, k + 1, hk, h1, h2 => by
    have h3 : ltW y x = true := h1 0 (by simp) (by omega)
    have ih := posW_is l x k (by simpa using hk) (fun i h hi => h1 (i + 1) (by simpa using h) (by omega)) (fun h => h2 (by simpa using h))
    unfold posW at ih ⊢
    rw [List.takeWhile_cons_of_pos (by simpa using h3), List.length_cons, ih]
theorem exec_idxW {o : Oper} {a : Act} (x y : Operand) (ho : o.op = .indexAddr 24 x y) (b f len cap k : Nat) (hx : a.eval x = .slice (some ⟨b, f, none⟩) len cap) (hy : a.eval y = .int .i64 (k : Int)) (hk : k < len) (w : World) :
    (execOp a.eval o).run Tryz.prog w = .ok (.value (.pointer (some ⟨b, f + k * 6, none⟩))) w := by
  have hs : ∀ w : World, (sizeOf (Tryz.prog.elem 24)).run Tryz.prog w = .ok 6 w := fun w => by kernel_rfl
  unfold execOp
  simp only [ho, hx, hy]
  refine run_value_of ?_
  rw [run_indexAt_slice (h := Tryz.underlying24), if_pos (by omega), hs]
  simp only [Result.andThen_ok, Int.toNat_natCast]
  cases k <;> simp [Addr.add]
set_option maxHeartbeats 8000000 in
theorem docInsert_is (B : Nat) (q : Option Addr) (c : Nat) (l : List Wr) (x : Wr) (w : World) (hO : w.ownsRow B 39 6 (.slice q l.length c) l.length (wcl l)) (hB : B ≤ w.heap.size) (hn : l.length ≤ 10000) :
    Calls Tryz.prog 52 #[.slice q l.length c, .agg x.cells.toArray] w (InsR B (insW l x) w) := by
  have HO := Lib.hid hO
  clear hO
  have TAIL : Hid (∀ (V : World) (k : Nat), Below w.heap.size w V → k ≤ l.length → (∀ i (h : i < l.length), i < k → ltW l[i] x = true) → (∀ h : k < l.length, ltW l[k] x = false) → Calls Tryz.prog 72 #[.slice q l.length c, .int .i64 (k : Int), .slice (some ⟨V.heap.size, 0, none⟩) 1 1] (V.alloc (.cells x.cells.toArray 39)) (InsR B (insW l x) w)) := Lib.hid fun V k hV hk h1 h2 => by
    have hp := posW_is l x k hk h1 h2
    have b2 := below_alloc V (.cells x.cells.toArray 39)
    have := insSl_is B q c k l x V.heap.size (V.alloc (.cells x.cells.toArray 39)) (own_later HO.out (thenBelow hV b2)) (Nat.le_trans hB (thenBelow hV b2).size) (heap_alloc_new V _) (fun g hg => by
      have h3 := (HO.out.lt g (by rw [hg]; rfl)).2
      have h4 := hV.size
      omega) hk hn
    refine this.mono fun e w' ⟨v, h3, h4, h5⟩ => ⟨v, h3, ?_, ((thenBelow hV b2).mono hB).trans h5⟩
    unfold insW
    rw [hp]; exact h4
  go_enter Tryz.func52, Tryz.ntmps52
  go_wp2_with (refine wpList_gbox rfl _ rfl x.cells.toArray rfl ?_)
  intro g3 w1 l3 h3 hb1
  have B1 := Lib.hid hb1
  have R1 : Hid (w1.rangeAt g3 0 x.cells) := Lib.hid (by simpa using range_of_block h3)
  clear hb1 h3
  have CMP : Hid (∀ y U, Calls Tryz.prog 44 #[.agg y.cells.toArray, .agg x.cells.toArray] U fun e w' => e = .returned (.int .i64 (cmpW y x)) ∧ Below U.heap.size U w') := Lib.hid fun y U => docCompare_is y x U
  have HXC := Lib.hid (rfl : x.cells = x.cells)
  go_wp2
  go_loopw [5] (fun i wr => ∃ k : Nat, k ≤ l.length ∧ i = .int .i64 k ∧ (∀ i (h : i < l.length), i < k → ltW l[i] x = true) ∧ Below w1.heap.size w1 wr) (fun i _ => l.length - (RowKit.intOf i).toNat)
  case atStart => exact ⟨0, Nat.zero_le _, rfl, fun i _ h => by omega, Below.refl _ _⟩
  case round =>
    obtain ⟨k, hk, rfl, hall, hb⟩ := hrel
    have HA := Lib.hid hall; have BB := Lib.hid hb
    clear hall hb
    go_wp2_with fail
    rename_i K2 hK2
    have BD := Lib.hid (to_drew BB.out)
    have XD : Hid (wr.drew.rangeAt g3 0 x.cells) := Lib.hid (range_below R1.out (to_drew BB.out))
    by_cases hkl : k < l.length
    · have LB : Hid (decide ((k : Int) < (l.length : Int)) = true) := Lib.hid (decide_eq_true (by omega))
      have OWD := own_later HO.out (to_drew (thenBelow B1.out BB.out))
      obtain ⟨g, rfl⟩ : ∃ g, q = some ⟨g, 0, none⟩ := by
        rcases OWD.2 with ⟨h1, h2⟩ | ⟨g, cap, cur, h1, _⟩
        · omega
        · injection h1 with h1 _ _
          exact ⟨g, h1⟩
      have YD : Hid (wr.drew.rangeAt g (0 + k * 6) l[k].cells) := Lib.hid fun j u hu => by
        have hj : j < 6 := (List.getElem?_eq_some_iff.1 hu).1
        rw [Nat.zero_add, OWD.cellAt (k * 6 + j) (by omega), show wcl l = l.flatMap Wr.cells from rfl, flat_get Wr.cells_len l k hkl j hj]
        exact hu
      clear OWD
      obtain ⟨y, hy⟩ : ∃ y, l[k] = y := ⟨_, rfl⟩
      rw [hy] at YD
      have YC := Lib.hid hy
      clear hy
      by_cases hlt : cmpW y x < 0
      · have CB : Hid (decide (cmpW y x < 0) = true) := Lib.hid (decide_eq_true hlt)
        have NA : Hid (∀ i (h : i < l.length), i < k + 1 → ltW l[i] x = true) := Lib.hid fun i h hi => by
          rcases Nat.lt_or_ge i k with h3 | h3
          · exact HA.out i h h3
          · obtain rfl : i = k := by omega
            rw [YC.out]; exact CB.out
        clear hlt
        refine rg_calm (by kernel_rfl) rfl (S := fun U => U.rangeAt g (0 + k * 6) y.cells ∧ U.rangeAt g3 0 x.cells ∧ Below w1.heap.size w1 U) ?_
        have m0 := And.intro YD.out (And.intro XD.out BD.out)
        have keep : ∀ U U' : World, Below U.heap.size U U' → U.rangeAt g (0 + k * 6) y.cells ∧ U.rangeAt g3 0 x.cells ∧ Below w1.heap.size w1 U → U'.rangeAt g (0 + k * 6) y.cells ∧ U'.rangeAt g3 0 x.cells ∧ Below w1.heap.size w1 U' := fun U U' hb h => ⟨range_below h.1 hb, range_below h.2.1 hb, thenBelow h.2.2 hb⟩
        refine rgd_pure 0 (some 6) rfl rfl (.int .i64 (k : Int)) (by kernel_rfl) (by kernel_rfl) (by kernel_rfl) (fun _ _ _ _ h => h) (by kernel_rfl) (fun w => by kernel_rfl) m0 ?_
        refine rgd_pure 1 (some 7) rfl rfl (.slice (some ⟨g, 0, none⟩) l.length c) (by kernel_rfl) (by kernel_rfl) (by kernel_rfl) (fun _ _ _ _ h => h) (by kernel_rfl) (fun w => by kernel_rfl) m0 ?_
        refine rgd_pure 2 (some 8) rfl rfl (.int .i64 (l.length : Int)) (by kernel_rfl) (by kernel_rfl) (by kernel_rfl) (fun _ _ _ _ h => h) (by kernel_rfl) (fun w => by kernel_rfl) m0 ?_
        refine rgd_pure 3 (some 9) rfl rfl (.bool true) (by kernel_rfl) (by kernel_rfl) (by kernel_rfl) (fun _ _ _ _ h => h) (by kernel_rfl) (exec_lss _ _ _ _ rfl (k : Int) (l.length : Int) true LB.out (by kernel_rfl) (by kernel_rfl)) m0 ?_
        refine rgd_pure 4 (some 10) rfl rfl (.bool true) (by kernel_rfl) (by kernel_rfl) (by kernel_rfl) (fun _ _ _ _ h => h) (by kernel_rfl) (fun w => by kernel_rfl) m0 ?_
        refine rgd_pure 5 (some 11) rfl rfl (.slice (some ⟨g, 0, none⟩) l.length c) (by kernel_rfl) (by kernel_rfl) (by kernel_rfl) (fun _ _ _ _ h => h) (by kernel_rfl) (fun w => by kernel_rfl) m0 ?_
        refine rgd_pure 6 (some 12) rfl rfl (.int .i64 (k : Int)) (by kernel_rfl) (by kernel_rfl) (by kernel_rfl) (fun _ _ _ _ h => h) (by kernel_rfl) (fun w => by kernel_rfl) m0 ?_
        refine rgd_pure 7 (some 13) rfl rfl (.pointer (some ⟨g, 0 + k * 6, none⟩)) (by kernel_rfl) (by kernel_rfl) (by kernel_rfl) (fun _ _ _ _ h => h) (by kernel_rfl) (exec_idxW _ _ rfl g 0 l.length c k (by kernel_rfl) (by kernel_rfl) hkl) m0 ?_
        refine rgd_pureS 8 (some 14) rfl rfl (.agg y.cells.toArray) (by kernel_rfl) (by kernel_rfl) (by kernel_rfl) (fun _ _ _ _ h => h) (by kernel_rfl) (fun U hU => exec_gload 39 _ rfl g (0 + k * 6) (by kernel_rfl) _ hU.1 Tryz.underlying39 rfl (sizeWr y)) m0 ?_
        refine rgd_pureS 9 (some 15) rfl rfl (.agg x.cells.toArray) (by kernel_rfl) (by kernel_rfl) (by kernel_rfl) (fun _ _ _ _ h => h) (by kernel_rfl) (fun U hU => exec_gload 39 _ rfl g3 (0) (by kernel_rfl) _ hU.2.1 Tryz.underlying39 rfl (sizeWr x)) m0 ?_
        refine rgd_call 10 (some 16) (by kernel_rfl) rfl rfl (by kernel_rfl) 44 (#[.agg y.cells.toArray, .agg x.cells.toArray]) (by kernel_rfl) (CMP.out y _) ?_
        rintro _ U1 ⟨rfl, bU1⟩
        have m1 := keep _ _ bU1 m0
        refine ⟨_, rfl, m1, ?_⟩
        refine rgd_pure 11 (some 17) rfl rfl (.bool true) (by kernel_rfl) (by kernel_rfl) (by kernel_rfl) (fun _ _ _ _ h => h) (by kernel_rfl) (exec_lss _ _ _ _ rfl (cmpW y x) 0 true CB.out (by kernel_rfl) (by kernel_rfl)) m1 ?_
        refine rgd_pure 12 (some 18) rfl rfl (.bool true) (by kernel_rfl) (by kernel_rfl) (by kernel_rfl) (fun _ _ _ _ h => h) (by kernel_rfl) (fun w => by kernel_rfl) m1 ?_
        have M1 := Lib.hid m1
        have KE : K2 { tmps := #[.slice (some ⟨g, 0, none⟩) l.length c, .agg x.cells.toArray, undef, .pointer (some ⟨g3, 0, none⟩), .slice none 0 0, .int .i64 (k : Int), .int .i64 (k : Int), .slice (some ⟨g, 0, none⟩) l.length c, .int .i64 (l.length : Int), .bool true, .bool true, .slice (some ⟨g, 0, none⟩) l.length c, .int .i64 (k : Int), .pointer (some ⟨g, 0 + k * 6, none⟩), .agg y.cells.toArray, .agg x.cells.toArray, .int .i64 (cmpW y x), .bool true, .bool true, u19, u20, undef, undef, undef, undef, undef], defers := [] } U1 := by
          refine hK2 _ _ ?_
          clear hK2 keep m0 m1
          go_wp2
          go_roundw
          case rel => exact ⟨k + 1, by omega, by go_num, NA.out, M1.out.2.2⟩
          case measure => simp [RowKit.intOf]; omega
        exact wpAnyH_done (by kernel_rfl) (Eq.mp (by kernel_rfl) KE) _
      · have CB : Hid (decide (cmpW y x < 0) = false) := Lib.hid (decide_eq_false hlt)
        have NF : Hid (∀ h : k < l.length, ltW l[k] x = false) := Lib.hid fun h => by rw [YC.out]; exact CB.out
        clear hlt
        refine rg_calm (by kernel_rfl) rfl (S := fun U => U.rangeAt g (0 + k * 6) y.cells ∧ U.rangeAt g3 0 x.cells ∧ Below w1.heap.size w1 U) ?_
        have m0 := And.intro YD.out (And.intro XD.out BD.out)
        have keep : ∀ U U' : World, Below U.heap.size U U' → U.rangeAt g (0 + k * 6) y.cells ∧ U.rangeAt g3 0 x.cells ∧ Below w1.heap.size w1 U → U'.rangeAt g (0 + k * 6) y.cells ∧ U'.rangeAt g3 0 x.cells ∧ Below w1.heap.size w1 U' := fun U U' hb h => ⟨range_below h.1 hb, range_below h.2.1 hb, thenBelow h.2.2 hb⟩
        refine rgd_pure 0 (some 6) rfl rfl (.int .i64 (k : Int)) (by kernel_rfl) (by kernel_rfl) (by kernel_rfl) (fun _ _ _ _ h => h) (by kernel_rfl) (fun w => by kernel_rfl) m0 ?_
        refine rgd_pure 1 (some 7) rfl rfl (.slice (some ⟨g, 0, none⟩) l.length c) (by kernel_rfl) (by kernel_rfl) (by kernel_rfl) (fun _ _ _ _ h => h) (by kernel_rfl) (fun w => by kernel_rfl) m0 ?_
        refine rgd_pure 2 (some 8) rfl rfl (.int .i64 (l.length : Int)) (by kernel_rfl) (by kernel_rfl) (by kernel_rfl) (fun _ _ _ _ h => h) (by kernel_rfl) (fun w => by kernel_rfl) m0 ?_
        refine rgd_pure 3 (some 9) rfl rfl (.bool true) (by kernel_rfl) (by kernel_rfl) (by kernel_rfl) (fun _ _ _ _ h => h) (by kernel_rfl) (exec_lss _ _ _ _ rfl (k : Int) (l.length : Int) true LB.out (by kernel_rfl) (by kernel_rfl)) m0 ?_
        refine rgd_pure 4 (some 10) rfl rfl (.bool true) (by kernel_rfl) (by kernel_rfl) (by kernel_rfl) (fun _ _ _ _ h => h) (by kernel_rfl) (fun w => by kernel_rfl) m0 ?_
        refine rgd_pure 5 (some 11) rfl rfl (.slice (some ⟨g, 0, none⟩) l.length c) (by kernel_rfl) (by kernel_rfl) (by kernel_rfl) (fun _ _ _ _ h => h) (by kernel_rfl) (fun w => by kernel_rfl) m0 ?_
        refine rgd_pure 6 (some 12) rfl rfl (.int .i64 (k : Int)) (by kernel_rfl) (by kernel_rfl) (by kernel_rfl) (fun _ _ _ _ h => h) (by kernel_rfl) (fun w => by kernel_rfl) m0 ?_
        refine rgd_pure 7 (some 13) rfl rfl (.pointer (some ⟨g, 0 + k * 6, none⟩)) (by kernel_rfl) (by kernel_rfl) (by kernel_rfl) (fun _ _ _ _ h => h) (by kernel_rfl) (exec_idxW _ _ rfl g 0 l.length c k (by kernel_rfl) (by kernel_rfl) hkl) m0 ?_
        refine rgd_pureS 8 (some 14) rfl rfl (.agg y.cells.toArray) (by kernel_rfl) (by kernel_rfl) (by kernel_rfl) (fun _ _ _ _ h => h) (by kernel_rfl) (fun U hU => exec_gload 39 _ rfl g (0 + k * 6) (by kernel_rfl) _ hU.1 Tryz.underlying39 rfl (sizeWr y)) m0 ?_
        refine rgd_pureS 9 (some 15) rfl rfl (.agg x.cells.toArray) (by kernel_rfl) (by kernel_rfl) (by kernel_rfl) (fun _ _ _ _ h => h) (by kernel_rfl) (fun U hU => exec_gload 39 _ rfl g3 (0) (by kernel_rfl) _ hU.2.1 Tryz.underlying39 rfl (sizeWr x)) m0 ?_
        refine rgd_call 10 (some 16) (by kernel_rfl) rfl rfl (by kernel_rfl) 44 (#[.agg y.cells.toArray, .agg x.cells.toArray]) (by kernel_rfl) (CMP.out y _) ?_
        rintro _ U1 ⟨rfl, bU1⟩
        have m1 := keep _ _ bU1 m0
        refine ⟨_, rfl, m1, ?_⟩
        refine rgd_pure 11 (some 17) rfl rfl (.bool false) (by kernel_rfl) (by kernel_rfl) (by kernel_rfl) (fun _ _ _ _ h => h) (by kernel_rfl) (exec_lss _ _ _ _ rfl (cmpW y x) 0 false CB.out (by kernel_rfl) (by kernel_rfl)) m1 ?_
        refine rgd_pure 12 (some 18) rfl rfl (.bool false) (by kernel_rfl) (by kernel_rfl) (by kernel_rfl) (fun _ _ _ _ h => h) (by kernel_rfl) (fun w => by kernel_rfl) m1 ?_
        have M1 := Lib.hid m1
        have KE : K2 { tmps := #[.slice (some ⟨g, 0, none⟩) l.length c, .agg x.cells.toArray, undef, .pointer (some ⟨g3, 0, none⟩), .slice none 0 0, .int .i64 (k : Int), .int .i64 (k : Int), .slice (some ⟨g, 0, none⟩) l.length c, .int .i64 (l.length : Int), .bool true, .bool true, .slice (some ⟨g, 0, none⟩) l.length c, .int .i64 (k : Int), .pointer (some ⟨g, 0 + k * 6, none⟩), .agg y.cells.toArray, .agg x.cells.toArray, .int .i64 (cmpW y x), .bool false, .bool false, u19, u20, undef, undef, undef, undef, undef], defers := [] } U1 := by
          refine hK2 _ _ ?_
          clear hK2 keep m0 m1
          obtain ⟨c0, c1, c2, c3, c4, c5⟩ := wr_cells M1.out.2.1
          simp only [Nat.zero_add] at c0 c1 c2 c3 c4 c5
          have TL := Lib.hid (TAIL.out U1 k (thenBelow B1.out M1.out.2.2) hk HA.out NF.out)
          clear TAIL CMP HXC HA R1 M1 XD YD YC
          obtain ⟨r, n0, t, d, f, tx⟩ := x
          simp only [Wr.cells] at c0 c1 c2 c3 c4 c5 TL ⊢
          go_wp2_with fail
          refine TL.out.mono ?_
          rintro e w5 ⟨v, rfl, h1, h2⟩
          have F1 := Lib.hid h1; have F2 := Lib.hid h2
          clear h1 h2 TL
          go_wp2
          go_ret
          exact ⟨v, rfl, F1.out, F2.out⟩
        exact wpAnyH_done (by kernel_rfl) (Eq.mp (by kernel_rfl) KE) _
    · have LB : Hid (decide ((k : Int) < (l.length : Int)) = false) := Lib.hid (decide_eq_false (by omega))
      refine rg_calm (by kernel_rfl) rfl (S := fun U => True) ?_
      have m0 : True := trivial
      refine rgd_pure 0 (some 6) rfl rfl (.int .i64 (k : Int)) (by kernel_rfl) (by kernel_rfl) (by kernel_rfl) (fun _ _ _ _ h => h) (by kernel_rfl) (fun w => by kernel_rfl) m0 ?_
      refine rgd_pure 1 (some 7) rfl rfl (.slice q l.length c) (by kernel_rfl) (by kernel_rfl) (by kernel_rfl) (fun _ _ _ _ h => h) (by kernel_rfl) (fun w => by kernel_rfl) m0 ?_
      refine rgd_pure 2 (some 8) rfl rfl (.int .i64 (l.length : Int)) (by kernel_rfl) (by kernel_rfl) (by kernel_rfl) (fun _ _ _ _ h => h) (by kernel_rfl) (fun w => by kernel_rfl) m0 ?_
      refine rgd_pure 3 (some 9) rfl rfl (.bool false) (by kernel_rfl) (by kernel_rfl) (by kernel_rfl) (fun _ _ _ _ h => h) (by kernel_rfl) (exec_lss _ _ _ _ rfl (k : Int) (l.length : Int) false LB.out (by kernel_rfl) (by kernel_rfl)) m0 ?_
      refine rgd_pure 4 (some 10) rfl rfl (.bool false) (by kernel_rfl) (by kernel_rfl) (by kernel_rfl) (fun _ _ _ _ h => h) (by kernel_rfl) (fun w => by kernel_rfl) m0 ?_
      refine rgd_skip 5 (some 11) rfl rfl (by kernel_rfl) (by kernel_rfl) (by kernel_rfl) (fun _ _ _ _ h => h) (by kernel_rfl) m0 ?_
      refine rgd_skip 6 (some 12) rfl rfl (by kernel_rfl) (by kernel_rfl) (by kernel_rfl) (fun _ _ _ _ h => h) (by kernel_rfl) m0 ?_
      refine rgd_skip 7 (some 13) rfl rfl (by kernel_rfl) (by kernel_rfl) (by kernel_rfl) (fun _ _ _ _ h => h) (by kernel_rfl) m0 ?_
      refine rgd_skip 8 (some 14) rfl rfl (by kernel_rfl) (by kernel_rfl) (by kernel_rfl) (fun _ _ _ _ h => h) (by kernel_rfl) m0 ?_
      refine rgd_skip 9 (some 15) rfl rfl (by kernel_rfl) (by kernel_rfl) (by kernel_rfl) (fun _ _ _ _ h => h) (by kernel_rfl) m0 ?_
      refine rgd_skip 10 (some 16) rfl rfl (by kernel_rfl) (by kernel_rfl) (by kernel_rfl) (fun _ _ _ _ h => h) (by kernel_rfl) m0 ?_
      refine rgd_skip 11 (some 17) rfl rfl (by kernel_rfl) (by kernel_rfl) (by kernel_rfl) (fun _ _ _ _ h => h) (by kernel_rfl) m0 ?_
      refine rgd_pure 12 (some 18) rfl rfl (.bool false) (by kernel_rfl) (by kernel_rfl) (by kernel_rfl) (fun _ _ _ _ h => h) (by kernel_rfl) (fun w => by kernel_rfl) m0 ?_
      have KE : K2 { tmps := #[.slice q l.length c, .agg x.cells.toArray, undef, .pointer (some ⟨g3, 0, none⟩), .slice none 0 0, .int .i64 (k : Int), .int .i64 (k : Int), .slice q l.length c, .int .i64 (l.length : Int), .bool false, .bool false, undef, undef, undef, undef, undef, undef, undef, .bool false, u19, u20, undef, undef, undef, undef, undef], defers := [] } wr.drew := by
        refine hK2 _ _ ?_
        clear hK2 m0
        obtain ⟨c0, c1, c2, c3, c4, c5⟩ := wr_cells XD.out
        simp only [Nat.zero_add] at c0 c1 c2 c3 c4 c5
        have TL := Lib.hid (TAIL.out wr.drew k (thenBelow B1.out BD.out) hk HA.out (fun h => absurd h hkl))
        clear TAIL CMP HXC HA R1 XD
        obtain ⟨r, n0, t, d, f, tx⟩ := x
        simp only [Wr.cells] at c0 c1 c2 c3 c4 c5 TL ⊢
        go_wp2_with fail
        refine TL.out.mono ?_
        rintro e w5 ⟨v, rfl, h1, h2⟩
        have F1 := Lib.hid h1; have F2 := Lib.hid h2
        clear h1 h2 TL
        go_wp2
        go_ret
        exact ⟨v, rfl, F1.out, F2.out⟩
      exact wpAnyH_done (by kernel_rfl) (Eq.mp (by kernel_rfl) KE) _
end Go.Proofs.YtijmijokgenflaaGreatDoor
